import Derived.Test.YtckallochdegiaaGreatLawK
namespace Go.Proofs.YtckallochdegiaaGreat
set_option linter.unusedVariables false
set_option linter.unusedSimpArgs false
open Go.RowKit

/-- Numbers that came in. -/
def IntsV (w : World) (v : Value) : Prop := ∃ p n cap, v = .slice p n cap ∧ n ≤ cap ∧ cap ≤ maxLen ∧ (0 < n → ∃ b o, p = some ⟨b, o, none⟩ ∧ b < w.heap.size ∧ ∃ f : Nat → Int, ∀ i, i < n → w.cell? ⟨b, o + i, none⟩ = some (.int .i64 (f i)) ∧ -9223372036854775808 ≤ f i ∧ f i ≤ 9223372036854775807)

/-- A pair's copy, and the law's world about it. -/
structure RwI (wr : World) (B W n m j pb x g : Nat) (iv : Value) (N : Nat) : Prop where
  law : ∃ ps ts ys tv lv, Law wr B W n m ps ts ys iv tv lv ∧ (ps j).x = x ∧ (ps j).g = g ∧ (ps j).G.N = N
  pbk : PBk wr pb x g

theorem RwI.below {wr w' : World} {B W n m j pb x g N : Nat} {iv : Value} (h : RwI wr B W n m j pb x g iv N) (b : Below wr.heap.size wr w') : RwI w' B W n m j pb x g iv N := by
  obtain ⟨⟨ps, ts, ys, tv, lv, h1, h2, h3, hN⟩, h4⟩ := h
  exact ⟨⟨ps, ts, ys, tv, lv, h1.below b, h2, h3, hN⟩, h4.below b⟩

/-- moved, in the law's world. -/
theorem moved_R (w : World) (B W n m j pb x g N : Nat) (iv : Value) (a b : Int) (h : RwI w B W n m j pb x g iv N) (hj : j < m) (hB : B ≤ w.heap.size) (ha0 : -9223372036854775808 ≤ a) (ha1 : a ≤ 9223372036854775807) (hb0 : -9223372036854775808 ≤ b) (hb1 : b ≤ 9223372036854775807) :
    Calls Tryz.prog 19 #[ptr pb, .int .i64 a, .int .i64 b] w fun e w' => e = .returned (.bool true) ∧ (∃ N', RwI w' B W n m j pb x g iv N') ∧ Below B w w' := by
  obtain ⟨⟨ps, ts, ys, tv, lv, h1, h2, h3, hN⟩, h4⟩ := h
  refine (moved_any w pb (ps j) a b (h1.at_ j hj) (by rw [h2, h3]; exact h4) ha0 ha1 hb0 hb1).mono ?_
  rintro _ w' ⟨p', rfl, hx, hg, hp, ho, hb⟩
  refine ⟨rfl, ⟨_, ⟨⟨_, ts, ys, tv, lv, h1.change hj hp hx hg ho hB hb, by simp [hx, h2], by simp [hg, h3], rfl⟩, h4.x (h1.at_ j hj) hb⟩⟩, hb.below (fun k hk => h1.ge j hj k hk) hB⟩
/-- told, in the law's world. -/
theorem told_R (w : World) (B W n m j pb x g N : Nat) (iv : Value) (h : RwI w B W n m j pb x g iv N) (hj : j < m) : Calls Tryz.prog 20 #[ptr pb] w fun e w' => e = .returned (.bool true) ∧ RwI w' B W n m j pb x g iv N ∧ Below w.heap.size w w' := by
  have h0 := h
  obtain ⟨⟨ps, ts, ys, tv, lv, h1, h2, h3, hN⟩, h4⟩ := h
  refine (told_any w pb (ps j) (h1.at_ j hj) (by rw [h2, h3]; exact h4)).mono ?_
  rintro _ w' ⟨rfl, hb⟩
  exact ⟨rfl, h0.below hb, hb⟩
theorem size_R (w : World) (B W n m j pb x g N : Nat) (iv : Value) (h : RwI w B W n m j pb x g iv N) (hj : j < m) : Calls Tryz.prog 23 #[ptr pb, .int .i64 5, .int .i64 0, .int .i64 0] w fun e w' => e = .returned (.bool true) ∧ RwI w' B W n m j pb x g iv N ∧ Below w.heap.size w w' := by
  have h0 := h
  obtain ⟨⟨ps, ts, ys, tv, lv, h1, h2, h3, hN⟩, h4⟩ := h
  refine (asked_size w pb (ps j) 0 0 (h1.at_ j hj) (by rw [h2, h3]; exact h4)).mono ?_
  rintro _ w' ⟨rfl, hb⟩
  exact ⟨rfl, h0.below hb, hb⟩
theorem saved_R (w : World) (B W n m j pb x g N : Nat) (iv : Value) (h : RwI w B W n m j pb x g iv N) (hj : j < m) (hn : n ≤ 2 ^ 22) (hB : B ≤ w.heap.size) : Calls Tryz.prog 21 #[ptr W, .agg #[ptr x, ptr g]] w fun e w' => e = .returned (.bool true) ∧ RwI w' B W (n + 1) m j pb x g iv N ∧ Below B w w' := by
  obtain ⟨⟨ps, ts, ys, tv, lv, h1, h2, h3, hN⟩, h4⟩ := h
  have := saved_any w B W n m j ps ts ys iv tv lv h1 hj hn hB
  rw [h2, h3] at this
  refine this.mono ?_
  rintro _ w' ⟨rfl, ⟨ts', ys', tv', lv', hl⟩, hb, hk⟩
  exact ⟨rfl, ⟨⟨ps, ts', ys', tv', lv', hl, h2, h3, hN⟩, hk _ _ _ h4⟩, hb⟩
theorem members_R (w : World) (B W n m j pb x g N : Nat) (iv : Value) (v : Int) (h : RwI w B W n m j pb x g iv N) (hj : j < m) (hn : n ≤ 2 ^ 22) (hB : B ≤ w.heap.size) : Calls Tryz.prog 22 #[ptr W, .agg #[ptr x, ptr g], .int .i64 v] w fun e w' => e = .returned (.bool true) ∧ RwI w' B W (n + 1) m j pb x g iv N ∧ Below B w w' := by
  obtain ⟨⟨ps, ts, ys, tv, lv, h1, h2, h3, hN⟩, h4⟩ := h
  have := members_any w B W n m j ps ts ys iv tv lv v h1 hj hn hB
  rw [h2, h3] at this
  refine this.mono ?_
  rintro _ w' ⟨rfl, ⟨ts', ys', tv', lv', hl⟩, hb, hk⟩
  exact ⟨rfl, ⟨⟨ps, ts', ys', tv', lv', hl, h2, h3, hN⟩, hk _ _ _ h4⟩, hb⟩
/-- What a pair's copy shows. -/
theorem RwI.cells {w : World} {B W n m j pb x g N : Nat} {iv : Value} (h : RwI w B W n m j pb x g iv N) (hj : j < m) : w.cell? ⟨pb, 0, none⟩ = some (ptr x) ∧ w.cell? ⟨pb, 1, none⟩ = some (ptr g) ∧ (1 ≤ N ∧ N ≤ 48) ∧ w.cell? ⟨g, 0, none⟩ = some (.int .i64 N) := by
  obtain ⟨⟨ps, ts, ys, tv, lv, h1, h2, h3, hN⟩, h4⟩ := h
  have p := h1.at_ j hj
  refine ⟨h4.c0, h4.c1, ⟨by rw [← hN]; exact p.gi.n1, by rw [← hN]; exact p.gi.n48⟩, ?_⟩
  rw [← h3, ← hN]; exact p.gr.c0

set_option maxRecDepth 100000 in
set_option maxHeartbeats 2000000 in
theorem raw_walk (hLd : LoadC) (w : World) (s : ByteArray) (q : Int) (v : Value) (hv : IntsV w v) (hs : s.size ≤ maxLen) : Calls Tryz.prog 13 #[.string s, .int .i64 q, v] w (LawR w) := by
  obtain ⟨vp, vn, vcap, rfl, hv1, hv2, hv3⟩ := hv
  unfold maxLen at hs hv2
  have HV := hid hv3
  have HL0 := hid (law_new w)
  have HLd := hid hLd
  clear hv3 hLd
  by_cases c1 : (1048576 : Int) < (s.size : Int)
  · have c1' : decide ((1048576 : Int) < (s.size : Int)) = true := by simpa using c1
    go_enter Tryz.func13, Tryz.ntmps13
    go_wp2
    go_ret
    exact ⟨rfl, Below.refl _ _⟩
  · have c1' : decide ((1048576 : Int) < (s.size : Int)) = false := by simpa using c1
    by_cases c2 : (1048576 : Int) < (vn : Int)
    · have c2' : decide ((1048576 : Int) < (vn : Int)) = true := by simpa using c2
      go_enter Tryz.func13, Tryz.ntmps13
      go_wp2
      go_ret
      exact ⟨rfl, Below.refl _ _⟩
    · have c2' : decide ((1048576 : Int) < (vn : Int)) = false := by simpa using c2
      go_enter Tryz.func13, Tryz.ntmps13
      go_wp2_with fail
      obtain ⟨W, hW⟩ : ∃ W, W = w.heap.size := ⟨_, rfl⟩
      have HL1 : Hid (LawX (w.alloc (.cells #[.slice none 0 0, .slice none 0 0, .slice none 0 0, .bool false] 31)) w.heap.size W 0) := by rw [hW]; exact HL0.out
      have HB1 : Hid (Below w.heap.size w (w.alloc (.cells #[.slice none 0 0, .slice none 0 0, .slice none 0 0, .bool false] 31))) := (Below.refl _ _).alloc (Nat.le_refl _) _
      rw [← hW]
      clear hW HL0
      generalize w.alloc (.cells #[.slice none 0 0, .slice none 0 0, .slice none 0 0, .bool false] 31) = w1 at HL1 HB1 ⊢
      obtain ⟨m1, ps1, ts1, ys1, iv1, tv1, lv1, hl1⟩ := HL1.out
      refine (loaded_F HLd.out w1 w.heap.size W 0 m1 ps1 ts1 ys1 iv1 tv1 lv1 s q hl1 (by omega) HB1.out.size (by omega)).mono ?_
      rintro _ w2 ⟨rfl, ⟨m2, ps2, iv2, hl2⟩, hb2, _⟩
      have HB2 : Hid (Below w.heap.size w w2) := HB1.out.trans hb2
      have HL2 := hid hl2
      clear hl1 hl2 hb2 HL1 HB1
      go_wp2_with fail
      refine (Sealed_any w2 s (by omega)).mono ?_
      rintro _ w3 ⟨s3, rfl, hs3, hb3⟩
      have HL3 := hid (HL2.out.below hb3)
      have HB3 : Hid (Below w.heap.size w w3) := HB2.out.trans (hb3.mono HB2.out.size)
      clear hb3 HL2 HB2
      go_wp2_with fail
      refine (loaded_F HLd.out w3 w.heap.size W 1 m2 ps2 ts1 ys1 iv2 tv1 lv1 s3 q HL3.out (by omega) HB3.out.size (by omega)).mono ?_
      rintro _ w4 ⟨rfl, ⟨m4, ps4, iv4, hl4⟩, hb4, _⟩
      have HB4 : Hid (Below w.heap.size w w4) := HB3.out.trans hb4
      have HL4 := hid hl4
      have d0 := hl4.c0
      have hm2 : m4 ≤ 2 := hl4.il
      obtain ⟨ip, ic, hiv⟩ : ∃ p c, iv4 = .slice p m4 c := by
        rcases hl4.iO.2 with ⟨e1, e2⟩ | ⟨gb, cap, cur, e1, _⟩
        · exact ⟨none, 0, by rw [e1, e2]⟩
        · exact ⟨_, _, e1⟩
      have HIv := hid hiv
      rw [hiv] at d0
      clear hl4 hb4 HL3 HB3 hiv
      go_wp2_with fail
      clear d0
      go_loopw [39] (fun a wr => ∃ j : Nat, j ≤ m4 ∧ a = .int .i64 j ∧ Hid (∃ ps ts ys tv lv, Law wr w.heap.size W (2 + 2 * j) m4 ps ts ys iv4 tv lv) ∧ Hid (Below w.heap.size w wr)) (fun a _ => m4 - (intOf a).toNat)
      case atStart => exact ⟨0, by omega, rfl, ⟨ps4, ts1, ys1, tv1, lv1, HL4.out⟩, HB4⟩
      case round =>
        clear HL4 HB4
        obtain ⟨j, hj, rfl, hL, hB⟩ := hrel
        have hBs := hB.out.size
        by_cases cj : j < m4
        · have cj' : (j : Int) < (m4 : Int) := by omega
          obtain ⟨ps, ts, ys, tv, lv, hl⟩ := hL.out
          rcases hl.pairs with ⟨e0, _⟩ | ⟨_, ig, ic', hiv', hic, him, hig, hcells⟩
          · omega
          · rw [HIv.out] at hiv'
            simp only [Value.slice.injEq, true_and] at hiv'
            obtain ⟨rfl, rfl⟩ := hiv'
            unfold maxLen at him
            obtain ⟨dx, dg⟩ := hcells j cj
            have HR0 : Hid (∃ N, RwI (wr.alloc (.cells #[ptr (ps j).x, ptr (ps j).g] 37)) w.heap.size W (2 + 2 * j) m4 j wr.heap.size (ps j).x (ps j).g iv4 N) := by
              refine ⟨_, ⟨ps, ts, ys, tv, lv, hl.below ((Below.refl _ _).alloc (Nat.le_refl _) _), rfl, rfl, rfl⟩, ?_⟩
              refine World.rowIs_alloc wr #[ptr (ps j).x, ptr (ps j).g] 37 _ ?_
              intro i hi
              match i, hi with
              | 0, _ => rfl
              | 1, _ => rfl
            have HB5 : Hid (Below w.heap.size w (wr.alloc (.cells #[ptr (ps j).x, ptr (ps j).g] 37))) := hB.out.alloc hBs _
            clear hl hcells hL
            generalize (ps j).x = x at dx HR0 HB5
            generalize (ps j).g = g at dg HR0 HB5
            go_wp2_with fail
            generalize wr.alloc (.cells #[ptr x, ptr g] 37) = w5 at HR0 HB5 ⊢
            generalize wr.heap.size = pb at HR0 ⊢
            clear dx dg hB hBs
            go_loopw [10] (fun a wr => ∃ k : Nat, k ≤ vn + 1 ∧ a = .int .i64 k ∧ Hid (∃ N, RwI wr w.heap.size W (2 + 2 * j) m4 j pb x g iv4 N) ∧ Hid (Below w.heap.size w wr)) (fun a _ => vn + 2 - (intOf a).toNat)
            case atStart => exact ⟨0, by omega, rfl, HR0, HB5⟩
            case round =>
              clear HR0 HB5
              obtain ⟨k, hk, rfl, hR, hB6⟩ := hrel
              have hB6s := hB6.out.size
              by_cases ck : k + 1 < vn
              · have ck1 : (k : Int) + 1 < (vn : Int) := by omega
                have ck2 : (k : Int) < (vn : Int) := by omega
                have ck3 : ((k : Int) + 1).toNat = k + 1 := by omega
                have ck4 : (0 : Int) ≤ (k : Int) + 1 := by omega
                have ck5 : IntKind.i64.wrap ((k : Int) + 1) = (k : Int) + 1 := by rw [IntKind.wrap_i64]; omega
                obtain ⟨vb, vo, hvp, hvl, f, hf⟩ := HV.out (by omega)
                subst hvp
                obtain ⟨y0, r01, r02⟩ := hf k (by omega)
                obtain ⟨y1, r11, r12⟩ := hf (k + 1) (by omega)
                have z0 : wr.cell? ⟨vb, vo + k, none⟩ = some (.int .i64 (f k)) := (hB6.out.cell (p := ⟨vb, vo + k, none⟩) hvl).trans y0
                have z1 : wr.cell? ⟨vb, vo + (k + 1), none⟩ = some (.int .i64 (f (k + 1))) := (hB6.out.cell (p := ⟨vb, vo + (k + 1), none⟩) hvl).trans y1
                have HRa := hid (And.intro (And.intro r01 r02) (And.intro r11 r12))
                clear hf y0 y1 r01 r02 r11 r12
                generalize f k = fa at z0 HRa
                generalize f (k + 1) = fb at z1 HRa
                have HCm : Hid (∀ wx, Below wr.heap.size wr wx → Calls Tryz.prog 19 #[ptr pb, .int .i64 fa, .int .i64 fb] wx fun e w' => e = .returned (.bool true) ∧ (∃ N, RwI w' w.heap.size W (2 + 2 * j) m4 j pb x g iv4 N) ∧ Below w.heap.size w w' ∧ w'.cell? ⟨vb, vo + k, none⟩ = some (.int .i64 fa) ∧ w'.cell? ⟨vb, vo + (k + 1), none⟩ = some (.int .i64 fb)) := by
                  intro wx hbx
                  obtain ⟨N, hRN⟩ := hR.out
                  refine (moved_R wx w.heap.size W (2 + 2 * j) m4 j pb x g N iv4 fa fb (hRN.below hbx) cj (Nat.le_trans hB6s hbx.size) HRa.out.1.1 HRa.out.1.2 HRa.out.2.1 HRa.out.2.2).mono ?_
                  rintro _ w7 ⟨rfl, h7, hb7⟩
                  have hbw : Below w.heap.size wr w7 := (hbx.mono hB6s).trans hb7
                  exact ⟨rfl, h7, hB6.out.trans hbw, (hbw.cell (p := ⟨vb, vo + k, none⟩) hvl).trans z0, (hbw.cell (p := ⟨vb, vo + (k + 1), none⟩) hvl).trans z1⟩
                go_wp2_with fail
                go_region_held (fun w' => w'.cell? ⟨vb, vo + k, none⟩ = some (.int .i64 fa) ∧ w'.cell? ⟨vb, vo + (k + 1), none⟩ = some (.int .i64 fb)) (first | exact ⟨by assumption, by assumption⟩ | trivial)
                  (first | (go_at_call 19; refine (HCm.out _ (by first | exact Below.refl _ _ | exact (Below.refl _ _).drew)).mono ?_; rintro _ w7 ⟨rfl, h7, hb7, f1, f2⟩; have HR7 := hid h7; have HB7 := hid hb7; clear h7 hb7))
                all_goals
                  go_wp2
                  exact ⟨⟨k + 2, by omega, by go_num, HR7, HB7⟩, by simp [intOf]; omega⟩
              · have ck1 : ¬ (k : Int) + 1 < (vn : Int) := by omega
                obtain ⟨N, hRN⟩ := hR.out
                obtain ⟨e0, e1, ⟨n1, n48⟩, e2⟩ := hRN.cells cj
                have HR := hid hRN
                have hn1 : (1 : Int) ≤ (N : Int) := by omega
                clear hR hRN
                go_wp2_with fail
                go_region_held (fun w' => w'.cell? ⟨pb, 0, none⟩ = some (ptr x) ∧ w'.cell? ⟨pb, 1, none⟩ = some (ptr g) ∧ w'.cell? ⟨g, 0, none⟩ = some (.int .i64 N)) (first | exact ⟨by assumption, by assumption, by assumption⟩ | trivial)
                  (first
                    | (go_at_call 20; refine (told_R _ w.heap.size W (2 + 2 * j) m4 j pb x g N iv4 (HR.out.below (by first | exact Below.refl _ _ | exact (Below.refl _ _).drew)) cj).mono ?_; rintro _ w7 ⟨rfl, h7, hb7⟩; have HR7 := hid h7; have HB7 : Hid (Below w.heap.size w w7) := hB6.out.trans (Below.mono (by first | exact hb7 | exact below_drew hb7) hB6s); obtain ⟨f0, f1, -, f2⟩ := h7.cells cj; clear h7 hb7)
                    | (go_at_call 21; refine (saved_R _ w.heap.size W (2 + 2 * j) m4 j pb x g N iv4 (HR7.out.below (by first | exact Below.refl _ _ | exact (Below.refl _ _).drew)) cj (by omega) (by exact HB7.out.size)).mono ?_; rintro _ w8 ⟨rfl, h8, hb8⟩; have HR8 := hid h8; have HB8 : Hid (Below w.heap.size w w8) := HB7.out.trans hb8; obtain ⟨g0, g1, -, g2⟩ := h8.cells cj; clear h8 hb8)
                    | (go_at_call 22; refine (members_R _ w.heap.size W (2 + 2 * j + 1) m4 j pb x g N iv4 _ (HR8.out.below (by first | exact Below.refl _ _ | exact (Below.refl _ _).drew)) cj (by omega) (by exact HB8.out.size)).mono ?_; rintro _ w9 ⟨rfl, h9, hb9⟩; have HR9 := hid h9; have HB9 : Hid (Below w.heap.size w w9) := HB8.out.trans hb9; obtain ⟨i0, i1, -, i2⟩ := h9.cells cj; clear h9 hb9)
                    | (go_at_call 23; refine (size_R _ w.heap.size W (2 + 2 * j + 1 + 1) m4 j pb x g N iv4 (HR9.out.below (by first | exact Below.refl _ _ | exact (Below.refl _ _).drew)) cj).mono ?_; rintro _ wA ⟨rfl, hA, hbA⟩; have HRA := hid hA; have HBA : Hid (Below w.heap.size w wA) := HB9.out.trans (Below.mono hbA (by exact HB9.out.size)); obtain ⟨j0, j1, -, j2⟩ := hA.cells cj; clear hA hbA))
                all_goals
                  go_wp2
                  obtain ⟨⟨ps, ts, ys, tv, lv, hl, _⟩, _⟩ := HRA.out
                  exact ⟨⟨j + 1, by omega, by go_num, ⟨ps, ts, ys, tv, lv, by rw [show 2 + 2 * (j + 1) = 2 + 2 * j + 1 + 1 by omega]; exact hl⟩, HBA⟩, by simp [intOf]; omega⟩
        · have cj' : ¬ (j : Int) < (m4 : Int) := by omega
          obtain ⟨ps, ts, ys, tv, lv, hl⟩ := hL.out
          have HLk := hid (looks_any wr w.heap.size W (2 + 2 * j) m4 ps ts ys iv4 tv lv hl (by omega))
          clear hl hL
          go_wp2_with fail
          refine HLk.out.mono ?_
          rintro _ w9 ⟨rfl, hw⟩
          replace hw := hw.symm
          subst hw
          go_wp2
          go_ret
          exact ⟨rfl, hB.out⟩

end Go.Proofs.YtckallochdegiaaGreat
