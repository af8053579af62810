import Derived.Test.YtckallochdegiaaGreatLawH
import Derived.Test.YtckallochdegiaaGreatLoadX
namespace Go.Proofs.YtckallochdegiaaGreat
set_option linter.unusedVariables false
set_option linter.unusedSimpArgs false
open Go.RowKit

theorem Law.pairs {w : World} {B W n m : Nat} {ps : Nat → Pr} {ts : List ByteArray} {ys : List Value} {iv tv lv : Value} (h : Law w B W n m ps ts ys iv tv lv) : (m = 0 ∧ ∃ p c, iv = .slice p 0 c) ∨ (0 < m ∧ ∃ g c, iv = .slice (some ⟨g, 0, none⟩) m c ∧ m ≤ c ∧ c ≤ maxLen ∧ g < w.heap.size ∧ ∀ j, j < m → w.cell? ⟨g, j * 2, none⟩ = some (ptr (ps j).x) ∧ w.cell? ⟨g, j * 2 + 1, none⟩ = some (ptr (ps j).g)) := by
  by_cases c : m = 0
  · refine Or.inl ⟨c, ?_⟩
    subst c
    rcases h.iO.2 with ⟨q, q2⟩ | ⟨gb, cap, cur, q, _⟩
    · exact ⟨none, 0, q⟩
    · exact ⟨_, _, q⟩
  · refine Or.inr ⟨by omega, ?_⟩
    rcases h.iO.2 with ⟨_, q2⟩ | ⟨gb, cap, cur, q, _, q3, q4, q5, _⟩
    · omega
    · refine ⟨gb, cap, q, q4, q5, (Array.getElem?_eq_some_iff.1 q3).1, fun j hj => ?_⟩
      have e := pcells_get ps m j hj
      have c0 := h.iO.cells (g := gb) (by rw [q]; rfl) (j * 2) _ e.1
      have c1 := h.iO.cells (g := gb) (by rw [q]; rfl) (j * 2 + 1) _ e.2
      rw [addr_add, Nat.zero_add] at c0 c1
      exact ⟨c0, c1⟩

/-- What a step answers. -/
def StepR (B W n : Nat) (k : Int) (w : World) (e : Ending) (w' : World) : Prop := ∃ b : Bool, e = .returned (.bool b) ∧ (b = false → k = 11) ∧ Goes B W n w w'

theorem Goes.after {B W n : Nat} {w w1 w2 : World} (b : Below w.heap.size w w1) (hB : B ≤ w.heap.size) (h : Goes B W n w1 w2) : Goes B W n w w2 := ⟨h.1, (b.mono hB).trans h.2⟩
theorem Goes.still {B W n m : Nat} {ps : Nat → Pr} {ts : List ByteArray} {ys : List Value} {iv tv lv : Value} {w w1 : World} (h : Law w B W n m ps ts ys iv tv lv) (b : Below w.heap.size w w1) (hB : B ≤ w.heap.size) : Goes B W (n + 1) w w1 := ⟨⟨m, ps, ts, ys, iv, tv, lv, (h.below b).mono (by omega)⟩, b.mono hB⟩
theorem Goes.changed {B W n m j : Nat} {ps : Nat → Pr} {ts : List ByteArray} {ys : List Value} {iv tv lv : Value} {w w1 : World} {e : Ending} (h : Law w B W n m ps ts ys iv tv lv) (hj : j < m) (hB : B ≤ w.heap.size) (c : ChR (ps j) w e w1) : Goes B W (n + 1) w w1 := by
  obtain ⟨p', _, hx, hg, hp, ho, hb⟩ := c
  exact ⟨⟨m, _, ts, ys, iv, tv, lv, (h.change hj hp hx hg ho hB hb).mono (by omega)⟩, hb.below (fun k hk => h.ge j hj k hk) hB⟩

end Go.Proofs.YtckallochdegiaaGreat
namespace Go.Proofs.YtckallochdegiaaGreat
set_option linter.unusedVariables false
set_option linter.unusedSimpArgs false
open Go.RowKit

set_option maxRecDepth 100000 in
set_option maxHeartbeats 1000000 in
theorem step_F (hLd : LoadC) (w : World) (B W n m : Nat) (ps : Nat → Pr) (ts : List ByteArray) (ys : List Value) (iv tv lv : Value) (k a b c : Int) (s t : ByteArray) (h : Law w B W n m ps ts ys iv tv lv) (hn : n ≤ 2 ^ 22) (hB : B ≤ w.heap.size) (hs : s.size ≤ 1048576) (ha0 : -9223372036854775808 ≤ a) (ha1 : a ≤ 9223372036854775807) (hb0 : -9223372036854775808 ≤ b) (hb1 : b ≤ 9223372036854775807) (hc0 : -9223372036854775808 ≤ c) (hc1 : c ≤ 9223372036854775807) :
    Calls Tryz.prog 25 #[ptr W, .agg (opc k a b c s t)] w (MadeR B W (n + 1) w) := by
  have HLd := hid hLd
  clear hLd
  have hil := h.il
  have htl := h.tl
  obtain ⟨w1, hw1⟩ : ∃ w1 : World, w1 = w.alloc (.cells #[.int .i64 k, .int .i64 a, .int .i64 b, .int .i64 c, .string s, .string t] 49) := ⟨_, rfl⟩
  have HB1 : Hid (Below w.heap.size w w1) := by rw [hw1]; exact (Below.refl _ _).alloc (Nat.le_refl _) _
  have HL1 := hid (h.below HB1.out)
  have HC : Hid (∀ j, w1.cell? ⟨w.heap.size, j, none⟩ = (#[.int .i64 k, .int .i64 a, .int .i64 b, .int .i64 c, .string s, .string t] : Array Value)[j]?) := by rw [hw1]; exact fun j => new_cell _ _ _ j
  have hs1 : w.heap.size < w1.heap.size := by rw [hw1]; simp
  have hB1 : B ≤ w1.heap.size := Nat.le_trans hB HB1.out.size
  have HBw := hid hB
  have HIv : Hid (∀ k, iv.ownBlock = some k → k < w.heap.size) := fun k hk => (h.iO.lt k hk).2
  have HWl : Hid (W < w.heap.size) := h.row.lt
  have HW1 := hid hw1
  clear h hw1
  unfold opc
  go_enter Tryz.func25, Tryz.ntmps25
  go_wp2_with fail
  rw [← HW1.out]
  obtain ⟨ob, hob⟩ : ∃ ob, ob = w.heap.size := ⟨_, rfl⟩
  rw [← hob] at HC hs1 HIv HWl ⊢
  clear hob
  refine (owner_any w1 B W n m ps ts ys iv tv lv k a b c s t HL1.out hn hB1 hs ha0 ha1 hb0 hb1).mono ?_
  rintro _ w2 (⟨rfl, hg⟩ | ⟨rfl, hb2⟩)
  · have HG := hid (hg.after HB1.out HBw.out)
    clear hg
    go_wp2
    go_ret
    exact ⟨rfl, HG.out⟩
  · have HB2 : Hid (Below w.heap.size w w2) := HB1.out.trans (hb2.mono HB1.out.size)
    have HL2 := hid (HL1.out.below hb2)
    have HO : Hid (∀ w', Below w2.heap.size w2 w' → w'.cell? ⟨ob, 0, none⟩ = some (.int .i64 k) ∧ w'.cell? ⟨ob, 1, none⟩ = some (.int .i64 a) ∧ w'.cell? ⟨ob, 2, none⟩ = some (.int .i64 b) ∧ w'.cell? ⟨ob, 3, none⟩ = some (.int .i64 c)) := by
      intro w' hb'
      have hbb : Below w1.heap.size w1 w' := hb2.trans (hb'.mono hb2.size)
      exact ⟨(hbb.cell (p := ⟨ob, 0, none⟩) hs1).trans (HC.out 0), (hbb.cell (p := ⟨ob, 1, none⟩) hs1).trans (HC.out 1), (hbb.cell (p := ⟨ob, 2, none⟩) hs1).trans (HC.out 2), (hbb.cell (p := ⟨ob, 3, none⟩) hs1).trans (HC.out 3)⟩
    have hB2 : B ≤ w2.heap.size := Nat.le_trans hB1 hb2.size
    have hob2 : ob < w2.heap.size := Nat.lt_of_lt_of_le hs1 hb2.size
    clear hb2 HL1 HC hs1 HW1
    obtain ⟨o0, o1, o2, o3⟩ := HO.out w2 (Below.refl _ _)
    have hWl : W < w2.heap.size := HL2.out.row.lt
    by_cases k1 : k = 1
    · subst k1
      go_wp2_with fail
      refine (made_any w2 B W n m ps ts ys iv tv lv a b HL2.out hn hB2).mono ?_
      rintro _ w3 ⟨rfl, hg⟩
      have HG := hid (hg.after HB2.out HBw.out)
      clear hg o0 o1 o2 o3
      go_wp2
      go_ret
      exact ⟨rfl, HG.out⟩
    · have k1' : (k == 1) = false := by simpa using k1
      by_cases k11 : k = 11
      · subst k11
        rcases HL2.out.texts with ⟨e0, tp, tc, htv⟩ | ⟨hpos, tg, tc, htv, htc, htm, htg, hcells⟩
        · have D1 : w2.cell? ⟨W, 1, none⟩ = some (.slice tp 0 tc) := by rw [← htv]; exact HL2.out.c1
          clear e0 htv
          go_wp2_with fail
          go_quiet (fail)
          go_wp2
          go_ret
          exact ⟨rfl, (Goes.still HL2.out (Below.drewN' _ (Below.refl _ _)) hB2).after HB2.out HBw.out⟩
        · have D1 : w2.cell? ⟨W, 1, none⟩ = some (.slice (some ⟨tg, 0, none⟩) ts.length tc) := by rw [← htv]; exact HL2.out.c1
          have hz : ((ts.length : Int) == 0) = false := beq_eq_false_iff_ne.2 (by omega)
          unfold maxLen at htm
          have hpk := pk_lt a hpos
          have hpk' : ((pk a ts.length : Nat) : Int) < (ts.length : Int) := by omega
          have dt := hcells (pk a ts.length) hpk
          have HTz : Hid ((ts[pk a ts.length]?.getD ⟨#[]⟩).size ≤ 1048576) := HL2.out.tz _ (by rw [List.getElem?_eq_getElem hpk]; exact List.getElem_mem hpk)
          have HPk : Hid (∀ wx, Calls Tryz.prog 32 #[.int .i64 a, .int .i64 ts.length] wx fun e w' => e = .returned (.int .i64 (pk a ts.length)) ∧ w' = wx) := fun wx => pick_any wx a ts.length hpos ha0 ha1 (by omega)
          generalize ts[pk a ts.length]?.getD ⟨#[]⟩ = tj at dt HTz
          generalize pk a ts.length = j at hpk hpk' dt HPk
          have HCl : Hid (∀ wx, Below w2.heap.size w2 wx → Calls Tryz.prog 17 #[ptr W, .string tj, .int .i64 b] wx fun e w3 => e = .returned (.bool true) ∧ Goes B W (n + 1) w w3 ∧ w3.cell? ⟨W, 1, none⟩ = some (.slice (some ⟨tg, 0, none⟩) ts.length tc) ∧ w3.cell? ⟨ob, 1, none⟩ = some (.int .i64 a) ∧ w3.cell? ⟨ob, 2, none⟩ = some (.int .i64 b) ∧ w3.cell? ⟨tg, j, none⟩ = some (.string tj)) := by
            intro wx hbx
            refine (loaded_F HLd.out wx B W n m ps ts ys iv tv lv tj b (HL2.out.below hbx) hn (Nat.le_trans hB2 hbx.size) (by have := HTz.out; omega)).mono ?_
            rintro _ w3 ⟨rfl, ⟨m', ps', iv', hl'⟩, hbw, hbt⟩
            have q1 : ∀ k v, w2.cell? ⟨ob, k, none⟩ = some v → w3.cell? ⟨ob, k, none⟩ = some v := fun k v hv => by
              have e := hbt.block ob (Nat.lt_of_lt_of_le hob2 hbx.size) (fun q => by
                rcases q with q | q
                · have := HWl.out; omega
                · have := HIv.out ob q.symm; omega)
              rw [World.cell?_of_block (w := wx) (a := ⟨ob, k, none⟩) e, hbx.cell (p := ⟨ob, k, none⟩) hob2]; exact hv
            have q2 := hl'.c1
            rw [htv] at q2
            have ht2 := (owns_ty (HL2.out.below hbx).tO (k := tg) (by rw [htv]; rfl))
            have q3 : w3.cell? ⟨tg, j, none⟩ = some (.string tj) := by
              have e := hbt.block tg (Nat.lt_of_lt_of_le htg hbx.size) (fun q => by
                rcases q with q | q
                · exact ht2.ne (HL2.out.below hbx).tyW (by decide) q
                · exact ht2.ne (owns_ty (HL2.out.below hbx).iO q.symm) (by decide) rfl)
              rw [World.cell?_of_block (w := wx) (a := ⟨tg, j, none⟩) e, hbx.cell (p := ⟨tg, j, none⟩) htg]; exact dt
            refine ⟨rfl, ?_, q2, q1 1 _ o1, q1 2 _ o2, q3⟩
            have hb2w : Below B w w3 := (HB2.out.mono HBw.out).trans ((hbx.mono hB2).trans hbw)
            exact ⟨⟨m', ps', ts, ys, iv', tv, lv, hl'⟩, hb2w⟩
          clear hcells htv
          go_wp2_with fail
          go_region_held (fun w' => w'.cell? ⟨W, 1, none⟩ = some (.slice (some ⟨tg, 0, none⟩) ts.length tc) ∧ w'.cell? ⟨ob, 1, none⟩ = some (.int .i64 a) ∧ w'.cell? ⟨ob, 2, none⟩ = some (.int .i64 b) ∧ w'.cell? ⟨tg, j, none⟩ = some (.string tj)) (first | exact ⟨by assumption, by assumption, by assumption, by assumption⟩ | trivial)
            (first
              | (go_at_call 32; refine (HPk.out _).mono ?_; rintro _ w' ⟨rfl, rfl⟩)
              | (go_at_call 17; refine (HCl.out _ (by first | exact Below.refl _ _ | exact (Below.refl _ _).drew)).mono ?_; rintro _ w3 ⟨rfl, hg3, f1, f2, f3, f4⟩; have HG3 := hid hg3; clear hg3))
          all_goals
            go_wp2
            go_ret
            exact ⟨rfl, HG3.out⟩
      · have k11' : (k == 11) = false := by simpa using k11
        rcases HL2.out.pairs with ⟨e0, ip, ic, hiv⟩ | ⟨hpos, ig, ic, hiv, hic, him, hig, hcells⟩
        · have D0 : w2.cell? ⟨W, 0, none⟩ = some (.slice ip 0 ic) := by rw [← hiv]; exact HL2.out.c0
          clear e0 hiv
          go_wp2
          go_ret
          exact ⟨rfl, (Goes.still HL2.out (Below.refl _ _) hB2).after HB2.out HBw.out⟩
        · have D0 : w2.cell? ⟨W, 0, none⟩ = some (.slice (some ⟨ig, 0, none⟩) m ic) := by rw [← hiv]; exact HL2.out.c0
          have hz : ((m : Int) == 0) = false := beq_eq_false_iff_ne.2 (by omega)
          unfold maxLen at him
          have hpk := pk_lt a hpos
          have hpk' : ((pk a m : Nat) : Int) < (m : Int) := by omega
          obtain ⟨dx, dg⟩ := hcells (pk a m) hpk
          have HPk : Hid (∀ wx, Calls Tryz.prog 32 #[.int .i64 a, .int .i64 m] wx fun e w' => e = .returned (.int .i64 (pk a m)) ∧ w' = wx) := fun wx => pick_any wx a m hpos ha0 ha1 (by omega)
          generalize pk a m = j at hpk hpk' dx dg HPk
          clear hcells hiv
          have far2 : ∀ (o : Obj) (x y : Nat) (v : Value), x < w2.heap.size → w2.cell? ⟨x, y, none⟩ = some v → (w2.alloc o).cell? ⟨x, y, none⟩ = some v := fun o x y v hx hv => by rw [((Below.refl w2.heap.size w2).alloc (Nat.le_refl _) o).cell (p := ⟨x, y, none⟩) hx]; exact hv
          have E0 := fun o => far2 o _ _ _ hWl D0
          have Ex := fun o => far2 o _ _ _ hig dx
          have Eg := fun o => far2 o _ _ _ hig dg
          have Eo := fun o => far2 o _ _ _ hob2 o1
          clear far2
          go_wp2_with fail
          go_cut [5] from 47 to 66 (fun x wx => ∃ pb : Nat, x = ptr pb ∧ Hid (PBk wx pb (ps j).x (ps j).g) ∧ Hid (Below w2.heap.size w2 wx))
          case first =>
            go_region_held (fun w' => w'.cell? ⟨W, 0, none⟩ = some (.slice (some ⟨ig, 0, none⟩) m ic) ∧ w'.cell? ⟨ob, 1, none⟩ = some (.int .i64 a) ∧ w'.cell? ⟨ig, j * 2, none⟩ = some (ptr (ps j).x) ∧ w'.cell? ⟨ig, j * 2 + 1, none⟩ = some (ptr (ps j).g)) (first | exact ⟨D0, o1, dx, dg⟩ | exact ⟨E0 _, Eo _, Ex _, Eg _⟩ | exact ⟨by assumption, by assumption, by assumption, by assumption⟩) (first | (go_at_call 32; refine (HPk.out _).mono ?_; rintro _ w' ⟨rfl, rfl⟩))
            all_goals
              go_wp2
              go_meet
              case rel =>
                refine ⟨w2.heap.size, rfl, ?_, ((Below.refl _ _).alloc (Nat.le_refl _) _).drew⟩
                refine World.rowIs_alloc w2 #[ptr (ps j).x, ptr (ps j).g] 37 _ ?_
                intro i hi
                match i, hi with
                | 0, _ => rfl
                | 1, _ => rfl
          case rest =>
            obtain ⟨pb, rfl, hK, hB3⟩ := hcut
            have HL3 := hid (HL2.out.below hB3.out)
            have HP3 := hid (HL3.out.at_ j hpk)
            have HBw3 : Hid (Below w.heap.size w wc) := HB2.out.trans (hB3.out.mono HB2.out.size)
            have hBc : B ≤ wc.heap.size := Nat.le_trans hB2 hB3.out.size
            obtain ⟨r0, r1, r2, r3⟩ := HO.out wc hB3.out
            have p0 := hK.out.c0
            have p1 := hK.out.c1
            clear E0 Ex Eg Eo o0 o1 o2 o3 D0 dx dg
            by_cases k2 : k = 2 ∨ k = 3
            · have HK2 := hid k2
              rcases k2 with rfl | rfl
              all_goals
                go_wp2_with fail
                refine (changed_any wc pb (ps j) _ b c (by first | exact Or.inl rfl | exact Or.inr rfl) HP3.out hK.out).mono ?_
                intro e w4 hc
                have HG := hid ((Goes.changed HL3.out hpk hBc hc).after HBw3.out HBw.out)
                obtain ⟨_, rfl, _⟩ := hc
                go_wp2
                go_ret
                exact ⟨rfl, HG.out⟩
            · have k2' : (k == 2) = false := beq_eq_false_iff_ne.2 (by omega)
              have k3' : (k == 3) = false := beq_eq_false_iff_ne.2 (by omega)
              by_cases k13 : k = 13
              · subst k13
                go_wp2_with fail
                refine (moved_any wc pb (ps j) b c HP3.out hK.out hb0 hb1 hc0 hc1).mono ?_
                intro e w4 hc
                have HG := hid ((Goes.changed HL3.out hpk hBc hc).after HBw3.out HBw.out)
                obtain ⟨_, rfl, _⟩ := hc
                go_wp2
                go_ret
                exact ⟨rfl, HG.out⟩
              · have k13' : (k == 13) = false := by simpa using k13
                by_cases k4 : k = 4
                · subst k4
                  go_wp2_with fail
                  refine (asked_conn wc pb (ps j) b c HP3.out hK.out).mono ?_
                  rintro _ w4 ⟨rfl, hb4⟩
                  have HG := hid ((Goes.still HL3.out hb4 hBc).after HBw3.out HBw.out)
                  clear hb4
                  go_wp2
                  go_ret
                  exact ⟨rfl, HG.out⟩
                · have k4' : (k == 4) = false := by simpa using k4
                  by_cases k5 : k = 5
                  · subst k5
                    go_wp2_with fail
                    refine (asked_size wc pb (ps j) b c HP3.out hK.out).mono ?_
                    rintro _ w4 ⟨rfl, hb4⟩
                    have HG := hid ((Goes.still HL3.out hb4 hBc).after HBw3.out HBw.out)
                    clear hb4
                    go_wp2
                    go_ret
                    exact ⟨rfl, HG.out⟩
                  · have k5' : (k == 5) = false := by simpa using k5
                    by_cases k6 : k = 6
                    · subst k6
                      go_wp2_with fail
                      refine (members_any wc B W n m j ps ts ys iv tv lv b HL3.out hpk hn hBc).mono ?_
                      rintro _ w4 ⟨rfl, hg4⟩
                      have HG := hid (hg4.goes.after HBw3.out HBw.out)
                      clear hg4
                      go_wp2
                      go_ret
                      exact ⟨rfl, HG.out⟩
                    · have k6' : (k == 6) = false := by simpa using k6
                      by_cases k7 : k = 7
                      · subst k7
                        go_wp2_with fail
                        refine (told_any wc pb (ps j) HP3.out hK.out).mono ?_
                        rintro _ w4 ⟨rfl, hb4⟩
                        have HG := hid ((Goes.still HL3.out hb4 hBc).after HBw3.out HBw.out)
                        clear hb4
                        go_wp2
                        go_ret
                        exact ⟨rfl, HG.out⟩
                      · have k7' : (k == 7) = false := by simpa using k7
                        by_cases k8 : k = 8
                        · subst k8
                          go_wp2_with fail
                          refine (saved_any wc B W n m j ps ts ys iv tv lv HL3.out hpk hn hBc).mono ?_
                          rintro _ w4 ⟨rfl, hg4⟩
                          have HG := hid (hg4.goes.after HBw3.out HBw.out)
                          clear hg4
                          go_wp2
                          go_ret
                          exact ⟨rfl, HG.out⟩
                        · have k8' : (k == 8) = false := by simpa using k8
                          have HG := hid ((Goes.still HL3.out (Below.refl _ _) hBc).after HBw3.out HBw.out)
                          clear k1 k11 k2 k13 k4 k5 k6 k7 k8
                          go_wp2
                          go_ret
                          exact ⟨rfl, HG.out⟩

end Go.Proofs.YtckallochdegiaaGreat
