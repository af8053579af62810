import Derived.Test.YtckallochdegiaaGreatBytesW
import Derived.Test.YtckallochdegiaaGreatNumX
namespace Go.Proofs.YtckallochdegiaaGreat
set_option linter.unusedVariables false
set_option linter.unusedSimpArgs false
open Go.RowKit

theorem numX (w : World) (n : Nat) (hn : n ≤ 1000000) : Calls Tryz.prog 71 #[.int .i64 n] w fun e w' => ∃ s : ByteArray, e = .returned (.string s) ∧ s.size ≤ 41 ∧ Hid (s = nB n) ∧ Below w.heap.size w w' :=
  (number_B w n hn).mono fun _ _ ⟨h1, h2⟩ => ⟨nB n, h1, nB_size n, rfl, h2⟩
theorem numXi (w : World) (z : Int) (h0 : 0 ≤ z) (hn : z ≤ 1000000) : Calls Tryz.prog 71 #[.int .i64 z] w fun e w' => ∃ s : ByteArray, e = .returned (.string s) ∧ s.size ≤ 41 ∧ Hid (s = nB z.toNat) ∧ Below w.heap.size w w' := by
  obtain ⟨n, rfl⟩ : ∃ n : Nat, z = n := ⟨z.toNat, by omega⟩
  exact numX w n (by omega)
theorem frameX (w : World) (s : ByteArray) (hs : s.size ≤ 2 ^ 40) : Calls Tryz.prog 73 #[.string s] w fun e w' => ∃ r : ByteArray, e = .returned (.string r) ∧ r.size ≤ s.size + 50 ∧ Hid (r = frameB s) ∧ Below w.heap.size w w' :=
  (frame_F w s hs).mono fun _ _ ⟨h1, h2⟩ => ⟨frameB s, h1, frameB_size s, rfl, h2⟩
theorem roundX (w : World) (l : List Itm) (b o cap : Nat) (hI : ItemsAt w (.slice (some ⟨b, o, none⟩) l.length cap) l b o cap) (hs : l.length ≤ 3000) (hr : ∀ x, x ∈ l → -1 ≤ x.2 ∧ x.2 ≤ 1000) :
    Calls Tryz.prog 72 #[.slice (some ⟨b, o, none⟩) l.length cap] w fun e w' => ∃ s : ByteArray, e = .returned (.string s) ∧ s.size ≤ 41 * (l.length + 1) ∧ Hid (s = roundB l) ∧ Below w.heap.size w w' :=
  (round_F w l b o cap hI hs hr).mono fun _ _ ⟨h1, h2, h3⟩ => ⟨roundB l, h1, h2, rfl, h3⟩

set_option maxRecDepth 100000 in
set_option maxHeartbeats 4000000 in
theorem Bytes_F (w : World) (g tb tcap : Nat) (G : Gr) (ev : Value) (F : Nat → Value) (pr : Int) (h : GRep w g G ev tb tcap F pr) (hI : GI G) :
    Calls Tryz.prog 37 #[ptr g] w fun e w' => e = .returned (.string (bytesB G)) ∧ Below w.heap.size w w' := by
  have n48 := hI.n48
  have el := hI.elen
  have lg := log2_le5 hI.n1 hI.n48
  have HTl : Hid (G.tours.length = Nat.log2 G.N + 1) := hI.tl
  have t6 : G.tours.length ≤ 6 := by have := log2_le5 hI.n1 hI.n48; rw [hI.tl]; omega
  have HG := hid h
  have HI := hid hI
  have d1 := h.c1
  clear h hI
  go_enter Tryz.func37, Tryz.ntmps37
  go_wp2_with fail
  refine (sorted_F w G.edges ev HG.out.ed (by omega)).mono ?_
  rintro e w1 ⟨v', rfl, hS, hol, hb1⟩
  obtain ⟨out, hout⟩ : ∃ out, out = sortE G.edges := ⟨_, rfl⟩
  rw [← hout] at hS hol
  have HOl : Hid (edgesB (sortE G.edges) G.edges.length = edgesB out out.length) := by show _ = _; rw [← hout, hol]
  clear hout
  have HG1 := hid (HG.out.below hb1)
  have HB1 := hid hb1
  have HS := hid hS
  have hsz1 := hb1.size
  clear hb1 hS d1
  obtain ⟨ln, hln⟩ : ∃ ln, out.length = ln := ⟨_, rfl⟩
  obtain ⟨sp, sc, hsv⟩ : ∃ p c, v' = .slice p ln c := by
    rcases HS.out.1.2 with ⟨q, q0⟩ | ⟨_, cap, _, q, _⟩
    · exact ⟨_, _, by rw [q, ← hln, q0]⟩
    · exact ⟨_, _, by rw [q, ← hln]⟩
  have hl4 : ln ≤ 2304 := by omega
  have HLn := hid hln
  clear hol hln
  subst hsv
  go_wp2_with fail
  refine (numX _ ln (by omega)).mono ?_
  rintro e w2 ⟨r0, rfl, hr0, E0, hb2⟩
  have HB2 := hid hb2
  clear hb2
  go_wp2_with fail
  go_loopw [4, 24] (fun a c wr => ∃ (m : Nat) (s : ByteArray), m ≤ ln ∧ a = .string s ∧ s.size ≤ 41 + 123 * m ∧ c = .int .i64 m ∧ Hid (Below w1.heap.size w1 wr) ∧ Hid (s = edgesB out m)) (fun _ c _ => ln - (intOf c).toNat)
  case atStart => exact ⟨0, r0, by omega, rfl, by omega, rfl, HB2, by show _ = _; rw [E0.out, ← HLn.out]; rfl⟩
  case round =>
    obtain ⟨m, s, hm, rfl, hs, rfl, hB, HSe⟩ := hrel
    clear E0
    have hBs := hB.out.size
    by_cases c : m < ln
    · have c' : (m : Int) < (ln : Int) := by omega
      have hom : m < out.length := by rw [HLn.out]; exact c
      obtain ⟨ob, ocap, hO, _⟩ := (HS.out.below hB.out (Nat.le_refl _)).eat (by intro q; rw [q] at hom; simp at hom)
      have hv := hO.hv
      rw [HLn.out] at hv
      simp only [Value.slice.injEq, true_and] at hv
      obtain ⟨hp, hc⟩ := hv
      subst hp hc
      have a0 := hO.c0 m hom
      have a1 := hO.c1 m hom
      have a2 := hO.c2 m hom
      have a3 := hO.c3 m hom
      have be := HI.out.ed _ (HS.out.2.1 (out[m]?.getD Go.Proofs.YtckallochdegiaaGreat.e0) (by rw [get_eq hom]; exact List.getElem_mem hom))
      clear hO hom
      obtain ⟨x, hx⟩ : ∃ x, x = out[m]?.getD Go.Proofs.YtckallochdegiaaGreat.e0 := ⟨_, rfl⟩
      rw [← hx] at a0 a1 a2 a3 be
      have HNx : Hid (edgesB out (m + 1) = s ++ edgeB x) := by show _ = _; rw [edgesB_step (by rw [HLn.out]; exact c), HSe.out, hx]
      clear hx HSe
      obtain ⟨xu, xv, xl, xt⟩ := x
      simp only at a0 a1 a2 a3 be
      obtain ⟨yu, rfl⟩ : ∃ y : Nat, xu = y := ⟨xu.toNat, by omega⟩
      obtain ⟨yv, rfl⟩ : ∃ y : Nat, xv = y := ⟨xv.toNat, by omega⟩
      obtain ⟨yl, rfl⟩ : ∃ y : Nat, xl = y := ⟨xl.toNat, by omega⟩
      have hb3 : yu < 48 ∧ yv < 48 ∧ yl ≤ 5 := by omega
      clear be
      have HBe : Hid (∀ o, Below w1.heap.size w1 (wr.alloc o)) := fun o => hB.out.alloc hBs o
      cases xt
      all_goals
        go_wp2_with fail
        go_region_held (fun w' => w'.cell? ⟨wr.heap.size, 0, none⟩ = some (.int .i64 yu) ∧ w'.cell? ⟨wr.heap.size, 1, none⟩ = some (.int .i64 yv)) (first | exact ⟨by assumption, by assumption⟩ | (constructor <;> (show (wr.alloc _).cell? _ = _; rw [new_cell]; rfl)))
            (first
              | (go_at_call 71; have _t := s2; refine (numXi _ _ (by omega) (by omega)).mono ?_; rintro e w5 ⟨s3, rfl, hr3, E3, hb5⟩; have g0 : w5.cell? ⟨wr.heap.size, 0, none⟩ = some (.int .i64 yu) := (hb5.cell (p := ⟨wr.heap.size, 0, none⟩) lt4).trans f0; have g1 : w5.cell? ⟨wr.heap.size, 1, none⟩ = some (.int .i64 yv) := (hb5.cell (p := ⟨wr.heap.size, 1, none⟩) lt4).trans f1; have HB5 := hid (HB4.out.trans (hb5.mono HB4.out.size)); have hs1 : ¬ 9223372036854775807 < s1.size + s2.size := (by omega); have hs2 : ¬ 9223372036854775807 < (s1 ++ s2).size + s3.size := (by rw [ByteArray.size_append]; omega); have hs3 : ¬ 9223372036854775807 < s.size + ((s1 ++ s2) ++ s3).size := (by rw [ByteArray.size_append, ByteArray.size_append]; omega); clear hb5)
              | (go_at_call 71; have _t := s1; refine (numXi _ _ (by omega) (by omega)).mono ?_; rintro e w4 ⟨s2, rfl, hr2, E2, hb4⟩; have f0 : w4.cell? ⟨wr.heap.size, 0, none⟩ = some (.int .i64 yu) := (hb4.cell (p := ⟨wr.heap.size, 0, none⟩) lt3).trans e0; have f1 : w4.cell? ⟨wr.heap.size, 1, none⟩ = some (.int .i64 yv) := (hb4.cell (p := ⟨wr.heap.size, 1, none⟩) lt3).trans e1; have HB4 := hid (HB3.out.trans (hb4.mono HB3.out.size)); have lt4 : wr.heap.size < w4.heap.size := Nat.lt_of_lt_of_le lt3 hb4.size; have hs1 : ¬ 9223372036854775807 < s1.size + s2.size := (by omega); clear hb4)
              | (go_at_call 71; refine (numXi (wr.alloc _).drew _ (by omega) (by omega)).mono ?_; rintro e w3 ⟨s1, rfl, hr1, E1, hb3⟩; have hb3' := below_drew hb3; have e0 : w3.cell? ⟨wr.heap.size, 0, none⟩ = some (.int .i64 yu) := (hb3'.cell (p := ⟨wr.heap.size, 0, none⟩) (by simp)).trans (by rw [new_cell]; rfl); have e1 : w3.cell? ⟨wr.heap.size, 1, none⟩ = some (.int .i64 yv) := (hb3'.cell (p := ⟨wr.heap.size, 1, none⟩) (by simp)).trans (by rw [new_cell]; rfl); have HB3 := hid ((HBe.out _).trans (hb3'.mono (HBe.out _).size)); have lt3 : wr.heap.size < w3.heap.size := Nat.lt_of_lt_of_le (by simp) hb3'.size; clear hb3 hb3'))
        all_goals
          have HFin : Hid (s ++ (s1 ++ s2 ++ s3) = edgesB out (m + 1)) := by
            show _ = _
            rw [HNx.out, E1.out, E2.out, E3.out, edgeB]
            congr 2 <;> (try congr 1) <;> (try simp) <;> (try omega)
          clear E1 E2 E3
          go_wp2
          exact ⟨⟨m + 1, _, by omega, rfl, by rw [ByteArray.size_append, ByteArray.size_append, ByteArray.size_append]; omega, by go_num, HB5, HFin⟩, by simp [intOf]; omega⟩
    · have c' : ¬ (m : Int) < (ln : Int) := by omega
      have HBw : Hid (Below w.heap.size w wr) := HB1.out.trans (hB.out.mono hsz1)
      have hsE : s.size ≤ 300000 := by omega
      have hme : m = ln := by omega
      have HSf : Hid (s = edgesB (sortE G.edges) G.edges.length) := by show _ = _; rw [HOl.out, HSe.out, hme, HLn.out]
      clear hme HSe HOl
      have d2 := (HG.out.below HBw.out).c2
      clear hs hm HB1 HB2 HS hB HG1 hBs hsz1
      go_wp2_with fail
      clear d2
      go_loopw [8, 53] (fun a c wr => ∃ (i : Nat) (t : ByteArray), i ≤ G.tours.length ∧ a = .string t ∧ t.size ≤ 6000000 * i ∧ c = .int .i64 i ∧ Hid (Below w.heap.size w wr) ∧ Hid (t = toursB G i)) (fun _ c _ => G.tours.length - (intOf c).toNat)
      case atStart => exact ⟨0, ⟨#[]⟩, by omega, rfl, by simp [ByteArray.size], rfl, HBw, rfl⟩
      case round =>
        obtain ⟨i, t, hi, rfl, ht, rfl, hB, HTt⟩ := hrel
        clear HBw
        have hBs := hB.out.size
        by_cases ci : i < G.tours.length
        · have ci' : (i : Int) < (G.tours.length : Int) := by omega
          have HIl : Hid (i ≤ Nat.log2 G.N) := by show _ ≤ _; have := HTl.out; omega
          go_wp2_with fail
          go_loopw [10, 11, 12] (fun a b c wr => ∃ (n v : Nat) (al : ByteArray), v ≤ G.N ∧ n ≤ v ∧ a = .int .i64 n ∧ b = .string al ∧ al.size ≤ 110000 * v ∧ c = .int .i64 v ∧ Hid (Below w.heap.size w wr) ∧ Hid ((n, al) = lvF G i v)) (fun _ _ c _ => G.N - (intOf c).toNat)
          case atStart => exact ⟨0, 0, ⟨#[]⟩, by omega, by omega, rfl, rfl, by simp [ByteArray.size], rfl, hB, rfl⟩
          case round =>
            obtain ⟨n, v, al, hv, hn, rfl, rfl, hal, rfl, hB, HLf⟩ := hrel
            have hBs := hB.out.size
            have HGr := hid (HG.out.below hB.out)
            have d0 := HGr.out.c0
            by_cases cv : v < G.N
            · have cv' : (v : Int) < (G.N : Int) := by omega
              have L := HI.out.li i HIl.out
              obtain ⟨ka, ta, a1, a2, a3, a4, a5⟩ := L.ix_of (v := (v : Int)) (by omega) cv'
              obtain ⟨lb, lcap, f, _, hLv⟩ := HGr.out.lvl ci
              have tlen := L.len n48 HI.out.rngE a4
              have trng := L.item_rng n48 HI.out.rngE a4
              have HTa : Hid (lessT G i v = ta) := LI.lessT_at HI.out HIl.out a4 a5
              have HA := hid (And.intro a2 (And.intro a3 a4))
              have HLv := hid hLv
              have HTr := hid trng
              have HT5 := hid a5
              have HT4 := hid tlen
              clear L a2 a3 a4 a5 hLv trng tlen
              go_wp2_with fail
              refine (Tour_any g tb tcap G.tours.length i lb lcap (lv G i) f v ka ta wr HLv.out HA.out.1 a1 HA.out.2.1 (by have := HT4.out; omega)).mono ?_
              rintro e w5 ⟨v5, rfl, hI5, hb5⟩
              obtain ⟨xb, xo, xc, hx⟩ := hI5
              have hxv := hx.hv
              subst hxv
              obtain ⟨t5, ht5⟩ : ∃ t5, t5 = fromX ta (leastV ta v, -1) := ⟨_, rfl⟩
              rw [← ht5] at hx ⊢
              have rot : Rot ta t5 := by rw [ht5]; exact fromX_rot' _ _
              have hl5 : t5.length ≤ 2352 := by rw [rot.length]; exact HT4.out
              have hp5 : 0 < t5.length := by rw [rot.length]; exact List.length_pos_of_mem HT5.out
              have HR5 : Hid (∀ x, x ∈ t5 → -1 ≤ x.2 ∧ x.2 ≤ 1000) := fun x hx => HTr.out x ((rot.mem x).2 hx)
              have HAt : Hid (tourAt G i v = t5) := by show _ = _; rw [tourAt, HTa.out, ht5]
              have HSt : Hid (lvF G i (v + 1) = if (t5[0]?.getD (0, 0)).1 = (v : Int) ∧ 1 < t5.length then (n + 1, al ++ (nB v ++ roundB t5)) else (n, al)) := by show _ = _; rw [lvF, HAt.out, ← HLf.out]
              clear ht5 rot HTa HAt HLf
              have HX := hid hx
              have x1 := hx.le
              have x2 := hx.mx
              unfold maxLen at x2
              have e0 := hx.c0 0 hp5
              rw [Nat.zero_mul, Nat.add_zero] at e0
              have HB5 : Hid (Below w.heap.size w w5) := hB.out.trans (hb5.mono hBs)
              have hp5' : (0 : Int) < (t5.length : Int) := by omega
              clear hx hb5 HLv HGr d0
              obtain ⟨x0, hx0⟩ : ∃ x0, x0 = (t5[0]?.getD (0, 0)).1 := ⟨_, rfl⟩
              rw [← hx0] at e0 HSt
              clear hx0
              have hB5s := HB5.out.size
              by_cases eq : x0 = (v : Int)
              · have eqb : (x0 == (v : Int)) = true := by simpa using eq
                have HEq := hid eq
                clear eq
                by_cases gt : 1 < t5.length
                · have gt' : (1 : Int) < (t5.length : Int) := by omega
                  have HS2 : Hid (lvF G i (v + 1) = (n + 1, al ++ (nB v ++ roundB t5))) := by show _ = _; rw [HSt.out, if_pos ⟨HEq.out, gt⟩]
                  clear HSt
                  go_wp2_with fail
                  refine (numX _ v (by omega)).mono ?_
                  rintro e w6 ⟨r6, rfl, hr6, E6, hb6⟩
                  have HB6 := hid hb6
                  clear hb6
                  go_wp2_with fail
                  refine (roundX w6 t5 xb xo xc (HX.out.below HB6.out (Nat.le_refl _)) (by omega) HR5.out).mono ?_
                  rintro e w7 ⟨r7, rfl, hr7, E7, hb7⟩
                  have HS3 : Hid ((n + 1, al ++ (r6 ++ r7)) = lvF G i (v + 1)) := by show _ = _; rw [HS2.out, E6.out, E7.out]
                  clear E6 E7 HS2
                  have hs1 : ¬ 9223372036854775807 < r6.size + r7.size := by omega
                  have hs2 : ¬ 9223372036854775807 < al.size + (r6 ++ r7).size := by rw [ByteArray.size_append]; omega
                  have HB7 : Hid (Below w.heap.size w w7) := HB5.out.trans ((HB6.out.trans (hb7.mono HB6.out.size)).mono hB5s)
                  clear hb7
                  go_wp2
                  exact ⟨⟨n + 1, v + 1, _, by omega, by omega, by go_num, rfl, by rw [ByteArray.size_append, ByteArray.size_append]; omega, by go_num, HB7, HS3⟩, by simp [intOf]; omega⟩
                · have gt' : ¬ (1 : Int) < (t5.length : Int) := by omega
                  have HS3 : Hid ((n, al) = lvF G i (v + 1)) := by show _ = _; rw [HSt.out, if_neg (fun q => gt q.2)]
                  clear HSt
                  go_wp2
                  exact ⟨⟨n, v + 1, al, by omega, by omega, rfl, rfl, by omega, by go_num, HB5, HS3⟩, by simp [intOf]; omega⟩
              · have eqb : (x0 == (v : Int)) = false := by simpa using eq
                have HS3 : Hid ((n, al) = lvF G i (v + 1)) := by show _ = _; rw [HSt.out, if_neg (fun q => eq q.1)]
                clear HSt
                go_wp2
                exact ⟨⟨n, v + 1, al, by omega, by omega, rfl, rfl, by omega, by go_num, HB5, HS3⟩, by simp [intOf]; omega⟩
            · have cv' : ¬ (v : Int) < (G.N : Int) := by omega
              have hve : v = G.N := by omega
              have HL2 : Hid ((n, al) = lvF G i G.N) := by show _ = _; rw [HLf.out, hve]
              clear hve HLf
              go_wp2_with fail
              refine (numX _ n (by omega)).mono ?_
              rintro e w6 ⟨r6, rfl, hr6, E6, hb6⟩
              have HT2 : Hid (t ++ (r6 ++ al) = toursB G (i + 1)) := by show _ = _; rw [toursB, ← HL2.out, HTt.out, E6.out]
              clear E6 HL2
              have hs1 : ¬ 9223372036854775807 < r6.size + al.size := by omega
              have hs2 : ¬ 9223372036854775807 < t.size + (r6 ++ al).size := by rw [ByteArray.size_append]; omega
              have HB6 : Hid (Below w.heap.size w w6) := hB.out.trans (hb6.mono hBs)
              clear hb6
              go_wp2
              exact ⟨⟨i + 1, _, by omega, rfl, by rw [ByteArray.size_append, ByteArray.size_append]; omega, by go_num, HB6, HT2⟩, by simp [intOf]; omega⟩
        · have ci' : ¬ (i : Int) < (G.tours.length : Int) := by omega
          have d0 := (HG.out.below hB.out).c0
          have hie : i = G.tours.length := by omega
          have HT2 : Hid (t = toursB G G.tours.length) := by show _ = _; rw [HTt.out, hie]
          clear hie HTt
          go_wp2_with fail
          refine (numX _ G.N (by omega)).mono ?_
          rintro e w6 ⟨r6, rfl, hr6, E6, hb6⟩
          have HB6 : Hid (Below w.heap.size w w6) := hB.out.trans (hb6.mono hBs)
          clear hb6
          go_wp2_with fail
          refine (frameX _ r6 (by omega)).mono ?_
          rintro e w7 ⟨r7, rfl, hr7, E7, hb7⟩
          have hs1 : ¬ 9223372036854775807 < 4 + r7.size := by omega
          have HB7 : Hid (Below w.heap.size w w7) := HB6.out.trans (hb7.mono HB6.out.size)
          clear hb7
          go_wp2_with fail
          refine (frameX _ s (by omega)).mono ?_
          rintro e w8 ⟨r8, rfl, hr8, E8, hb8⟩
          have HB8 : Hid (Below w.heap.size w w8) := HB7.out.trans (hb8.mono HB7.out.size)
          have h4 : (ByteArray.mk #[72, 68, 84, 49] ++ r7).size = 4 + r7.size := by rw [ByteArray.size_append]; rfl
          have hs2 : ¬ 9223372036854775807 < (ByteArray.mk #[72, 68, 84, 49] ++ r7).size + r8.size := by omega
          clear hb8
          go_wp2_with fail
          refine (frameX _ t (by omega)).mono ?_
          rintro e w9 ⟨r9, rfl, hr9, E9, hb9⟩
          have HB9 : Hid (Below w.heap.size w w9) := HB8.out.trans (hb9.mono HB8.out.size)
          have hs3 : ¬ 9223372036854775807 < (ByteArray.mk #[72, 68, 84, 49] ++ r7 ++ r8).size + r9.size := by rw [ByteArray.size_append]; omega
          have HFin : Hid (bytesB G = ByteArray.mk #[72, 68, 84, 49] ++ r7 ++ r8 ++ r9) := by show _ = _; rw [bytesB, E9.out, E8.out, E7.out, E6.out, HSf.out, HT2.out]
          clear hb9 E6 E7 E8 E9
          go_wp2
          go_ret
          exact ⟨by rw [HFin.out]; rfl, HB9.out⟩

end Go.Proofs.YtckallochdegiaaGreat
