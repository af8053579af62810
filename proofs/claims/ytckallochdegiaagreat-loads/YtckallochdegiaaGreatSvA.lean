import Derived.Test.YtckallochdegiaaGreatFrA
import Derived.Test.YtckallochdegiaaGreatIxH
namespace Go.Proofs.YtckallochdegiaaGreat
set_option linter.unusedVariables false
set_option linter.unusedSimpArgs false
open Go.RowKit

theorem NumsAt.more {w : World} {B : Nat} {v : Value} {l m : List Nat} (h : w.ownsRow B 3 1 v (l.length + m.length) ((l.map fun n : Nat => Value.int .i64 n) ++ (m.map fun n : Nat => Value.int .i64 n))) (hl : ∀ n, n ∈ l → n < 2 ^ 28) (hm : ∀ n, n ∈ m → n < 2 ^ 28) : NumsAt w B v (l ++ m) := by
  refine ⟨by rw [List.length_append, List.map_append]; exact h, fun n hn => ?_⟩
  rcases List.mem_append.1 hn with q | q
  · exact hl n q
  · exact hm n q
theorem nums_cells {w : World} {B g n c : Nat} {l : List Nat} (h : NumsAt w B (.slice (some ⟨g, 0, none⟩) n c) l) : ∀ j u, (l.map fun n : Nat => Value.int .i64 n)[j]? = some u → w.cell? ((⟨g, 0, none⟩ : Addr).add j) = some u := World.ownsRow.cells h.1 rfl
theorem nums_ones (l : List Nat) (u : Value) (h : u ∈ l.map fun n : Nat => Value.int .i64 n) : u.oneCell' = true := by
  obtain ⟨b, _, rfl⟩ := List.mem_map.1 h
  rfl
theorem nums_lit (w : World) (B x : Nat) (hB : B ≤ w.heap.size) (hx : x < 2 ^ 28) : NumsAt (w.alloc (.cells #[.int .i64 x] 3)) B (.slice (some ⟨w.heap.size, 0, none⟩) 1 1) [x] :=
  ⟨World.ownsRow_lit (base := B) (e := 3) (size := 1) w #[.int .i64 x] 1 hB (by unfold maxLen; omega) rfl, fun n hn => by simp at hn; omega⟩
theorem nums_nil (w : World) (B : Nat) (hB : B ≤ w.heap.size) : NumsAt (w.alloc (.cells #[] 3)) B (.slice (some ⟨w.heap.size, 0, none⟩) 0 0) [] :=
  ⟨by have := World.ownsRow_lit (base := B) (e := 3) (size := 1) w #[] 0 hB (by unfold maxLen; omega) rfl; simpa using this, fun n hn => by simp at hn⟩
theorem vtxs_pv {t : List Itm} (ok : ∀ x, x ∈ t → OkI x) : (vtxs (t.map pv)).length = sizeV t := by
  rw [vtxs, List.length_map, sizeV]
  induction t with
  | nil => rfl
  | cons x t ih =>
    have ih := ih (fun y hy => ok y (by simp [hy]))
    have hx := ok x (by simp)
    have e := pv_self hx
    have e2 := hx.neg
    rw [List.map_cons]
    by_cases c : x.2 = -1
    · have c1 : ((pv x).1 == (pv x).2) = true := by simpa using e.2 c
      have c2 : decide (x.2 < 0) = true := by simpa using e2.2 c
      rw [List.filter_cons, List.filter_cons, if_pos c1, if_pos c2, List.length_cons, List.length_cons, ih]
    · have c1 : ¬ ((pv x).1 == (pv x).2) = true := by simpa using fun q => c (e.1 q)
      have c2 : ¬ decide (x.2 < 0) = true := by simpa using fun q => c (e2.1 q)
      rw [List.filter_cons, List.filter_cons, if_neg c1, if_neg c2, ih]

theorem itN_step {t : List Itm} {k : Nat} (hk : k < t.length) (h0 : 0 < k) : ((t.take (k + 1)).drop 1).map itN = ((t.take k).drop 1).map itN ++ [itN (t[k]?.getD (0, 0))] := by
  rw [List.take_succ_eq_append_getElem hk, List.drop_append_of_le_length (by simp; omega), List.map_append, get_eq hk]; rfl
theorem get_pv {t : List Itm} {k : Nat} (hk : k < t.length) : (t.map pv)[k]?.getD (0, 0) = pv (t[k]?.getD (0, 0)) := by
  rw [get_eq hk, get_eq (by simpa using hk)]; simp

set_option maxRecDepth 100000 in
set_option maxHeartbeats 4000000 in
theorem treeNumbers_any (w : World) (b o cap : Nat) (p t : List Itm) (h : PAt w (.slice (some ⟨b, o, none⟩) p.length cap) p b o cap) (hp : p = t.map pv) (ht : 0 < p.length) (hl : p.length ≤ 3000) (ok : ∀ x, x ∈ t → OkI x) :
    Calls Tryz.prog 112 #[.slice (some ⟨b, o, none⟩) p.length cap] w fun e w' => ∃ val L, e = .returned val ∧ NumsAt w' w.heap.size val L ∧ numsB L = roundB t ∧ L.length = p.length ∧ Below w.heap.size w w' := by
  have HI := hid h
  have h1 := h.le
  have h2 := h.mx
  unfold maxLen at h2
  obtain ⟨i3, q0, q1, q2, q3⟩ := info_parts Tryz.info3
  have HV : Hid ((vtxs p).length = sizeV t) := by show _ = _; rw [hp]; exact vtxs_pv ok
  have HPl : Hid (t.length = p.length) := by show _ = _; rw [hp]; simp
  have hsv : sizeV t ≤ p.length := by rw [← HPl.out, sizeV]; exact List.length_filter_le _ _
  have HOk : Hid (∀ x, x ∈ p → 0 ≤ x.1 ∧ x.1 < 48) := fun x hx => by
    rw [hp] at hx
    obtain ⟨y, hy, rfl⟩ := List.mem_map.1 hx
    have := ok y hy
    rw [pv_fst]; exact ⟨this.1, this.2.1⟩
  have HIt : Hid (∀ k, k < p.length → OkI (t[k]?.getD (0, 0)) ∧ p[k]?.getD (0, 0) = pv (t[k]?.getD (0, 0))) := fun k hk => by
    have hk' : k < t.length := by rw [HPl.out]; exact hk
    refine ⟨ok _ (by rw [get_eq hk']; exact List.getElem_mem hk'), ?_⟩
    subst hp
    exact get_pv hk'
  have HRB := hid (roundB_nums t)
  have HD : Hid (∀ k, k ≤ p.length → (((t.take k).drop 1).map itN).length ≤ k) := fun k hk => by simp; omega
  clear h hp ok
  generalize sizeV t = m at HV hsv HRB
  go_enter Tryz.func112, Tryz.ntmps112
  go_wp2_with fail
  refine (Vertices_any w b o cap p HI.out hl HOk.out).mono ?_
  rintro e w1 ⟨val, rfl, hN, hb1⟩
  have HB1 := hid hb1
  have hb1s := hb1.size
  obtain ⟨vc, vp, hvv⟩ : ∃ c q, val = .slice q m c := by
    rcases hN.1.2 with ⟨q, q0⟩ | ⟨g, cap, cur, q, _⟩
    · exact ⟨_, _, by rw [q, ← HV.out, q0]⟩
    · exact ⟨_, _, by rw [q, HV.out]⟩
  subst hvv
  clear hN hb1 HV
  have hmi : (m : Int) ≤ 3000 := by omega
  go_wp2_with fail
  go_loopw [4, 5] (fun a c wr => ∃ k : Nat, 1 ≤ k ∧ k ≤ p.length ∧ c = .int .i64 k ∧ Hid (NumsAt wr w.heap.size a (m :: ((t.take k).drop 1).map itN)) ∧ Hid (Below w.heap.size w wr)) (fun _ c _ => p.length - (intOf c).toNat)
  case atStart =>
    have e1 : ((t.take 1).drop 1).map itN = [] := by cases t <;> simp
    exact ⟨1, by omega, by omega, rfl, by rw [e1]; exact nums_lit w1 _ m hb1s (by omega), HB1.out.alloc hb1s _⟩
  case round =>
    obtain ⟨k, hk1, hk, rfl, HN, HB⟩ := hrel
    have hBs := HB.out.size
    clear HB1 hb1s
    by_cases ck : k < p.length
    · have ck' : (k : Int) < (p.length : Int) := by omega
      have HS : Hid (((t.take (k + 1)).drop 1).map itN = ((t.take k).drop 1).map itN ++ [itN (t[k]?.getD (0, 0))]) := itN_step (by rw [HPl.out]; exact ck) (by omega)
      have hd := HD.out k hk
      generalize ((t.take k).drop 1).map itN = L at HN HS hd
      have HBd : Hid (∀ q, Below wr.heap.size wr (wr.drewN q)) := fun q => Below.drewN' q (Below.refl _ _)
      have HI2 := HI.out.below HB.out (Nat.le_refl _)
      have y0 := HI2.c0 k ck
      have y1 := HI2.c1 k ck
      have HI3 := hid HI2
      have okx := (HIt.out k ck).1
      have epx := (HIt.out k ck).2
      generalize t[k]?.getD (0, 0) = x at HS okx epx
      have HEp := hid epx
      rw [epx] at y0 y1
      clear HI2 epx
      have hlt : L.length + 1 ≤ 3001 := by omega
      by_cases cx : x.2 = -1
      · have e1 : pv x = (x.1, x.1) := by rw [pv, if_pos cx]
        have HV0 : Hid (itN x = 0) := by show _ = _; rw [itN, cx]; rfl
        rw [e1] at y0 y1
        simp only at y0 y1
        clear e1 okx cx
        obtain ⟨x1, x2⟩ := x
        simp only at y0 y1
        go_wp2_with fail
        go_quiet (fail)
        have HB2 : Hid (Below w.heap.size w (wr.drewN nq)) := HB.out.trans ((HBd.out nq).mono hBs)
        have HN2 : Hid (NumsAt (wr.drewN nq) w.heap.size u4 (m :: L)) := HN.out.below (HBd.out nq) (Nat.le_refl _)
        generalize wr.drewN nq = w2 at HB2 HN2 ⊢
        have hB2s := HB2.out.size
        go_wp2_with (at_builtin; refine wpList_append_own _ rfl (.tmp 35) (.tmp 37) 25 rfl w.heap.size 3 i3 _ 1 8 Tryz.underlying25 q0 q1 q2 q3 rfl (by decide) _ (m :: L).length _ rfl (HN2.out.1.alloc _) ⟨w2.heap.size, 0, none⟩ 1 1 [.int .i64 0] rfl rfl (one_cell _ _ _) (fun y hy => by simp at hy; subst hy; rfl) (by unfold maxLen; rw [List.length_cons]; omega) (by rw [List.length_cons]; omega) (by simp; omega) ?_; intro v' w3 ho hg _)
        have R1 : NumsAt w3 w.heap.size v' (m :: ((t.take (k + 1)).drop 1).map itN) := by
          rw [HS.out, HV0.out]
          exact NumsAt.more (l := m :: L) (m := [0]) ho HN2.out.2 (fun n hn => by simp at hn; omega)
        have R2 : Below w.heap.size w w3 := (HB2.out.alloc hB2s _).grown hg (by simp; omega) (fun k hk => (HN2.out.1.lt k hk).1)
        exact ⟨⟨k + 1, by omega, by omega, by go_num, R1, R2⟩, by simp [intOf]; omega⟩
      · obtain ⟨o1, o2, o3⟩ := okx
        have o4 : 0 ≤ x.2 ∧ x.2 < 48 ∧ x.1 ≠ x.2 := by rcases o3 with q | q; exact absurd q cx; exact q
        clear o3
        have e1 : pv x = x := by rw [pv, if_neg cx]
        rw [e1] at y0 y1
        obtain ⟨x1, x2⟩ := x
        simp only at y0 y1 o1 o2 o4
        obtain ⟨z, rfl⟩ : ∃ z : Nat, x2 = z := ⟨x2.toNat, by omega⟩
        have HV0 : Hid (itN (x1, (z : Int)) = z + 1) := by show (((z : Int) + 1).toNat) = _; omega
        have hz : z < 48 := by omega
        have hne : (x1 != (z : Int)) = true := by simpa using o4.2.2
        have hne2 : (x1 == (z : Int)) = false := by simpa using o4.2.2
        clear e1 cx o4
        go_wp2_with fail
        go_quiet (fail)
        have HB2 : Hid (Below w.heap.size w (wr.drewN nq)) := HB.out.trans ((HBd.out nq).mono hBs)
        have HN2 : Hid (NumsAt (wr.drewN nq) w.heap.size u4 (m :: L)) := HN.out.below (HBd.out nq) (Nat.le_refl _)
        have y2 := (HI3.out.below (HBd.out nq) (Nat.le_refl _)).c1 k ck
        rw [HEp.out, show pv (x1, (z : Int)) = (x1, (z : Int)) from pv_way (by omega)] at y2
        simp only at y2
        clear y0 y1
        generalize wr.drewN nq = w2 at HB2 HN2 y2 ⊢
        have hB2s := HB2.out.size
        go_wp2_with (at_builtin; refine wpList_append_own _ rfl (.tmp 35) (.tmp 37) 25 rfl w.heap.size 3 i3 _ 1 8 Tryz.underlying25 q0 q1 q2 q3 rfl (by decide) _ (m :: L).length _ rfl (HN2.out.1.alloc _) ⟨w2.heap.size, 0, none⟩ 1 1 [.int .i64 ((z : Int) + 1)] rfl rfl (one_cell _ _ _) (fun y hy => by simp at hy; subst hy; rfl) (by unfold maxLen; rw [List.length_cons]; omega) (by rw [List.length_cons]; omega) (by simp; omega) ?_; intro v' w3 ho hg _)
        have R1 : NumsAt w3 w.heap.size v' (m :: ((t.take (k + 1)).drop 1).map itN) := by
          rw [HS.out, HV0.out]
          exact NumsAt.more (l := m :: L) (m := [z + 1]) ho HN2.out.2 (fun n hn => by simp at hn; omega)
        have R2 : Below w.heap.size w w3 := (HB2.out.alloc hB2s _).grown hg (by simp; omega) (fun k hk => (HN2.out.1.lt k hk).1)
        exact ⟨⟨k + 1, by omega, by omega, by go_num, R1, R2⟩, by simp [intOf]; omega⟩
    · have hke : k = p.length := by omega
      have HE : Hid ((t.take k).drop 1 = t.drop 1) := by show _ = _; rw [hke, ← HPl.out, List.take_length]
      have HL : Hid (((t.drop 1).map itN).length + 1 = p.length) := by show _ = _; rw [List.length_map, List.length_drop, HPl.out]; omega
      clear hke
      go_wp2
      go_ret
      exact ⟨_, _, rfl, HN.out, by rw [HE.out, HRB.out], by rw [List.length_cons, HE.out]; exact HL.out, HB.out⟩

end Go.Proofs.YtckallochdegiaaGreat
namespace Go.Proofs.YtckallochdegiaaGreat
set_option linter.unusedVariables false
set_option linter.unusedSimpArgs false
open Go.RowKit

theorem tourAt_ok {G : Gr} {i v : Nat} (hI : GI G) (hi : i ≤ Nat.log2 G.N) (hv : v < G.N) : (tourAt G i v).length ≤ 2352 ∧ ∀ x, x ∈ tourAt G i v → OkI x := by
  have L := hI.li i hi
  obtain ⟨t, ht, hvt⟩ := L.all (v : Int) (by omega) (by omega)
  have et : lessT G i v = t := LI.lessT_at hI hi ht hvt
  have rot : Rot t (tourAt G i v) := by rw [tourAt, et]; exact fromX_rot' _ _
  exact ⟨by rw [rot.length]; exact L.len hI.n48 hI.rngE ht, fun x hx => hI.okI hi ht x ((rot.mem x).2 hx)⟩

theorem lvF_yes {G : Gr} {i v : Nat} (h : ((tourAt G i v)[0]?.getD (0, 0)) = ((v : Int), (-1 : Int))) (hl : 1 < (tourAt G i v).length) : lvF G i (v + 1) = ((lvF G i v).1 + 1, (lvF G i v).2 ++ (nB v ++ roundB (tourAt G i v))) := by
  rw [lvF, if_pos ⟨by rw [h], hl⟩]
theorem lvF_no {G : Gr} {i v : Nat} (h : ¬ (((tourAt G i v)[0]?.getD (0, 0)).1 = (v : Int) ∧ 1 < (tourAt G i v).length)) : lvF G i (v + 1) = lvF G i v := by
  rw [lvF, if_neg h]

theorem pit_slice {w : World} {v : Value} {l : List Itm} (h : PIt w v l) : ∃ q c, v = .slice q l.length c := by
  rcases h with ⟨h1, h2⟩ | ⟨b, o, c, h⟩
  · subst h2; exact ⟨_, _, h1⟩
  · exact ⟨_, _, h.hv⟩

set_option maxRecDepth 100000 in
set_option maxHeartbeats 4000000 in
theorem levelNumbers_any (w : World) (b : Nat) (G : Gr) (pr : Int) (R : Nat → Nat → List Itm) (F : Nat → Value) (i : Nat) (h : IdxP w b G.N (look G.edges) R pr F) (hS : Sim G R) (hG : GI G) (hi : i ≤ Nat.log2 G.N) (hi6 : i < 6) :
    Calls Tryz.prog 90 #[ptr b, .int .i64 i] w fun e w' => ∃ val L, e = .returned val ∧ NumsAt w' w.heap.size val L ∧ numsB L = nB (lvF G i G.N).1 ++ (lvF G i G.N).2 ∧ 0 < L.length ∧ L.length ≤ 200000 ∧ Below w.heap.size w w' := by
  have HI := hid h
  have HS := hid hS
  have HG := hid hG
  have n48 := h.n1
  have HIl := hid hi
  obtain ⟨i3, q0, q1, q2, q3⟩ := info_parts Tryz.info3
  clear h hS hG hi
  have hi' : (i : Int) < 6 := by omega
  generalize hN : G.N = N at HI n48
  have HN := hid hN
  clear hN
  go_enter Tryz.func90, Tryz.ntmps90
  go_wp2_with fail
  go_loopw [5, 6, 7] (fun a c d wr => ∃ (n v : Nat) (T : List Nat) (g cc : Nat), v ≤ N ∧ n ≤ v ∧ a = .int .i64 n ∧ c = .slice (some ⟨g, 0, none⟩) T.length cc ∧ d = .int .i64 v ∧ T.length ≤ v * 3000 ∧ Hid (NumsAt wr w.heap.size (.slice (some ⟨g, 0, none⟩) T.length cc) T) ∧ Hid ((n, numsB T) = lvF G i v) ∧ Hid (Below w.heap.size w wr)) (fun _ _ d _ => N - (intOf d).toNat)
  case atStart => exact ⟨0, 0, [], w.heap.size, 0, by omega, by omega, rfl, rfl, rfl, by simp, nums_nil w _ (Nat.le_refl _), rfl, (Below.refl _ _).alloc (Nat.le_refl _) _⟩
  case round =>
    obtain ⟨n, v, T, g, cc, hv, hn, rfl, rfl, rfl, hT, HT, HL, HB⟩ := hrel
    have hBs := HB.out.size
    have HIr := hid (HI.out.below HB.out)
    have dn := HIr.out.hn
    by_cases cv : v < N
    · have cv' : (v : Int) < (N : Int) := by omega
      have HCs := hid (tourAt_R HG.out HS.out HIl.out (by rw [HN.out]; exact cv))
      have HOk := hid (tourAt_ok HG.out HIl.out (v := v) (by rw [HN.out]; exact cv))
      have HPit := HIr.out.it i v hi6 (by omega)
      go_wp2_with fail
      refine (RoundFrom_fany wr b (6913 + i * 48) F (R i) v (HIr.out.fo hi6) (by omega)).mono ?_
      rintro e w1 ⟨rfl, hw⟩
      replace hw := hw.symm
      subst hw
      by_cases c2 : 2 ≤ (R i v).length
      · obtain ⟨r1, r2, r3⟩ : R i v = (tourAt G i v).map pv ∧ ((tourAt G i v)[0]?.getD (0, 0)) = ((v : Int), (-1 : Int)) ∧ 0 < (tourAt G i v).length := by
          rcases HCs.out with q | ⟨r1, _⟩
          · exact q
          · rw [r1] at c2; simp at c2
        obtain ⟨rb, ro, rc, hP⟩ : ∃ b1 o1 c1, PAt wr (F (6913 + i * 48 + v)) (R i v) b1 o1 c1 := by
          rcases HPit with ⟨_, q⟩ | q
          · rw [q] at c2; simp at c2
          · exact q
        have hl1 : (R i v).length = (tourAt G i v).length := by rw [r1]; simp
        have hl2 : (R i v).length ≤ 2352 := by rw [hl1]; exact HOk.out.1
        have HL2 : Hid (lvF G i (v + 1) = (n + 1, numsB T ++ (nB v ++ roundB (tourAt G i v)))) := by
          show _ = _
          rw [lvF_yes r2 (by omega), ← HL.out]
        have hPv := hP.hv
        rw [hPv] at hP ⊢
        have HR1 := hid r1
        have HP := hid hP
        generalize tourAt G i v = t at HOk HL2 HR1
        generalize R i v = p at c2 hl2 HR1 HP
        clear hP hPv r1 r2 r3 HCs HPit HL hl1
        have hTlt := HT.out.1.lt g rfl
        go_wp2_with fail
        refine (treeNumbers_any wr rb ro rc p t HP.out HR1.out (by omega) (by omega) HOk.out.2).mono ?_
        rintro e w2 ⟨val, L, rfl, hL, hLb, hLl, hb2⟩
        have hL0 : L.length ≤ 2352 := by omega
        have hL1 : 0 < L.length := by omega
        obtain ⟨lg, lc, hlv⟩ := nums_head hL hL1
        subst hlv
        have HNL := hid hL
        have HLb := hid hLb
        have HB2 : Hid (Below w.heap.size w w2) := HB.out.trans (hb2.mono hBs)
        have HT2 := hid (HT.out.below hb2 (Nat.le_refl _))
        have hB2s := HB2.out.size
        have hb2s := hb2.size
        have hTl : T.length ≤ 144000 := by omega
        have hLi : (n : Int) < 48 := by omega
        have hvn : v < 2 ^ 28 := by omega
        have HV28 := hid hvn
        have HNe : Hid (¬ some lg = some g) := fun q => by
          have q2 := (hL.1.lt lg rfl).1
          have q3 : lg = g := Option.some.inj q
          omega
        clear hL hLb hb2 HT HB hvn hLl
        go_wp2_with (first
          | (at_builtin; refine wpList_append_own _ rfl (.tmp 34) (.tmp 36) 25 rfl w.heap.size 3 i3 _ 1 8 Tryz.underlying25 q0 q1 q2 q3 rfl (by decide) _ T.length _ rfl (HT2.out.1.alloc _) ⟨w2.heap.size, 0, none⟩ 1 1 [.int .i64 v] rfl rfl (one_cell _ _ _) (fun y hy => by simp at hy; subst hy; rfl) (by unfold maxLen; omega) (by omega) (by simp; omega) ?_; intro v3 w3 ho3 hg3 _; have HO3 : Hid (NumsAt w3 w.heap.size v3 (T ++ [v])) := NumsAt.more (l := T) (m := [v]) ho3 HT2.out.2 (fun y hy => by have := HV28.out; simp at hy; omega); have HNL3 : Hid (NumsAt w3 wr.heap.size (.slice (some ⟨lg, 0, none⟩) L.length lc) L) := ⟨(HNL.out.1.alloc _).kept hg3 (Or.inr (fun q => HNe.out q)), HNL.out.2⟩; have HB3 : Hid (Below w.heap.size w w3) := (HB2.out.alloc hB2s _).grown hg3 (by simp; omega) (fun k hk => (HT2.out.1.lt k hk).1); have hB3s := HB3.out.size; clear ho3 hg3)
          | (at_builtin; refine wpList_append_own _ rfl (.tmp 38) (.tmp 39) 25 rfl w.heap.size 3 i3 _ 1 8 Tryz.underlying25 q0 q1 q2 q3 rfl (by decide) _ (T ++ [v]).length _ rfl HO3.out.1 ⟨lg, 0, none⟩ L.length lc _ rfl (by rw [List.length_map]; omega) (nums_cells HNL3.out) (nums_ones _) (by unfold maxLen; rw [List.length_append, List.length_singleton]; omega) (by rw [List.length_append, List.length_singleton]; omega) (by omega) ?_; intro v4 w4 ho4 hg4 _))
        have R1 : NumsAt w4 w.heap.size v4 (T ++ [v] ++ L) := NumsAt.more ho4 HO3.out.2 HNL3.out.2
        have R2 : Below w.heap.size w w4 := HB3.out.grown hg4 (by omega) (fun k hk => (HO3.out.1.lt k hk).1)
        have hTT : (T ++ [v] ++ L).length = T.length + 1 + L.length := by rw [List.length_append, List.length_append, List.length_singleton]
        obtain ⟨g4, c4, hv4⟩ := nums_head R1 (by omega)
        subst hv4
        refine ⟨⟨n + 1, v + 1, T ++ [v] ++ L, g4, c4, by omega, by omega, by go_num, rfl, by go_num, by omega, R1, ?_, R2⟩, by simp [intOf]; omega⟩
        rw [HL2.out, numsB_append, numsB_append, numsB_one, HLb.out, ByteArray.append_assoc]
        rfl
      · have HL2 : Hid ((n, numsB T) = lvF G i (v + 1)) := by
          show _ = _
          rw [HL.out, lvF_no]
          rintro ⟨k1, k2⟩
          rcases HCs.out with ⟨r1, _, _⟩ | ⟨_, r2⟩
          · have : (R i v).length = (tourAt G i v).length := by rw [r1]; simp
            omega
          · exact r2 k1
        obtain ⟨rp, rc, hrv⟩ := pit_slice HPit
        have hl2 : (R i v).length < 2 := by omega
        rw [hrv]
        generalize (R i v).length = rl at hl2
        clear HPit HCs hrv HL c2
        have hl2' : (rl : Int) < 2 := by omega
        go_wp2
        exact ⟨⟨n, v + 1, T, g, cc, by omega, by omega, rfl, rfl, by go_num, by omega, HT, HL2, HB⟩, by simp [intOf]; omega⟩
    · have hve : v = N := by omega
      subst hve
      have hTl : T.length ≤ 144000 := by omega
      have hn28 : n < 2 ^ 28 := by omega
      have HN1 := hid (nums_lit wr w.heap.size n hBs hn28)
      clear hn28
      go_wp2_with (at_builtin; refine wpList_append_own _ rfl (.tmp 43) (.tmp 44) 25 rfl w.heap.size 3 i3 _ 1 8 Tryz.underlying25 q0 q1 q2 q3 rfl (by decide) _ 1 _ rfl HN1.out.1 ⟨g, 0, none⟩ T.length cc _ rfl (by rw [List.length_map]; omega) (nums_cells (B := w.heap.size) ⟨HT.out.1.alloc _, HT.out.2⟩) (nums_ones _) (by unfold maxLen; omega) (by omega) (by simp; omega) ?_; intro v4 w4 ho4 hg4 _)
      go_ret
      refine ⟨v4, [n] ++ T, rfl, NumsAt.more (l := [n]) ho4 HN1.out.2 HT.out.2, ?_, by simp, by simp; omega, (HB.out.alloc hBs _).grown hg4 (by simp; omega) (fun k hk => (HN1.out.1.lt k hk).1)⟩
      rw [numsB_append, numsB_one, ← HL.out]

end Go.Proofs.YtckallochdegiaaGreat
namespace Go.Proofs.YtckallochdegiaaGreat
set_option linter.unusedVariables false
set_option linter.unusedSimpArgs false
open Go.RowKit

theorem lit_cells (w : World) (cs : Array Value) (t j : Nat) (y : Value) (h : cs.toList[j]? = some y) : (w.alloc (.cells cs t)).cell? ((⟨w.heap.size, 0, none⟩ : Addr).add j) = some y := by
  rw [addr_add, Nat.zero_add, new_cell]
  simpa using h

set_option maxRecDepth 100000 in
set_option maxHeartbeats 1000000 in
theorem mark_any (w : World) (a f : Bool) (l : Nat) (hl : l ≤ 5) : Calls Tryz.prog 89 #[.agg #[.bool a, .bool f, .int .i64 l]] w fun e w' => e = .returned (.int .i64 ((2 * l + (if f then 1 else 0) : Nat) : Int)) ∧ Below w.heap.size w w' := by
  have hl' : (l : Int) ≤ 5 := by omega
  cases f
  · go_enter Tryz.func89, Tryz.ntmps89
    go_wp2
    go_ret
    exact ⟨ret_int (by simp), (Below.refl _ _).alloc (Nat.le_refl _) _⟩
  · go_enter Tryz.func89, Tryz.ntmps89
    go_wp2
    go_ret
    exact ⟨ret_int (by simp), (Below.refl _ _).alloc (Nat.le_refl _) _⟩

theorem look_lev {G : Gr} (hI : GI G) {u v : Nat} (h : (look G.edges u v).1 = true) : 0 ≤ (look G.edges u v).2.2 ∧ (look G.edges u v).2.2 ≤ Nat.log2 G.N := by
  obtain ⟨k, hk⟩ := look_fst.1 h
  have k1 := (find_ge hk).1
  rw [look_at hk]
  have := hI.ed (G.edges[k]?.getD e0) (by rw [get_eq k1]; exact List.getElem_mem k1)
  exact ⟨this.2.2.2.1, this.2.2.2.2⟩

theorem edR_yes {E : Nat → Nat → E3} {u v : Nat} (h : u < v) (k : (E u v).1 = true) : edR E u (v + 1) = edR E u v ++ [ed1 E u v] := by rw [edR, if_pos ⟨h, k⟩]
theorem edR_no {E : Nat → Nat → E3} {u v : Nat} (k : (E u v).1 = false) : edR E u (v + 1) = edR E u v := by rw [edR, if_neg (by rw [k]; simp)]; simp

set_option maxRecDepth 100000 in
set_option maxHeartbeats 4000000 in
theorem edgeNumbers_any (w : World) (b : Nat) (G : Gr) (pr : Int) (R : Nat → Nat → List Itm) (F : Nat → Value) (h : IdxP w b G.N (look G.edges) R pr F) (hG : GI G) :
    Calls Tryz.prog 60 #[ptr b] w fun e w' => ∃ val L, e = .returned val ∧ NumsAt w' w.heap.size val L ∧ numsB L = edgesB (sortE G.edges) G.edges.length ∧ 0 < L.length ∧ L.length ≤ 200000 ∧ Below w.heap.size w w' := by
  have HI := hid h
  have n48 := h.n1
  have HLv : Hid (∀ u v, (look G.edges u v).1 = true → ∃ l : Nat, (look G.edges u v).2.2 = l ∧ l ≤ 5) := fun u v q => by
    have := look_lev hG q
    have l5 := log2_le5 hG.n1 hG.n48
    exact ⟨(look G.edges u v).2.2.toNat, by omega, by omega⟩
  have HC := hid (edges_count hG)
  have HC2 : Hid (cE (look G.edges) G.N ≤ 2304) := by
    show _ ≤ _
    rw [edges_count hG, ← sortE_length hG.nd, edA_sort hG]
    have := edA_le (look G.edges) G.N G.N
    have : G.N * G.N ≤ 48 * 48 := Nat.mul_le_mul n48 n48
    omega
  have HSo := hid (edA_sort hG)
  have HSl := hid (sortE_length hG.nd)
  obtain ⟨i3, q0, q1, q2, q3⟩ := info_parts Tryz.info3
  clear h hG
  obtain ⟨N, hN⟩ : ∃ N, G.N = N := ⟨_, rfl⟩
  rw [hN] at HI n48 HC HC2 HSo
  clear hN
  obtain ⟨E, hE⟩ : ∃ E, look G.edges = E := ⟨_, rfl⟩
  rw [hE] at HI HLv HC HC2 HSo
  clear hE
  go_enter Tryz.func60, Tryz.ntmps60
  go_wp2_with fail
  refine (countEdges_any w b N E R pr F HI.out).mono ?_
  rintro e w1 ⟨rfl, hw⟩
  replace hw := hw.symm
  subst hw
  have hc := HC2.out
  have HCe := HC
  generalize cE E N = c at HC HC2 hc HCe
  have HN0 := hid (nums_lit w w.heap.size c (Nat.le_refl _) (by omega))
  go_wp2_with fail
  go_loopw [3, 4] (fun a d wr => ∃ u : Nat, u ≤ N ∧ d = .int .i64 u ∧ Hid (NumsAt wr w.heap.size a (c :: edNs (edA E N u))) ∧ Hid (Below w.heap.size w wr)) (fun _ d _ => N - (intOf d).toNat)
  case atStart => exact ⟨0, by omega, rfl, HN0, (Below.refl _ _).alloc (Nat.le_refl _) _⟩
  case round =>
    obtain ⟨u, hu, rfl, HL, HB⟩ := hrel
    have hBs := HB.out.size
    have dn := (HI.out.below HB.out).hn
    by_cases cu : u < N
    · have cu' : (u : Int) < (N : Int) := by omega
      have hu48 : (u : Int) < 48 := by omega
      have hAl := edA_le E N u
      have HA1 : Hid (edA E N u ++ edR E u (u + 1) = edA E N u) := by show _ = _; rw [edR_nil E u (u + 1) (by omega)]; simp
      have HA2 : Hid (edA E N (u + 1) = edA E N u ++ edR E u N) := by show _ = _; rfl
      have hAl2 : (edA E N u).length ≤ 2304 := by have := Nat.mul_le_mul hu n48; have := Nat.mul_le_mul n48 (Nat.le_refl 48); omega
      generalize edA E N u = A at HL HA1 HA2 hAl2
      clear hAl
      go_wp2_with fail
      go_loopw [3, 5] (fun a d wr => ∃ v : Nat, u < v ∧ v ≤ N ∧ d = .int .i64 v ∧ Hid (NumsAt wr w.heap.size a (c :: edNs (A ++ edR E u v))) ∧ Hid (Below w.heap.size w wr)) (fun _ d _ => N - (intOf d).toNat)
      case atStart => exact ⟨u + 1, by omega, by omega, by go_num, by rw [HA1.out]; exact HL.out, HB⟩
      case round =>
        obtain ⟨v, huv, hv, rfl, HL, HB⟩ := hrel
        have hBs := HB.out.size
        clear HA1
        have HIr := hid (HI.out.below HB.out)
        have dn := HIr.out.hn
        by_cases cv : v < N
        · have cv' : (v : Int) < (N : Int) := by omega
          have hv48 : (v : Int) < 48 := by omega
          have d0 := HIr.out.c0 u v (by omega) (by omega)
          have d1 := HIr.out.c1 u v (by omega) (by omega)
          have d2 := HIr.out.c2 u v (by omega) (by omega)
          have hRl := edR_le E u v
          cases hE : (E u v).1
          · have HNo := hid (edR_no hE)
            rw [hE] at d0
            clear hE
            go_wp2
            exact ⟨⟨v + 1, by omega, by omega, by go_num, by rw [HNo.out]; exact ⟨HL.out.1.alloc _, HL.out.2⟩, HB.out.alloc hBs _⟩, by simp [intOf]; omega⟩
          · obtain ⟨l, hl, hl5⟩ := HLv.out u v hE
            rw [hE] at d0
            rw [hl] at d2
            have HYes := hid (edR_yes huv hE)
            generalize hf : (E u v).2.1 = f at d1
            have HEd : Hid (edNs [ed1 E u v] = [u, v, 2 * l + if f then 1 else 0]) := by show _ = _; rw [edNs_one, edN, ed1]; simp [hl, hf]
            clear hE hl hf
            have HNn : Hid (c :: edNs (A ++ edR E u (v + 1)) = (c :: edNs (A ++ edR E u v)) ++ [u, v, 2 * l + if f then 1 else 0]) := by
              show _ = _
              rw [HYes.out, ← List.append_assoc, edNs_append, HEd.out]; rfl
            have hLl : (c :: edNs (A ++ edR E u v)).length ≤ 8000 := by
              rw [List.length_cons, edNs_length, List.length_append]; omega
            clear HYes HEd
            obtain ⟨LL, hLL⟩ : ∃ LL, c :: edNs (A ++ edR E u v) = LL := ⟨_, rfl⟩
            rw [hLL] at HL HNn hLl
            clear hLL
            go_wp2_with fail
            refine (mark_any _ true f l hl5).mono ?_
            rintro e w2 ⟨rfl, hb2⟩
            have hmk : 2 * l + (if f then 1 else 0) ≤ 11 := by cases f <;> simp <;> omega
            generalize (2 * l + if f then 1 else 0) = mk at HNn hmk
            have HB1 : Hid (∀ ob, Below wr.heap.size wr (wr.alloc ob)) := fun ob => (Below.refl _ _).alloc (Nat.le_refl _) ob
            have HBr : Hid (Below wr.heap.size wr w2) := (HB1.out _).trans (hb2.mono (by simp))
            have HB2 : Hid (Below w.heap.size w w2) := HB.out.trans (HBr.out.mono hBs)
            have HL2 := hid (HL.out.below HBr.out (Nat.le_refl _))
            have hB2s := HB2.out.size
            clear hb2 HBr HB1 d0 d1 d2 HIr dn
            go_wp2_with (at_builtin; refine wpList_append_own _ rfl (.tmp 41) (.tmp 45) 25 rfl w.heap.size 3 i3 _ 1 8 Tryz.underlying25 q0 q1 q2 q3 rfl (by decide) _ LL.length _ rfl (HL2.out.1.alloc _) ⟨w2.heap.size, 0, none⟩ 3 3 [.int .i64 u, .int .i64 v, .int .i64 mk] rfl rfl (lit_cells _ _ _) (fun y hy => by simp at hy; rcases hy with rfl | rfl | rfl <;> rfl) (by unfold maxLen; omega) (by omega) (by simp; omega) ?_; intro v' w3 ho hg _)
            have R1 : NumsAt w3 w.heap.size v' (c :: edNs (A ++ edR E u (v + 1))) := by
              rw [HNn.out]
              exact NumsAt.more (m := [u, v, mk]) ho HL2.out.2 (fun n hn => by simp at hn; omega)
            have R2 : Below w.heap.size w w3 := (HB2.out.alloc hB2s _).grown hg (by simp; omega) (fun k hk => (HL2.out.1.lt k hk).1)
            exact ⟨⟨v + 1, by omega, by omega, by go_num, R1, R2⟩, by simp [intOf]; omega⟩
        · have hve : v = N := by omega
          have HL2 : Hid (NumsAt wr w.heap.size u3 (c :: edNs (edA E N (u + 1)))) := by
            show NumsAt _ _ _ _
            rw [HA2.out, ← hve]; exact HL.out
          clear hve
          go_wp2
          exact ⟨⟨u + 1, by omega, by go_num, HL2, HB⟩, by simp [intOf]; omega⟩
    · have hue : u = N := by omega
      have HAl : Hid ((edA E N N).length = c) := by show _ = _; rw [← HSo.out, HSl.out, HCe.out]
      have HFin : Hid (numsB (c :: edNs (edA E N u)) = edgesB (sortE G.edges) G.edges.length) := by
        show _ = _
        have := edgesB_nums (sortE G.edges)
        rw [HSl.out] at this
        rw [this, hue, HSo.out, HCe.out]
      have HLen : Hid ((c :: edNs (edA E N u)).length ≤ 200000) := by
        show _ ≤ _
        rw [List.length_cons, edNs_length, hue, HAl.out]; omega
      clear hue
      go_wp2
      go_ret
      exact ⟨_, _, rfl, HL.out, HFin.out, by simp, HLen.out, HB.out⟩

theorem toursB_succ (G : Gr) (i : Nat) : toursB G (i + 1) = toursB G i ++ (nB (lvF G i G.N).1 ++ (lvF G i G.N).2) := rfl

set_option maxRecDepth 100000 in
set_option maxHeartbeats 4000000 in
theorem tourNumbers_any (w : World) (b : Nat) (G : Gr) (pr : Int) (R : Nat → Nat → List Itm) (F : Nat → Value) (h : IdxP w b G.N (look G.edges) R pr F) (hS : Sim G R) (hG : GI G) :
    Calls Tryz.prog 61 #[ptr b] w fun e w' => ∃ val L, e = .returned val ∧ NumsAt w' w.heap.size val L ∧ numsB L = toursB G G.tours.length ∧ 0 < L.length ∧ L.length ≤ 2000000 ∧ Below w.heap.size w w' := by
  have HI := hid h
  have HS := hid hS
  have HG := hid hG
  have n1 := h.n0
  have n48 := h.n1
  have hblt := h.row.lt
  have hbne : ¬ w.heap.size = b := by omega
  have hbne2 : ¬ b = w.heap.size := by omega
  have dn := (h.below ((Below.refl _ _).alloc (Nat.le_refl _) (.cells #[] 3))).hn
  have l5 := log2_le5 hG.n1 hG.n48
  have HTl := hid hG.tl
  obtain ⟨i3, q0, q1, q2, q3⟩ := info_parts Tryz.info3
  clear h hS hG
  go_enter Tryz.func61, Tryz.ntmps61
  go_wp2_with fail
  refine (topLevel_any _ G.N n1 n48).mono ?_
  rintro e w1 ⟨rfl, hw⟩
  replace hw := hw.symm
  subst hw
  obtain ⟨tp, htp⟩ : ∃ tp, Nat.log2 G.N = tp := ⟨_, rfl⟩
  have HTp := hid htp
  rw [htp] at l5 HTl ⊢
  clear htp
  go_wp2_with fail
  go_loopw [3, 5] (fun a d wr => ∃ (k : Nat) (L : List Nat), k ≤ tp + 1 ∧ d = .int .i64 k ∧ L.length ≤ k * 200000 ∧ k ≤ L.length ∧ Hid (NumsAt wr w.heap.size a L) ∧ Hid (numsB L = toursB G k) ∧ Hid (Below w.heap.size w wr)) (fun _ d _ => tp + 1 - (intOf d).toNat)
  case atStart => exact ⟨0, [], by omega, rfl, by simp, by omega, nums_nil w _ (Nat.le_refl _), rfl, (Below.refl _ _).alloc (Nat.le_refl _) _⟩
  case round =>
    obtain ⟨k, L, hk, rfl, hL, hkL, HL, HT, HB⟩ := hrel
    have hBs := HB.out.size
    have HIr := hid (HI.out.below HB.out)
    by_cases ck : k ≤ tp
    · have ck' : (k : Int) ≤ (tp : Int) := by omega
      go_wp2_with fail
      refine (levelNumbers_any wr b G pr R F k HIr.out HS.out HG.out (by rw [HTp.out]; exact ck) (by omega)).mono ?_
      rintro e w2 ⟨val, M, rfl, hM, hMb, hM0, hM1, hb2⟩
      obtain ⟨mg, mc, hmv⟩ := nums_head hM hM0
      subst hmv
      have HM := hid hM
      have HMb := hid hMb
      have HB2 : Hid (Below w.heap.size w w2) := HB.out.trans (hb2.mono hBs)
      have HL2 := hid (HL.out.below hb2 (Nat.le_refl _))
      have hB2s := HB2.out.size
      clear hM hMb hb2 HL HB
      go_wp2_with (at_builtin; refine wpList_append_own _ rfl (.tmp 21) (.tmp 22) 25 rfl w.heap.size 3 i3 _ 1 8 Tryz.underlying25 q0 q1 q2 q3 rfl (by decide) _ L.length _ rfl HL2.out.1 ⟨mg, 0, none⟩ M.length mc _ rfl (by rw [List.length_map]; omega) (nums_cells HM.out) (nums_ones _) (by unfold maxLen; omega) (by omega) (by omega) ?_; intro v4 w4 ho4 hg4 _)
      have R1 : NumsAt w4 w.heap.size v4 (L ++ M) := NumsAt.more ho4 HL2.out.2 HM.out.2
      have R2 : Below w.heap.size w w4 := HB2.out.grown hg4 (by omega) (fun k hk => (HL2.out.1.lt k hk).1)
      have hLM : (L ++ M).length = L.length + M.length := List.length_append
      exact ⟨⟨k + 1, L ++ M, by omega, by go_num, by omega, by omega, R1, by show _ = _; rw [numsB_append, HT.out, HMb.out, toursB_succ], R2⟩, by simp [intOf]; omega⟩
    · have ck' : ¬ (k : Int) ≤ (tp : Int) := by omega
      have hke : k = tp + 1 := by omega
      have HT2 : Hid (numsB L = toursB G G.tours.length) := by show _ = _; rw [HTl.out, ← hke]; exact HT.out
      clear hke
      go_wp2
      go_ret
      exact ⟨_, rfl, L, HL.out, HT2.out, by omega, by omega, HB.out⟩

set_option maxRecDepth 100000 in
set_option maxHeartbeats 4000000 in
/-- What Save answers: the state, as bytes. -/
theorem Save_any (w : World) (b : Nat) (G : Gr) (pr : Int) (h : IdxG w b G pr) (hG : GI G) : Calls Tryz.prog 29 #[ptr b] w fun e w' => e = .returned (.string (bytesB G)) ∧ Below w.heap.size w w' := by
  obtain ⟨R, F, h1, h2⟩ := h
  have HI := hid h1
  have HS := hid h2
  have HG := hid hG
  have n1 := h1.n0
  have n48 := h1.n1
  have dn := h1.hn
  clear h1 h2 hG
  go_enter Tryz.func29, Tryz.ntmps29
  go_wp2_with fail
  refine (isVertex_any b G.N 0 w dn).mono ?_
  rintro e w1 ⟨rfl, hw⟩
  replace hw := hw.symm
  subst hw
  rw [vtx_yes (Int.le_refl 0) (by omega)]
  go_wp2_with fail
  refine (edgeNumbers_any w b G pr R F HI.out HG.out).mono ?_
  rintro e w2 ⟨v2, L2, rfl, hN2, hL2, p2, l2, hb2⟩
  have HN2 := hid hN2
  have HL2 := hid hL2
  have HB2 := hid hb2
  clear hN2 hL2 hb2
  go_wp2_with fail
  refine (tourNumbers_any w2 b G pr R F (HI.out.below HB2.out) HS.out HG.out).mono ?_
  rintro e w3 ⟨v3, L3, rfl, hN3, hL3, p3, l3, hb3⟩
  have HN3 := hid hN3
  have HL3 := hid hL3
  have HB3 := hid hb3
  have HBw3 : Hid (Below w.heap.size w w3) := HB2.out.trans (hb3.mono HB2.out.size)
  have HN23 := hid (HN2.out.below hb3 (Nat.le_refl _))
  clear hN3 hL3 hb3 HN2 HB3
  have dn3 := (HI.out.below HBw3.out).hn
  clear dn
  have HN4 := hid (nums_lit w3 w.heap.size G.N HBw3.out.size (by omega))
  go_wp2_with fail
  refine (Of_any _ _ _ [G.N] HN4.out (by simp) (by simp)).mono ?_
  rintro e w4 ⟨rfl, hb4⟩
  have HB34 : Hid (Below w3.heap.size w3 w4) := ((Below.refl _ _).alloc (Nat.le_refl _) _).trans (hb4.mono (by simp))
  have HBw4 : Hid (Below w.heap.size w w4) := HBw3.out.trans (HB34.out.mono HBw3.out.size)
  have HN24 := hid (HN23.out.below HB34.out (Nat.le_refl _))
  have HN34 := hid (HN3.out.below HB34.out (Nat.le_refl _))
  clear hb4 HN23 HN3 HN4 HB34 dn3
  have z1 := frameB_size (numsB [G.N])
  have z2 := numsB_size [G.N]
  have z3 := frameB_size (numsB L2)
  have z4 := numsB_size L2
  have z5 := frameB_size (numsB L3)
  have z6 := numsB_size L3
  have HFin : Hid (bytesB G = ⟨#[72, 68, 84, 49]⟩ ++ frameB (numsB [G.N]) ++ frameB (numsB L2) ++ frameB (numsB L3)) := by show _ = _; rw [bytesB, numsB_one, HL2.out, HL3.out]
  generalize hf1 : frameB (numsB [G.N]) = f1 at z1 HFin
  have hf1s : f1.size ≤ 91 := by simp at z2; omega
  clear hf1 z1 z2
  have HO2 := hid (Of_any w4 _ v2 L2 HN24.out p2 (by omega))
  have HO3 := hid (fun wx hbx => Of_any wx _ v3 L3 (HN34.out.below (C := w4.heap.size) hbx (Nat.le_refl _)) p3 l3)
  generalize frameB (numsB L2) = f2 at z3 HFin HO2
  generalize frameB (numsB L3) = f3 at z5 HFin HO3
  have hf2s : f2.size ≤ 100000000 := by omega
  have hf3s : f3.size ≤ 100000000 := by omega
  clear z3 z4 z5 z6
  have h4 : (ByteArray.mk #[72, 68, 84, 49]).size = 4 := rfl
  have hs1 : ¬ 9223372036854775807 < 4 + f1.size := by omega
  have hs1' : ¬ 9223372036854775807 < (ByteArray.mk #[72, 68, 84, 49]).size + f1.size := by omega
  have hs2 : ¬ 9223372036854775807 < (ByteArray.mk #[72, 68, 84, 49] ++ f1).size + f2.size := by rw [ByteArray.size_append, h4]; omega
  have hs3 : ¬ 9223372036854775807 < (ByteArray.mk #[72, 68, 84, 49] ++ f1 ++ f2).size + f3.size := by rw [ByteArray.size_append, ByteArray.size_append, h4]; omega
  clear h4
  go_wp2_with fail
  refine HO2.out.mono ?_
  rintro e w5 ⟨rfl, hb5⟩
  have HB5 := hid hb5
  clear hb5
  go_wp2_with fail
  refine (HO3.out w5 HB5.out).mono ?_
  rintro e w6 ⟨rfl, hb6⟩
  have HBw6 : Hid (Below w.heap.size w w6) := (HBw4.out.trans (HB5.out.mono HBw4.out.size)).trans (hb6.mono (Nat.le_trans HBw4.out.size HB5.out.size))
  clear hb6
  go_wp2
  go_ret
  exact ⟨by rw [HFin.out]; rfl, HBw6.out⟩

end Go.Proofs.YtckallochdegiaaGreat
