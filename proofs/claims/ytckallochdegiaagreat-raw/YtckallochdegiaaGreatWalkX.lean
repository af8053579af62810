import Derived.Test.YtckallochdegiaaGreatWeak
import Derived.Test.YtckallochdegiaaGreatLevX
namespace Go.Proofs.YtckallochdegiaaGreat
set_option linter.unusedVariables false
set_option linter.unusedSimpArgs false
open Go.RowKit

/-- What must be met, of the first m edges. -/
def wantP (N : Nat) (es : List Edg) (i v m : Nat) : List Itm := (compV N es i v).map (fun u : Nat => ((u : Int), (-1 : Int))) ++ waysE ((es.take m).filter fun e => e.tree && decide ((i : Int) ≤ e.lev) && inI es i v e.u)
theorem wantP_zero (N : Nat) (es : List Edg) (i v : Nat) : wantP N es i v 0 = (compV N es i v).map fun u : Nat => ((u : Int), (-1 : Int)) := by simp [wantP, waysE]
theorem wantP_all (N : Nat) (es : List Edg) (i v : Nat) : wantP N es i v es.length = wantF N es i v := by rw [wantP, List.take_length]; rfl
theorem wantP_step {N : Nat} {es : List Edg} {i v m : Nat} (hm : m < es.length) : wantP N es i v (m + 1) = wantP N es i v m ++ if ((es[m]?.getD e0).tree && decide ((i : Int) ≤ (es[m]?.getD e0).lev) && inI es i v (es[m]?.getD e0).u) = true then [((es[m]?.getD e0).u, (es[m]?.getD e0).v), ((es[m]?.getD e0).v, (es[m]?.getD e0).u)] else [] := by
  rw [wantP, wantP, List.take_succ_eq_append_getElem hm, List.filter_append, get_eq hm, List.append_assoc]
  congr 1
  rw [waysE, List.flatMap_append]
  congr 1
  by_cases c : (es[m].tree && decide ((i : Int) ≤ es[m].lev) && inI es i v es[m].u) = true
  · rw [if_pos c, List.filter_cons_of_pos (by exact c)]; simp
  · rw [if_neg c, List.filter_cons_of_neg (by exact c)]; simp
theorem vtxI_step (p : Nat → Bool) (k : Nat) : ((List.range (k + 1)).filter p).map (fun u : Nat => ((u : Int), (-1 : Int))) = ((List.range k).filter p).map (fun u : Nat => ((u : Int), (-1 : Int))) ++ if p k = true then [((k : Int), (-1 : Int))] else [] := by
  rw [List.range_succ, List.filter_append, List.map_append]
  by_cases c : p k = true <;> simp [c]
theorem wlk_snoc (ds : List Nat) (d : Nat) : ∀ a, wlk a (ds ++ [d]) = wlk a ds ++ [(wend a ds, (d : Int) - 1)] ∧ wend a (ds ++ [d]) = if 0 < d then (d : Int) - 1 else wend a ds := by
  induction ds with
  | nil => intro a; exact ⟨rfl, rfl⟩
  | cons x ds ih =>
    intro a
    obtain ⟨h1, h2⟩ := ih (if 0 < x then (x : Int) - 1 else a)
    rw [List.cons_append, wlk, wlk, wend, wend, h1, h2]
    exact ⟨rfl, rfl⟩
theorem wlk_more {ts : List Nat} {k : Nat} (a : Int) (h : 2 + k < ts.length) : wlk a ((ts.drop 2).take (k + 1)) = wlk a ((ts.drop 2).take k) ++ [(wend a ((ts.drop 2).take k), ((ts[2 + k]?.getD 0 : Nat) : Int) - 1)] ∧ wend a ((ts.drop 2).take (k + 1)) = if 0 < ts[2 + k]?.getD 0 then ((ts[2 + k]?.getD 0 : Nat) : Int) - 1 else wend a ((ts.drop 2).take k) := by
  have hk : k < (ts.drop 2).length := by rw [List.length_drop]; omega
  have e : (ts.drop 2)[k] = ts[2 + k]?.getD 0 := by rw [List.getElem_drop, get_eq h]
  rw [List.take_succ_eq_append_getElem hk, e]
  exact wlk_snoc _ _ a
theorem count_step (l : List Itm) (x : Itm) (m : Nat) (hm : m < l.length) : (l.take (m + 1)).count x = (l.take m).count x + if x.1 = (l[m]?.getD (0, 0)).1 ∧ x.2 = (l[m]?.getD (0, 0)).2 then 1 else 0 := by
  rw [List.take_succ_eq_append_getElem hm, List.count_append, get_eq hm, List.count_singleton]
  congr 1
  by_cases c : x.1 = l[m].1 ∧ x.2 = l[m].2
  · rw [if_pos c, if_pos (by simp [Prod.ext_iff, c.1, c.2])]
  · rw [if_neg c, if_neg (fun q => c (by have := beq_iff_eq.1 q; rw [this]; exact ⟨rfl, rfl⟩))]
theorem walkF_eq {N : Nat} {es : List Edg} {i v sz nn : Nat} {ts : List Nat} {l2 : List Itm} (hsz : sz = (compV N es i v).length) (hnn : 3 * (sz : Int) - 3 = nn) (hl : l2 = wantF N es i v) : walkF N es i v ts = if nn + 2 ≤ ts.length ∧ ts[0]?.getD 0 = v ∧ ts[1]?.getD 0 = sz ∧ l2.length = nn + 1 ∧ (∀ x, x ∈ l2 → (walkOut v nn ts).count x = 1) ∧ wend v ((ts.drop 2).take nn) = v then some (walkOut v nn ts, ts.drop (nn + 2)) else none := by
  have : nn = 3 * (compV N es i v).length - 3 := by omega
  rw [this, hl, hsz]; rfl
theorem GrowI.mono {w : World} {B B' : Nat} {v : Value} {l : List Itm} (h : GrowI w B v l) (hB : B' ≤ B) : GrowI w B' v l := by
  refine ⟨h.1, ?_⟩
  rcases h.2 with k | ⟨g, c, cur, h1, h2, h3⟩
  · exact Or.inl k
  · exact Or.inr ⟨g, c, cur, h1, Nat.le_trans hB h2, h3⟩

/-- What walk answers. -/
def WalkX (N : Nat) (es : List Edg) (i v : Nat) (ts : List Nat) (w : World) (e : Ending) (w' : World) : Prop := ∃ (p : Option Addr) (n c : Nat) (v2 : Value), e = .returned (.tuple #[.slice p n c, v2, .bool (walkF N es i v ts).isSome]) ∧ (∀ l r, walkF N es i v ts = some (l, r) → GrowI w' w.heap.size (.slice p n c) l ∧ IntsAt w' v2 r) ∧ Below w.heap.size w w'
theorem walkX_no {N : Nat} {es : List Edg} {i v : Nat} {ts : List Nat} {w w' : World} (h : walkF N es i v ts = none) (b : Below w.heap.size w w') : WalkX N es i v ts w (.returned (.tuple #[.slice none 0 0, .slice none 0 0, .bool false])) w' :=
  ⟨none, 0, 0, .slice none 0 0, by rw [h]; rfl, fun l r q => by rw [h] at q; simp at q, b⟩

set_option maxRecDepth 100000 in
set_option maxHeartbeats 2000000 in
theorem walk_F (w : World) (g N : Nat) (es : List Edg) (ev : Value) (tb nt tcap : Nat) (pr : Int) (h : GW w g N es ev tb nt tcap pr) (i v : Nat) (hi : i ≤ 100) (hv : v < N) (tv : Value) (ts : List Nat) (hT : IntsAt w tv ts) (hts : ∀ n, n ∈ ts → n < 2 ^ 28) (hes : es.length ≤ 2 ^ 20) :
    Calls Tryz.prog 88 #[ptr g, .int .i64 i, .int .i64 v, tv] w (WalkX N es i v ts w) := by
  have n48 := h.n48
  have HG := hid h
  have HT := hid hT
  have HTs := hid hts
  have hv' : (v : Int) < (N : Int) := by omega
  clear h hT hts
  obtain ⟨i74, q0, q1, q2, q3⟩ := info_parts Tryz.info71
  go_enter Tryz.func88, Tryz.ntmps88
  go_wp2_with fail
  refine (Component_any g N v i true es ev w HG.out.c0 HG.out.c1 HG.out.ed n48 (by omega) hv' HG.out.inr).mono ?_
  rintro e w1 ⟨rfl, ⟨r, hR, hr⟩, hb1⟩
  have HR := hid hR
  have HB1 := hid hb1
  have HRv : Hid (r v = true) := (hr v hv).2 Rch.refl
  have HRi : Hid (∀ x, x < N → r x = inI es i v x) := fun x hx => r_in hr hx
  have hs1 := hb1.size
  clear hR hb1 hr
  go_wp2_with fail
  go_loopw [12, 33] (fun a b wr => ∃ (k : Nat) (l : List Itm), k ≤ N ∧ l.length ≤ k ∧ (v < k → 1 ≤ l.length) ∧ b = .int .i64 k ∧ Hid (l = ((List.range k).filter fun u : Nat => inI es i v u).map fun u : Nat => ((u : Int), (-1 : Int))) ∧ Hid (GrowI wr w1.heap.size a l) ∧ Hid (Below w1.heap.size w1 wr)) (fun _ b _ => N - (intOf b).toNat)
  case atStart => exact ⟨0, [], by omega, by simp, fun q => by omega, rfl, rfl, World.ownsRow_nil _ _ _ _, Below.refl _ _⟩
  case round =>
    obtain ⟨k, l, hk, hl, hvk, rfl, HLv, hO, hB⟩ := hrel
    have hBs := hB.out.size
    by_cases ck : k < N
    · have ck' : (k : Int) < (N : Int) := by omega
      have d := World.rowIs.cell (row_but (S := fun _ => False) HR.out (But.of hB.out) (fun q => q)) (i := k) ck
      have HLs : Hid (((List.range (k + 1)).filter fun u : Nat => inI es i v u).map (fun u : Nat => ((u : Int), (-1 : Int))) = l ++ if r k = true then [((k : Int), (-1 : Int))] else []) := by show _ = _; rw [vtxI_step, HRi.out k ck, ← HLv.out]
      by_cases hrk : r k = true
      · rw [hrk] at d HLs
        have HLt : Hid (l ++ [((k : Int), (-1 : Int))] = ((List.range (k + 1)).filter fun u : Nat => inI es i v u).map fun u : Nat => ((u : Int), (-1 : Int))) := by show _ = _; rw [HLs.out, if_pos rfl]
        clear hrk hvk HLs
        have HM : Hid (l.length + 1 ≤ maxLen) := by show _ ≤ _; unfold maxLen; omega
        go_wp2_with (at_builtin; refine wpList_append_own _ rfl (.tmp 40) (.tmp 43) 68 rfl w1.heap.size 71 i74 _ 2 16 Tryz.underlying68 q0 q1 q2 q3 rfl (by decide) _ l.length (itemCells l) rfl (hO.out.alloc _) ⟨wr.heap.size, 0, none⟩ 1 1 (itemCells [((k : Int), -1)]) rfl rfl (item_cells1 wr _ _) (items_one _) HM.out (by omega) (by simp; omega) ?_; intro v' w3 ho hg _)
        have R1 : GrowI w3 w1.heap.size v' (l ++ [((k : Int), -1)]) := by
          show w3.ownsRow _ _ _ _ _ _
          rw [List.length_append, itemCells_append]; exact ho
        have R2 : Below w1.heap.size w1 w3 := (hB.out.alloc hBs _).grown hg (by simp; omega) (fun j hj => (World.ownsRow.lt hO.out j hj).1)
        exact ⟨⟨k + 1, l ++ [((k : Int), -1)], by omega, by rw [List.length_append]; simp; omega, fun _ => by rw [List.length_append]; simp, by go_num, HLt, R1, R2⟩, by simp [intOf]; omega⟩
      · have hrk' : r k = false := by simpa using hrk
        rw [hrk'] at d HLs
        have HLt : Hid (l = ((List.range (k + 1)).filter fun u : Nat => inI es i v u).map fun u : Nat => ((u : Int), (-1 : Int))) := by show _ = _; rw [HLs.out, if_neg (by simp), List.append_nil]
        clear HLs
        have hvk2 : v < k + 1 → 1 ≤ l.length := fun q => hvk (by
          by_cases e : v = k
          · exact absurd HRv.out (by rw [e]; exact hrk)
          · omega)
        have HVk := hid hvk2
        clear hrk hrk' hvk hvk2
        go_wp2
        exact ⟨⟨k + 1, l, by omega, by omega, HVk.out, by go_num, HLt, hO, hB⟩, by simp [intOf]; omega⟩
    · have ck' : ¬ (k : Int) < (N : Int) := by omega
      have hl1 : 1 ≤ l.length := hvk (by omega)
      have HLc : Hid (l = wantP N es i v 0) := by show _ = _; rw [wantP_zero, HLv.out, show k = N by omega]; rfl
      clear HLv
      clear hvk
      obtain ⟨wb, wcap, hW, hWv⟩ := GrowI.at_ hO.out hl1
      subst hWv
      have HBw : Hid (Below w.heap.size w wr) := HB1.out.trans (hB.out.mono hs1)
      have HGr := hid (HG.out.below HBw.out)
      have d1 := HGr.out.c1
      obtain ⟨p, cap, hev⟩ : ∃ p cap, ev = .slice p es.length cap := by
        rcases HGr.out.ed with ⟨q, rfl⟩ | ⟨b, cap, h⟩
        · exact ⟨_, _, q⟩
        · exact ⟨_, _, h.hv⟩
      have HEv := hid hev
      rw [hev] at d1
      obtain ⟨sz, hsz⟩ : ∃ sz, sz = l.length := ⟨_, rfl⟩
      have hsz1 : 1 ≤ sz := by omega
      have hsz2 : sz ≤ 48 := by omega
      have HSz : Hid (sz = (compV N es i v).length) := by show _ = _; rw [hsz, HLc.out, wantP_zero, List.length_map]
      have HO : Hid (∃ l2 : List Itm, l2.length = sz ∧ GrowI wr w1.heap.size (.slice (some ⟨wb, 0, none⟩) sz wcap) l2 ∧ l2 = wantP N es i v 0) := ⟨l, hsz.symm, by rw [hsz]; exact hO.out, HLc.out⟩
      rw [← hsz]
      clear hev hW hO hsz hl hl1 HLc
      go_wp2_with fail
      clear d1 HGr
      go_loopw [12, 53] (fun a b wr => ∃ (m n2 : Nat), m ≤ es.length ∧ 1 ≤ n2 ∧ n2 ≤ sz + 2 * m ∧ b = .int .i64 m ∧ Hid (∃ l2 : List Itm, l2.length = n2 ∧ GrowI wr w1.heap.size a l2 ∧ l2 = wantP N es i v m) ∧ Hid (Below w1.heap.size w1 wr)) (fun _ b _ => es.length - (intOf b).toNat)
      case atStart => exact ⟨0, sz, by omega, hsz1, by omega, rfl, HO, hB⟩
      case round =>
        clear hB HO HBw hBs
        obtain ⟨m, n2, hm, hn1, hn2, rfl, hO, hB⟩ := hrel
        have hBs := hB.out.size
        have HBw : Hid (Below w.heap.size w wr) := HB1.out.trans (hB.out.mono hs1)
        by_cases c : m < es.length
        · have c' : (m : Int) < (es.length : Int) := by omega
          have HGr := hid (HG.out.below HBw.out)
          obtain ⟨eb, ecap, hEA, hev⟩ := HGr.out.ed.at_ c
          rw [HEv.out] at hev
          simp only [Value.slice.injEq, true_and] at hev
          obtain ⟨hp, hcap⟩ := hev
          subst hp hcap
          have a0 := hEA.c0 m c
          have a1 := hEA.c1 m c
          have a2 := hEA.c2 m c
          have a3 := hEA.c3 m c
          have l1 := hEA.le
          have l2 := hEA.mx
          unfold maxLen at l2
          have hr := HGr.out.inr (es[m]?.getD Go.Proofs.YtckallochdegiaaGreat.e0) (by rw [get_eq c]; exact List.getElem_mem c)
          clear hEA HGr
          have HWs := hid (wantP_step (N := N) (i := i) (v := v) c)
          obtain ⟨x, hx⟩ : ∃ x, x = es[m]?.getD Go.Proofs.YtckallochdegiaaGreat.e0 := ⟨_, rfl⟩
          rw [← hx] at a0 a1 a2 a3 hr HWs
          clear hx
          obtain ⟨xu, xv, xl, xt⟩ := x
          simp only at a0 a1 a2 a3 hr HWs
          obtain ⟨yu, rfl⟩ : ∃ y : Nat, xu = y := ⟨xu.toNat, by omega⟩
          have hyu : yu < N := by omega
          have hyu' : (yu : Int) < (N : Int) := by omega
          rw [← HRi.out yu hyu] at HWs
          clear hr
          have hrow : ∀ o, (wr.alloc o).cell? ⟨w.heap.size, yu, none⟩ = some (.bool (r yu)) := fun o => World.rowIs.cell (row_but (S := fun _ => False) HR.out (But.of (hB.out.alloc hBs o)) (fun q => q)) (i := yu) hyu
          have HBx : Hid (∀ o, Below w1.heap.size w1 (wr.alloc o)) := fun o => hB.out.alloc hBs o
          have HOx : Hid (wantP N es i v (m + 1) = wantP N es i v m → ∀ o, ∃ l2 : List Itm, l2.length = n2 ∧ GrowI (wr.alloc o) w1.heap.size u12 l2 ∧ l2 = wantP N es i v (m + 1)) := by
            intro hq o
            obtain ⟨l3, h3, h4, h5⟩ := hO.out
            exact ⟨l3, h3, World.ownsRow.alloc h4 o, by rw [hq]; exact h5⟩
          cases xt
          · have HQ : Hid (wantP N es i v (m + 1) = wantP N es i v m) := by show _ = _; rw [HWs.out]; simp
            clear HWs
            go_wp2
            exact ⟨⟨m + 1, n2, by omega, hn1, by omega, by go_num, HOx.out HQ.out _, HBx.out _⟩, by simp [intOf]; omega⟩
          · by_cases cl : (i : Int) ≤ xl
            · have cl' : decide ((i : Int) ≤ xl) = true := by simpa using cl
              cases hry : r yu
              · have HQ : Hid (wantP N es i v (m + 1) = wantP N es i v m) := by show _ = _; rw [HWs.out, hry]; simp
                clear HWs
                simp only [hry] at hrow
                clear hry
                go_wp2
                exact ⟨⟨m + 1, n2, by omega, hn1, by omega, by go_num, HOx.out HQ.out _, HBx.out _⟩, by simp [intOf]; omega⟩
              · have HQ : Hid (wantP N es i v (m + 1) = wantP N es i v m ++ [((yu : Int), xv), (xv, (yu : Int))]) := by show _ = _; rw [HWs.out, hry, cl']; simp
                clear HWs
                simp only [hry] at hrow
                clear hry
                obtain ⟨l3, hl3, ho3, hp3⟩ := hO.out
                have HQ3 : Hid (l3 ++ [((yu : Int), xv), (xv, (yu : Int))] = wantP N es i v (m + 1)) := by show _ = _; rw [HQ.out, hp3]
                clear HQ hp3
                subst hl3
                have HO3 := hid ho3
                clear ho3
                have HM : Hid (l3.length + 2 ≤ maxLen) := by show _ ≤ _; unfold maxLen; omega
                go_wp2_with (at_builtin; refine wpList_append_own _ rfl (.tmp 72) (.tmp 83) 68 rfl w1.heap.size 71 i74 _ 2 16 Tryz.underlying68 q0 q1 q2 q3 rfl (by decide) _ l3.length (itemCells l3) rfl ((World.ownsRow.alloc HO3.out _).alloc _) ⟨wr.heap.size + 1, 0, none⟩ 2 2 (itemCells [((yu : Int), xv), (xv, (yu : Int))]) rfl rfl (by rw [show wr.heap.size + 1 = (wr.alloc (.cells #[.int .i64 yu, .int .i64 xv, .int .i64 xl, .bool true] 89)).heap.size by simp]; exact item_cells2 _ _ _ _ _) (items_one _) HM.out (by omega) (by simp; omega) ?_; intro v' w3 ho hg _)
                have R1 : GrowI w3 w1.heap.size v' (l3 ++ [((yu : Int), xv), (xv, (yu : Int))]) := by
                  show w3.ownsRow _ _ _ _ _ _
                  rw [List.length_append, itemCells_append]; exact ho
                have R2 : Below w1.heap.size w1 w3 := ((HBx.out _).alloc (by simp; omega) _).grown hg (by simp; omega) (fun j hj => (World.ownsRow.lt HO3.out j hj).1)
                exact ⟨⟨m + 1, l3.length + 2, by omega, by omega, by omega, by go_num, ⟨_, by rw [List.length_append]; rfl, R1, HQ3.out⟩, R2⟩, by simp [intOf]; omega⟩
            · have cl' : decide ((i : Int) ≤ xl) = false := by simpa using cl
              have HQ : Hid (wantP N es i v (m + 1) = wantP N es i v m) := by show _ = _; rw [HWs.out, cl']; simp
              clear HWs
              go_wp2
              exact ⟨⟨m + 1, n2, by omega, hn1, by omega, by go_num, HOx.out HQ.out _, HBx.out _⟩, by simp [intOf]; omega⟩
        · have c' : ¬ (m : Int) < (es.length : Int) := by omega
          obtain ⟨l2, hl2, hO2, hw2⟩ := hO.out
          have HWant : Hid (l2 = wantF N es i v) := by show _ = _; rw [hw2, show m = es.length by omega, wantP_all]
          clear hw2
          obtain ⟨wb2, wcap2, hW2, hWv2⟩ := GrowI.at_ hO2 (by omega)
          rw [hl2] at hWv2
          subst hWv2
          have HW2 := hid hW2
          have HL2 := hid hl2
          have hwle := hW2.le
          have hwmx := hW2.mx
          rw [hl2] at hwle
          unfold maxLen at hwmx
          clear hW2 hO hO2 hl2
          obtain ⟨tp, tc, htv⟩ : ∃ p c, tv = .slice p ts.length c := by
            rcases HT.out with ⟨q, rfl⟩ | ⟨b, o, cap, q, _⟩
            · exact ⟨_, _, q⟩
            · exact ⟨_, _, q⟩
          subst htv
          obtain ⟨nn, hnn⟩ : ∃ nn : Nat, (nn : Int) = 3 * (sz : Int) - 3 := ⟨3 * sz - 3, by omega⟩
          have hnn2 : 3 * (sz : Int) - 3 = nn := hnn.symm
          have hnb : nn ≤ 144 := by omega
          clear hnn
          have HWk := hid (walkF_eq (ts := ts) HSz.out hnn2 HWant.out)
          have hW := HBw.out.size
          by_cases c1 : ts.length < nn + 2
          · have c1' : (ts.length : Int) < (nn : Int) + 2 := by omega
            have HF : Hid (walkF N es i v ts = none) := by show _ = _; rw [HWk.out, if_neg (fun q => by have := q.1; omega)]
            clear HWk
            go_wp2
            go_ret3
            exact walkX_no HF.out HBw.out
          · have c1' : ¬ (ts.length : Int) < (nn : Int) + 2 := by omega
            obtain ⟨b, o, cap2, hq, t1, t2, t3, t4⟩ : ∃ b o cap, tp = some ⟨b, o, none⟩ ∧ ts.length ≤ tc ∧ tc ≤ maxLen ∧ Hid (TyAt w b 3) ∧ ∀ j, j < ts.length → w.cell? ⟨b, o + j, none⟩ = some (.int .i64 ((ts[j]?.getD 0 : Nat) : Int)) ∧ cap = 0 := by
              rcases HT.out with ⟨_, rfl⟩ | ⟨b, o, cap, q, q1, q2, q3, q4⟩
              · simp at c1
              · simp only [Value.slice.injEq, true_and] at q
                obtain ⟨rfl, rfl⟩ := q
                exact ⟨b, o, 0, rfl, q1, q2, q3, fun j hj => ⟨q4 j hj, rfl⟩⟩
            subst hq
            unfold maxLen at t2
            have HT4 : Hid (∀ w', Below w.heap.size w w' → ∀ j, j < ts.length → w'.cell? ⟨b, o + j, none⟩ = some (.int .i64 ((ts[j]?.getD 0 : Nat) : Int))) := fun w' hb j hj => by rw [hb.cell (p := ⟨b, o + j, none⟩) t3.out.lt]; exact (t4 j hj).1
            have y0 := HT4.out wr HBw.out 0 (by omega)
            have y1 := HT4.out wr HBw.out 1 (by omega)
            have HTd : Hid (∀ w', Below w.heap.size w w' → ∀ x, (x = o + (nn + 2) ∨ ts.length = nn + 2) → IntsAt w' (.slice (some ⟨b, x, none⟩) (ts.length - (nn + 2)) (tc - (nn + 2))) (ts.drop (nn + 2))) := fun w' hb x hx => ints_drop t1 (by unfold maxLen; exact t2) (t3.out.below hb (Nat.le_refl _)) (fun j hj => HT4.out w' hb j hj) (nn + 2) (by omega) x hx
            have HTz : Hid (ts.length = nn + 2 → ∀ w', Below w.heap.size w w' → IntsAt w' (.slice (some ⟨b, o, none⟩) (ts.length - (nn + 2)) 0) (ts.drop (nn + 2))) := fun hz w' hb => Or.inr ⟨b, o, 0, by rw [List.length_drop], by rw [List.length_drop]; omega, by omega, t3.out.below hb (Nat.le_refl _), fun j hj => by rw [List.length_drop] at hj; omega⟩
            rw [Nat.add_zero] at y0
            clear t4
            generalize ts[0]?.getD 0 = x0 at y0 HWk
            generalize ts[1]?.getD 0 = x1 at y1 HWk
            by_cases c2 : (x0 : Int) = (v : Int)
            · have c2' : ((x0 : Int) != (v : Int)) = false := by simpa using c2
              by_cases c3 : (x1 : Int) = (sz : Int)
              · have c3' : ((x1 : Int) != (sz : Int)) = false := by simpa using c3
                by_cases c4 : (n2 : Int) = (nn : Int) + 1
                · have c4' : ((n2 : Int) != (nn : Int) + 1) = false := by simpa using c4
                  have HWl : Hid (walkF N es i v ts = if (∀ x, x ∈ l2 → (walkOut v nn ts).count x = 1) ∧ wend v ((ts.drop 2).take nn) = v then some (walkOut v nn ts, ts.drop (nn + 2)) else none) := by
                    have p1 : nn + 2 ≤ ts.length := by omega
                    have p2 : x0 = v := by omega
                    have p3 : x1 = sz := by omega
                    have p4 : l2.length = nn + 1 := by rw [HL2.out]; omega
                    show _ = _
                    rw [HWk.out]
                    simp only [p1, p2, p3, p4, true_and]
                  clear HWk
                  clear c2 c3 c4
                  obtain ⟨wo, hwo⟩ : ∃ wo : World, wo = wr := ⟨_, rfl⟩
                  rw [← hwo] at HBw HW2 hB hBs hW y0 y1 ⊢
                  clear hwo wr
                  go_wp2_with fail
                  all_goals
                    clear y0 y1
                    go_loopw [18, 19, 124] (fun a c d wr => ∃ (k : Nat) (z : Int) (lo : List Itm), k ≤ nn ∧ 1 ≤ lo.length ∧ lo.length ≤ k + 1 ∧ c = .int .i64 z ∧ d = .int .i64 k ∧ Hid (lo = walkOut v k ts ∧ z = wend v ((ts.drop 2).take k)) ∧ Hid (GrowI wr wo.heap.size a lo) ∧ Hid (Below wo.heap.size wo wr)) (fun _ _ d _ => nn - (intOf d).toNat)
                    case atStart => exact ⟨0, v, [((v : Int), -1)], by omega, by simp, by simp, rfl, rfl, ⟨rfl, rfl⟩, World.ownsRow_lit wo #[.int .i64 v, .int .i64 (-1)] 1 (Nat.le_refl _) (by unfold maxLen; omega) rfl, (Below.refl _ _).alloc (Nat.le_refl _) _⟩
                    case round =>
                      obtain ⟨k, z, lo, hk, hlo1, hlo2, rfl, rfl, HLo, hO, hBo⟩ := hrel
                      have hBos := hBo.out.size
                      by_cases ck : k < nn
                      · first
                        | (exfalso; omega)
                        | (have ck' : (k : Int) < (nn : Int) := by omega
                           have hz := HT4.out wr (HBw.out.trans (hBo.out.mono hW)) (2 + k) (by omega)
                           rw [← Nat.add_assoc] at hz
                           have hdb := HTs.out (ts[2 + k]?.getD 0) (by rw [List.getElem?_eq_getElem (by omega)]; exact List.getElem_mem _)
                           have HMo := hid (wlk_more (ts := ts) (k := k) (v : Int) (by omega))
                           generalize ts[2 + k]?.getD 0 = dd at hz hdb HMo
                           have HLo2 : Hid (lo ++ [(z, (dd : Int) - 1)] = walkOut v (k + 1) ts) := by
                             show _ = _
                             rw [HLo.out.1, HLo.out.2, walkOut, walkOut, HMo.out.1]; rfl
                           have HZ2 : Hid (wend v ((ts.drop 2).take (k + 1)) = if 0 < dd then (dd : Int) - 1 else z) := by show _ = _; rw [HMo.out.2, HLo.out.2]
                           clear HMo HLo
                           have HM : Hid (lo.length + 1 ≤ maxLen) := by show _ ≤ _; unfold maxLen; omega
                           by_cases hd0 : 0 < dd
                           · have hd0' : (0 : Int) < (dd : Int) := by omega
                             go_wp2_with (at_builtin; refine wpList_append_own _ rfl (.tmp 128) (.tmp 133) 68 rfl wo.heap.size 71 i74 _ 2 16 Tryz.underlying68 q0 q1 q2 q3 rfl (by decide) _ lo.length (itemCells lo) rfl (World.ownsRow.alloc hO.out _) ⟨wr.heap.size, 0, none⟩ 1 1 (itemCells [(z, (dd : Int) - 1)]) rfl rfl (item_cells1 wr _ _) (items_one _) HM.out (by omega) (by simp; omega) ?_; intro v' w3 ho hg _)
                             have R1 : GrowI w3 wo.heap.size v' (lo ++ [(z, (dd : Int) - 1)]) := by
                               show w3.ownsRow _ _ _ _ _ _
                               rw [List.length_append, itemCells_append]; exact ho
                             have R2 : Below wo.heap.size wo w3 := (hBo.out.alloc hBos _).grown hg (by simp; omega) (fun j hj => (World.ownsRow.lt hO.out j hj).1)
                             exact ⟨⟨k + 1, (dd : Int) - 1, lo ++ [(z, (dd : Int) - 1)], by omega, by rw [List.length_append]; simp, by rw [List.length_append]; simp; omega, by first | rfl | go_num, by go_num, ⟨HLo2.out, by rw [HZ2.out, if_pos hd0]⟩, R1, R2⟩, by simp [intOf]; omega⟩
                           · have hd0' : ¬ (0 : Int) < (dd : Int) := by omega
                             go_wp2_with (at_builtin; refine wpList_append_own _ rfl (.tmp 128) (.tmp 133) 68 rfl wo.heap.size 71 i74 _ 2 16 Tryz.underlying68 q0 q1 q2 q3 rfl (by decide) _ lo.length (itemCells lo) rfl (World.ownsRow.alloc hO.out _) ⟨wr.heap.size, 0, none⟩ 1 1 (itemCells [(z, (dd : Int) - 1)]) rfl rfl (item_cells1 wr _ _) (items_one _) HM.out (by omega) (by simp; omega) ?_; intro v' w3 ho hg _)
                             have R1 : GrowI w3 wo.heap.size v' (lo ++ [(z, (dd : Int) - 1)]) := by
                               show w3.ownsRow _ _ _ _ _ _
                               rw [List.length_append, itemCells_append]; exact ho
                             have R2 : Below wo.heap.size wo w3 := (hBo.out.alloc hBos _).grown hg (by simp; omega) (fun j hj => (World.ownsRow.lt hO.out j hj).1)
                             exact ⟨⟨k + 1, z, lo ++ [(z, (dd : Int) - 1)], by omega, by rw [List.length_append]; simp, by rw [List.length_append]; simp; omega, rfl, by go_num, ⟨HLo2.out, by rw [HZ2.out, if_neg hd0]⟩, R1, R2⟩, by simp [intOf]; omega⟩)
                      · have ck' : ¬ (k : Int) < (nn : Int) := by omega
                        obtain ⟨ob, ocap, hO2, hOv⟩ := GrowI.at_ hO.out hlo1
                        subst hOv
                        obtain ⟨w5, hw5⟩ : ∃ w5 : World, w5 = wr := ⟨_, rfl⟩
                        rw [← hw5] at hO2 hBo hBos ⊢
                        have HO2 := hid hO2
                        have HGr2 : Hid (GrowI w5 wo.heap.size (.slice (some ⟨ob, 0, none⟩) lo.length ocap) lo) := by rw [hw5]; exact hO.out
                        have HLw : Hid (walkOut v nn ts = lo ∧ wend v ((ts.drop 2).take nn) = z) := by rw [show nn = k by omega]; exact ⟨HLo.out.1.symm, HLo.out.2.symm⟩
                        clear HLo
                        have ole := hO2.le
                        have omx := hO2.mx
                        unfold maxLen at omx
                        obtain ⟨ln, hln⟩ : ∃ ln, ln = lo.length := ⟨_, rfl⟩
                        have HLn := hid hln
                        rw [← hln] at hlo1 hlo2 ole ⊢
                        clear hO2 hO hw5 wr hln
                        have HW5 : Hid (ItemsAt w5 (.slice (some ⟨wb2, 0, none⟩) n2 wcap2) l2 wb2 0 wcap2) := HW2.out.below hBo.out (Nat.le_refl _)
                        have HBz : Hid (Below w.heap.size w w5) := HBw.out.trans (hBo.out.mono hW)
                        have hWz := HBz.out.size
                        go_wp2_with fail
                        go_loopw [142] (fun a wr => ∃ m : Nat, m ≤ n2 ∧ a = .int .i64 m ∧ Hid (∀ x, x ∈ l2.take m → lo.count x = 1) ∧ Hid (Below w5.heap.size w5 wr)) (fun a _ => n2 - (intOf a).toNat)
                        case atStart => exact ⟨0, by omega, rfl, fun x hx => by simp at hx, Below.refl _ _⟩
                        case round =>
                          obtain ⟨m4, hm4, rfl, HM4, hB4⟩ := hrel
                          have hB4s := hB4.out.size
                          by_cases c4 : m4 < n2
                          · have c4' : (m4 : Int) < (n2 : Int) := by omega
                            have hIw := HW5.out.below hB4.out (Nat.le_refl _)
                            have x0 := hIw.c0 m4 (by rw [HL2.out]; exact c4)
                            have x1 := hIw.c1 m4 (by rw [HL2.out]; exact c4)
                            rw [Nat.zero_add] at x0 x1
                            clear hIw
                            have HT5 : Hid (l2.take (m4 + 1) = l2.take m4 ++ [l2[m4]?.getD (0, 0)]) := by show _ = _; rw [List.take_succ_eq_append_getElem (by rw [HL2.out]; exact c4), get_eq (by rw [HL2.out]; exact c4)]
                            have HT6 : Hid (l2[m4]?.getD (0, 0) ∈ l2) := by show _ ∈ _; rw [get_eq (by rw [HL2.out]; exact c4)]; exact List.getElem_mem _
                            obtain ⟨x, hx⟩ : ∃ x, x = l2[m4]?.getD (0, 0) := ⟨_, rfl⟩
                            rw [← hx] at x0 x1 HT5 HT6
                            clear hx
                            obtain ⟨xa, xb⟩ := x
                            simp only at x0 x1
                            go_wp2_with fail
                            clear x0 x1
                            obtain ⟨w6, hw6⟩ : ∃ w6 : World, w6 = wr.alloc (.cells #[.int .i64 xa, .int .i64 xb] 71) := ⟨_, rfl⟩
                            have HB6 : Hid (Below w5.heap.size w5 w6) := by rw [hw6]; exact hB4.out.alloc hB4s _
                            have HC6 : Hid (∀ j, w6.cell? ⟨wr.heap.size, j, none⟩ = #[Value.int .i64 xa, .int .i64 xb][j]?) := by rw [hw6]; exact fun j => new_cell _ _ _ j
                            have hs6 : w6.heap.size = wr.heap.size + 1 := by rw [hw6]; simp
                            rw [← hw6]
                            obtain ⟨xk, hxk⟩ : ∃ xk, xk = wr.heap.size := ⟨_, rfl⟩
                            rw [← hxk] at HC6 hs6 ⊢
                            have hxk2 : w5.heap.size ≤ xk := by omega
                            clear hw6 hxk hB4 hB4s wr
                            go_loopw [24, 148] (fun a b wr => ∃ n5 m5 : Nat, m5 ≤ ln ∧ n5 ≤ m5 ∧ a = .int .i64 n5 ∧ b = .int .i64 m5 ∧ Hid (n5 = (lo.take m5).count (xa, xb)) ∧ Hid (Below w6.heap.size w6 wr)) (fun _ b _ => ln - (intOf b).toNat)
                            case atStart => exact ⟨0, 0, by omega, by omega, rfl, rfl, rfl, Below.refl _ _⟩
                            case round =>
                              obtain ⟨n5, m5, hm5, hn5, rfl, rfl, HN5, hB7⟩ := hrel
                              have hB7s := hB7.out.size
                              by_cases c5 : m5 < ln
                              · have c5' : (m5 : Int) < (ln : Int) := by omega
                                have HB57 : Hid (Below w5.heap.size w5 wr) := HB6.out.trans (hB7.out.mono (by omega))
                                have hIo := HO2.out.below HB57.out (Nat.le_refl _)
                                have y0 := hIo.c0 m5 (by rw [← HLn.out]; exact c5)
                                have y1 := hIo.c1 m5 (by rw [← HLn.out]; exact c5)
                                rw [Nat.zero_add] at y0 y1
                                clear hIo
                                have z0 : wr.cell? ⟨xk, 0, none⟩ = some (.int .i64 xa) := by rw [hB7.out.cell (p := ⟨xk, 0, none⟩) (by show xk < _; omega)]; exact HC6.out 0
                                have z1 : wr.cell? ⟨xk, 1, none⟩ = some (.int .i64 xb) := by rw [hB7.out.cell (p := ⟨xk, 1, none⟩) (by show xk < _; omega)]; exact HC6.out 1
                                have hxw : xk < wr.heap.size := by omega
                                have HB8 : Hid (∀ o, Below w6.heap.size w6 (wr.alloc o)) := fun o => hB7.out.alloc hB7s o
                                have HC5 := hid (count_step lo (xa, xb) m5 (by rw [← HLn.out]; exact c5))
                                obtain ⟨y, hy⟩ : ∃ y, y = lo[m5]?.getD (0, 0) := ⟨_, rfl⟩
                                rw [← hy] at y0 y1 HC5
                                clear hy
                                obtain ⟨ya, yb⟩ := y
                                simp only at y0 y1 HC5
                                rw [← HN5.out] at HC5
                                by_cases e1 : xa = ya
                                · have f1 : (xa == ya) = true := by simpa using e1
                                  by_cases e2 : xb = yb
                                  · have f2 : (xb == yb) = true := by simpa using e2
                                    have HN6 : Hid (n5 + 1 = (lo.take (m5 + 1)).count (xa, xb)) := by show _ = _; rw [HC5.out, if_pos ⟨e1, e2⟩]
                                    clear e1 e2 HC5 HN5
                                    go_wp2
                                    exact ⟨⟨n5 + 1, m5 + 1, by omega, by omega, by go_num, by go_num, HN6, HB8.out _⟩, by simp [intOf]; omega⟩
                                  · have f2 : (xb == yb) = false := by simpa using e2
                                    have HN6 : Hid (n5 = (lo.take (m5 + 1)).count (xa, xb)) := by show _ = _; rw [HC5.out, if_neg (fun q => e2 q.2)]; rfl
                                    clear e1 HC5 HN5
                                    go_wp2
                                    exact ⟨⟨n5, m5 + 1, by omega, by omega, rfl, by go_num, HN6, HB8.out _⟩, by simp [intOf]; omega⟩
                                · have f1 : (xa == ya) = false := by simpa using e1
                                  have HN6 : Hid (n5 = (lo.take (m5 + 1)).count (xa, xb)) := by show _ = _; rw [HC5.out, if_neg (fun q => e1 q.1)]; rfl
                                  clear HC5 HN5
                                  go_wp2
                                  exact ⟨⟨n5, m5 + 1, by omega, by omega, rfl, by go_num, HN6, HB8.out _⟩, by simp [intOf]; omega⟩
                              · have c5' : ¬ (m5 : Int) < (ln : Int) := by omega
                                have HB57 : Hid (Below w5.heap.size w5 wr) := HB6.out.trans (hB7.out.mono (by omega))
                                have HN7 : Hid (lo.count (xa, xb) = n5) := by show _ = _; rw [HN5.out, show m5 = lo.length by rw [← HLn.out]; omega, List.take_length]
                                clear HN5
                                by_cases e1 : (n5 : Int) = 1
                                · have f1 : ((n5 : Int) != 1) = false := by simpa using e1
                                  have HM5 : Hid (∀ x, x ∈ l2.take (m4 + 1) → lo.count x = 1) := by
                                    intro x hx
                                    rw [HT5.out] at hx
                                    rcases List.mem_append.1 hx with q | q
                                    · exact HM4.out x q
                                    · simp at q; rw [q, HN7.out]; omega
                                  clear e1
                                  go_wp2
                                  exact ⟨⟨m4 + 1, by omega, by go_num, HM5, HB57⟩, by simp [intOf]; omega⟩
                                · have f1 : ((n5 : Int) != 1) = true := by simpa using e1
                                  have HBf : Hid (Below w.heap.size w wr) := HBz.out.trans (HB57.out.mono hWz)
                                  have HF : Hid (walkF N es i v ts = none) := by show _ = _; rw [HWl.out, if_neg (fun q => by have := q.1 (xa, xb) HT6.out; rw [HLw.out.1, HN7.out] at this; omega)]
                                  clear HWl
                                  go_wp2
                                  go_ret3
                                  exact walkX_no HF.out HBf.out
                          · have c4' : ¬ (m4 : Int) < (n2 : Int) := by omega
                            have HBf : Hid (Below w.heap.size w wr) := HBz.out.trans (hB4.out.mono hWz)
                            have h8 : (0 : Int) ≤ (nn : Int) + 2 := by omega
                            have h9 : (nn : Int) + 2 ≤ (ts.length : Int) := by omega
                            have h6 : ((nn : Int) + 2).toNat = nn + 2 := by omega
                            have h7 : IntKind.i64.wrap ((nn : Int) + 2) = (nn : Int) + 2 := by rw [IntKind.wrap_i64]; omega
                            have HWm : Hid (walkF N es i v ts = if z = v then some (lo, ts.drop (nn + 2)) else none) := by
                              have p1 : ∀ x, x ∈ l2 → lo.count x = 1 := fun x hx => HM4.out x (by rw [show m4 = l2.length by rw [HL2.out]; omega, List.take_length]; exact hx)
                              show _ = _
                              rw [HWl.out, HLw.out.1, HLw.out.2]
                              by_cases q : z = v
                              · rw [if_pos ⟨p1, q⟩, if_pos q]
                              · rw [if_neg (fun r => q r.2), if_neg q]
                            have HFin : Hid ((walkF N es i v ts).isSome = (z == (v : Int))) := by
                              show _ = _
                              rw [HWm.out]
                              by_cases q : z = v
                              · rw [if_pos q]; simp [q]
                              · rw [if_neg q]; simp [q]
                            have HGr3 : Hid (GrowI wr w.heap.size (.slice (some ⟨ob, 0, none⟩) ln ocap) lo) := by
                              have q := (HGr2.out.below hB4.out (Nat.le_refl _)).mono (B' := w.heap.size) hW
                              rw [← HLn.out] at q; exact q
                            have HEnd : Hid (∀ nq v2, (∀ w', Below w.heap.size w w' → IntsAt w' v2 (ts.drop (nn + 2))) → WalkX N es i v ts w (.returned (.tuple #[.slice (some ⟨ob, 0, none⟩) ln ocap, v2, .bool (z == (v : Int))])) (wr.drewN nq)) := by
                              intro nq v2 hv2
                              refine ⟨_, _, _, _, by rw [HFin.out], fun l r q => ?_, Below.drewN' _ HBf.out⟩
                              rw [HWm.out] at q
                              split at q
                              · injection q with q
                                injection q with q1 q2
                                rw [← q1, ← q2]
                                exact ⟨HGr3.out.below (Below.drewN' _ (Below.refl wr.heap.size _)) (Nat.le_refl _), hv2 _ (Below.drewN' _ HBf.out)⟩
                              · simp at q
                            clear HWl HWm
                            by_cases hcap : tc = nn + 2
                            · have HZ : Hid (ts.length = nn + 2) := by show _ = _; omega
                              go_wp2_with fail
                              go_quiet (fail)
                              go_wp2
                              go_ret3
                              first
                              | exact HEnd.out _ _ (fun w' hb => HTd.out w' hb _ (Or.inr HZ.out))
                              | exact HEnd.out _ _ (fun w' hb => HTd.out w' hb _ (Or.inl rfl))
                              | (exfalso; omega)
                              | exact HEnd.out _ _ (fun w' hb => HTz.out HZ.out w' hb)
                            · go_wp2_with fail
                              go_quiet (fail)
                              go_wp2
                              go_ret3
                              first
                              | exact HEnd.out _ _ (fun w' hb => HTd.out w' hb _ (Or.inr HZ.out))
                              | exact HEnd.out _ _ (fun w' hb => HTd.out w' hb _ (Or.inl rfl))
                              | (exfalso; omega)
                              | exact HEnd.out _ _ (fun w' hb => HTz.out HZ.out w' hb)
                · have c4' : ((n2 : Int) != (nn : Int) + 1) = true := by simpa using c4
                  have HF : Hid (walkF N es i v ts = none) := by show _ = _; rw [HWk.out, if_neg (fun q => by have := q.2.2.2.1; rw [HL2.out] at this; omega)]
                  clear HWk
                  clear c2 c3
                  go_wp2
                  go_ret3
                  exact walkX_no HF.out HBw.out
              · have c3' : ((x1 : Int) != (sz : Int)) = true := by simpa using c3
                have HF : Hid (walkF N es i v ts = none) := by show _ = _; rw [HWk.out, if_neg (fun q => by have := q.2.2.1; omega)]
                clear HWk
                clear c2
                go_wp2
                go_ret3
                exact walkX_no HF.out HBw.out
            · have c2' : ((x0 : Int) != (v : Int)) = true := by simpa using c2
              have HF : Hid (walkF N es i v ts = none) := by show _ = _; rw [HWk.out, if_neg (fun q => by have := q.2.1; omega)]
              clear HWk
              go_wp2
              go_ret3
              exact walkX_no HF.out HBw.out

end Go.Proofs.YtckallochdegiaaGreat
