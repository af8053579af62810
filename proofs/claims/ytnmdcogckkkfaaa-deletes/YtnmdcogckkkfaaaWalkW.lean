import Derived.Test.YtnmdcogckkkfaaaLevW
namespace Go.Proofs.Ytnmdcogckkkfaaa
set_option linter.unusedVariables false
set_option linter.unusedSimpArgs false
open Go.RowKit

/-- The slice v holds the numbers l, wherever it lies. -/
def IntsAt (w : World) (v : Value) (l : List Nat) : Prop := (v = .slice none 0 0 ∧ l = []) ∨ ∃ b o cap, v = .slice (some ⟨b, o, none⟩) l.length cap ∧ l.length ≤ cap ∧ cap ≤ maxLen ∧ TyAt w b 3 ∧ ∀ j, j < l.length → w.cell? ⟨b, o + j, none⟩ = some (.int .i64 ((l[j]?.getD 0 : Nat) : Int))

theorem TyAt.below {w w' : World} {b t B : Nat} (h : TyAt w b t) (k : Below B w w') (hB : w.heap.size ≤ B) : TyAt w' b t := by
  obtain ⟨c, hc⟩ := h
  exact ⟨c, by rw [k.block b (by have := (Array.getElem?_eq_some_iff.1 hc).1; omega)]; exact hc⟩

theorem IntsAt.below {w w' : World} {v : Value} {l : List Nat} {B : Nat} (h : IntsAt w v l) (b : Below B w w') (hB : w.heap.size ≤ B) : IntsAt w' v l := by
  rcases h with h | ⟨x, o, cap, h1, h2, h3, h4, h5⟩
  · exact Or.inl h
  · exact Or.inr ⟨x, o, cap, h1, h2, h3, h4.below b hB, fun j hj => by rw [b.cell (p := ⟨x, o + j, none⟩) (by show x < B; have := h4.lt; omega)]; exact h5 j hj⟩
theorem NumsAt.ints {w : World} {B : Nat} {v : Value} {l : List Nat} (h : NumsAt w B v l) : IntsAt w v l := by
  rcases h.1.2 with ⟨h1, h2⟩ | ⟨g, cap, cur, h1, _, h3, h4, h5, _, h7⟩
  · exact Or.inl ⟨h1, List.eq_nil_of_length_eq_zero h2⟩
  · refine Or.inr ⟨g, 0, cap, h1, h4, h5, ⟨cur, h3⟩, fun j hj => ?_⟩
    rw [Nat.zero_add]
    have := h.1.cells (g := g) (by rw [h1]; rfl) j (.int .i64 ((l[j]?.getD 0 : Nat) : Int)) (by rw [List.getElem?_map, List.getElem?_eq_getElem hj]; rfl)
    rw [addr_add, Nat.zero_add] at this
    exact this
/-- What lies behind place k. -/
theorem ints_drop {w : World} {b o cap : Nat} {l : List Nat} (h2 : l.length ≤ cap) (h3 : cap ≤ maxLen) (h4 : TyAt w b 3) (h5 : ∀ j, j < l.length → w.cell? ⟨b, o + j, none⟩ = some (.int .i64 ((l[j]?.getD 0 : Nat) : Int))) (k : Nat) (hk : k ≤ l.length) (x : Nat) (hx : x = o + k ∨ l.length = k) :
    IntsAt w (.slice (some ⟨b, x, none⟩) (l.length - k) (cap - k)) (l.drop k) := by
  have hl : (l.drop k).length = l.length - k := List.length_drop
  refine Or.inr ⟨b, x, cap - k, by rw [hl], by omega, by omega, h4, fun j hj => ?_⟩
  rcases hx with rfl | hx
  · rw [List.getElem?_drop, Nat.add_assoc]; exact h5 (k + j) (by omega)
  · omega

/-- What walk answers. -/
def WalkR (ts : List Nat) (w : World) (e : Ending) (w' : World) : Prop := ∃ (p : Option Addr) (n c : Nat) (v2 : Value) (ok : Bool), e = .returned (.tuple #[.slice p n c, v2, .bool ok]) ∧ (ok = true → ∃ k, IntsAt w' v2 (ts.drop k)) ∧ Below w.heap.size w w'

/-- Items that are being gathered. -/
def GrowI (w : World) (B : Nat) (v : Value) (l : List Itm) : Prop := w.ownsRow B 74 2 v l.length (itemCells l)
theorem GrowI.below {w w' : World} {B C : Nat} {v : Value} {l : List Itm} (h : GrowI w B v l) (b : Below C w w') (hC : w.heap.size ≤ C) : GrowI w' B v l := owns_below h b hC
theorem GrowI.at_ {w : World} {B : Nat} {v : Value} {l : List Itm} (h : GrowI w B v l) (hne : 0 < l.length) : ∃ b cap, ItemsAt w v l b 0 cap ∧ v = .slice (some ⟨b, 0, none⟩) l.length cap := by
  obtain ⟨b, cap, h1, _⟩ := items_of_owns h (by intro q; rw [q] at hne; simp at hne)
  exact ⟨b, cap, h1, h1.hv⟩
theorem item_cells1 (w : World) (a b : Int) (j : Nat) (y : Value) (h : (itemCells [(a, b)])[j]? = some y) : (w.alloc (.cells #[.int .i64 a, .int .i64 b] 74)).cell? ((⟨w.heap.size, 0, none⟩ : Addr).add j) = some y := by
  rw [addr_add, Nat.zero_add, new_cell]
  simpa [itemCells] using h
theorem item_cells2 (w : World) (a b c d : Int) (j : Nat) (y : Value) (h : (itemCells [(a, b), (c, d)])[j]? = some y) : (w.alloc (.cells #[.int .i64 a, .int .i64 b, .int .i64 c, .int .i64 d] 74)).cell? ((⟨w.heap.size, 0, none⟩ : Addr).add j) = some y := by
  rw [addr_add, Nat.zero_add, new_cell]
  simpa [itemCells] using h

set_option maxRecDepth 100000 in
set_option maxHeartbeats 2000000 in
theorem walk_any (w : World) (g N : Nat) (es : List Edg) (ev : Value) (tb nt tcap : Nat) (pr : Int) (h : GW w g N es ev tb nt tcap pr) (i v : Nat) (hi : i ≤ 100) (hv : v < N) (tv : Value) (ts : List Nat) (hT : IntsAt w tv ts) (hts : ∀ n, n ∈ ts → n < 2 ^ 28) (hes : es.length ≤ 2 ^ 20) :
    Calls Try.prog 83 #[ptr g, .int .i64 i, .int .i64 v, tv] w (WalkR ts w) := by
  have n48 := h.n48
  have HG := hid h
  have HT := hid hT
  have HTs := hid hts
  have hv' : (v : Int) < (N : Int) := by omega
  clear h hT hts
  obtain ⟨i74, q0, q1, q2, q3⟩ := info_parts Try.info74
  go_enter Try.func83, Try.ntmps83
  go_wp2_with fail
  refine (Component_any g N v i true es ev w HG.out.c0 HG.out.c1 HG.out.ed n48 (by omega) hv' HG.out.inr).mono ?_
  rintro e w1 ⟨rfl, ⟨r, hR, hr⟩, hb1⟩
  have HR := hid hR
  have HB1 := hid hb1
  have HRv : Hid (r v = true) := (hr v hv).2 Rch.refl
  have hs1 := hb1.size
  clear hR hb1 hr
  go_wp2_with fail
  go_loopw [12, 33] (fun a b wr => ∃ (k : Nat) (l : List Itm), k ≤ N ∧ l.length ≤ k ∧ (v < k → 1 ≤ l.length) ∧ b = .int .i64 k ∧ Hid (GrowI wr w1.heap.size a l) ∧ Hid (Below w1.heap.size w1 wr)) (fun _ b _ => N - (intOf b).toNat)
  case atStart => exact ⟨0, [], by omega, by simp, fun q => by omega, rfl, World.ownsRow_nil _ _ _ _, Below.refl _ _⟩
  case round =>
    obtain ⟨k, l, hk, hl, hvk, rfl, hO, hB⟩ := hrel
    have hBs := hB.out.size
    by_cases ck : k < N
    · have ck' : (k : Int) < (N : Int) := by omega
      have d := World.rowIs.cell (row_but (S := fun _ => False) HR.out (But.of hB.out) (fun q => q)) (i := k) ck
      by_cases hrk : r k = true
      · rw [hrk] at d
        clear hrk hvk
        have HM : Hid (l.length + 1 ≤ maxLen) := by show _ ≤ _; unfold maxLen; omega
        go_wp2_with (at_builtin; refine wpList_append_own _ rfl (.tmp 40) (.tmp 43) 71 rfl w1.heap.size 74 i74 _ 2 16 Try.underlying71 q0 q1 q2 q3 rfl (by decide) _ l.length (itemCells l) rfl (hO.out.alloc _) ⟨wr.heap.size, 0, none⟩ 1 1 (itemCells [((k : Int), -1)]) rfl rfl (item_cells1 wr _ _) (items_one _) HM.out (by omega) (by simp; omega) ?_; intro v' w3 ho hg _)
        have R1 : GrowI w3 w1.heap.size v' (l ++ [((k : Int), -1)]) := by
          show w3.ownsRow _ _ _ _ _ _
          rw [List.length_append, itemCells_append]; exact ho
        have R2 : Below w1.heap.size w1 w3 := (hB.out.alloc hBs _).grown hg (by simp; omega) (fun j hj => (World.ownsRow.lt hO.out j hj).1)
        exact ⟨⟨k + 1, l ++ [((k : Int), -1)], by omega, by rw [List.length_append]; simp; omega, fun _ => by rw [List.length_append]; simp, by go_num, R1, R2⟩, by simp [intOf]; omega⟩
      · have hrk' : r k = false := by simpa using hrk
        rw [hrk'] at d
        have hvk2 : v < k + 1 → 1 ≤ l.length := fun q => hvk (by
          by_cases e : v = k
          · exact absurd HRv.out (by rw [e]; exact hrk)
          · omega)
        have HVk := hid hvk2
        clear hrk hrk' hvk hvk2
        go_wp2
        exact ⟨⟨k + 1, l, by omega, by omega, HVk.out, by go_num, hO, hB⟩, by simp [intOf]; omega⟩
    · have ck' : ¬ (k : Int) < (N : Int) := by omega
      have hl1 : 1 ≤ l.length := hvk (by omega)
      clear hvk
      obtain ⟨wb, wcap, hW, hWv⟩ := GrowI.at_ hO.out hl1
      subst hWv
      have HBw : Hid (Below w.heap.size w wr) := HB1.out.trans (hB.out.mono hs1)
      have HGr := hid (HG.out.below HBw.out)
      have d1 := HGr.out.c1
      obtain ⟨p, cap, hev⟩ : ∃ p cap, ev = .slice p es.length cap := by
        rcases HGr.out.ed with ⟨q, rfl⟩ | ⟨b, cap, h⟩
        · exact ⟨_, _, q⟩
        · exact ⟨_, _, h.hv⟩
      have HEv := hid hev
      rw [hev] at d1
      obtain ⟨sz, hsz⟩ : ∃ sz, sz = l.length := ⟨_, rfl⟩
      have hsz1 : 1 ≤ sz := by omega
      have hsz2 : sz ≤ 48 := by omega
      have HSz := hid hsz
      have HO : Hid (∃ l2 : List Itm, l2.length = sz ∧ GrowI wr w1.heap.size (.slice (some ⟨wb, 0, none⟩) sz wcap) l2) := ⟨l, hsz.symm, by rw [hsz]; exact hO.out⟩
      rw [← hsz]
      clear hev hW hO hsz hl hl1 HSz
      go_wp2_with fail
      clear d1 HGr
      go_loopw [12, 53] (fun a b wr => ∃ (m n2 : Nat), m ≤ es.length ∧ 1 ≤ n2 ∧ n2 ≤ sz + 2 * m ∧ b = .int .i64 m ∧ Hid (∃ l2 : List Itm, l2.length = n2 ∧ GrowI wr w1.heap.size a l2) ∧ Hid (Below w1.heap.size w1 wr)) (fun _ b _ => es.length - (intOf b).toNat)
      case atStart => exact ⟨0, sz, by omega, hsz1, by omega, rfl, HO, hB⟩
      case round =>
        clear hB HO HBw hBs
        obtain ⟨m, n2, hm, hn1, hn2, rfl, hO, hB⟩ := hrel
        have hBs := hB.out.size
        have HBw : Hid (Below w.heap.size w wr) := HB1.out.trans (hB.out.mono hs1)
        by_cases c : m < es.length
        · have c' : (m : Int) < (es.length : Int) := by omega
          have HGr := hid (HG.out.below HBw.out)
          obtain ⟨eb, ecap, hEA, hev⟩ := HGr.out.ed.at_ c
          rw [HEv.out] at hev
          simp only [Value.slice.injEq, true_and] at hev
          obtain ⟨hp, hcap⟩ := hev
          subst hp hcap
          have a0 := hEA.c0 m c
          have a1 := hEA.c1 m c
          have a2 := hEA.c2 m c
          have a3 := hEA.c3 m c
          have l1 := hEA.le
          have l2 := hEA.mx
          unfold maxLen at l2
          have hr := HGr.out.inr (es[m]?.getD Go.Proofs.Ytnmdcogckkkfaaa.e0) (by rw [get_eq c]; exact List.getElem_mem c)
          clear hEA HGr
          obtain ⟨x, hx⟩ : ∃ x, x = es[m]?.getD Go.Proofs.Ytnmdcogckkkfaaa.e0 := ⟨_, rfl⟩
          rw [← hx] at a0 a1 a2 a3 hr
          clear hx
          obtain ⟨xu, xv, xl, xt⟩ := x
          simp only at a0 a1 a2 a3 hr
          obtain ⟨yu, rfl⟩ : ∃ y : Nat, xu = y := ⟨xu.toNat, by omega⟩
          have hyu : yu < N := by omega
          have hyu' : (yu : Int) < (N : Int) := by omega
          clear hr
          have hrow : ∀ o, (wr.alloc o).cell? ⟨w.heap.size, yu, none⟩ = some (.bool (r yu)) := fun o => World.rowIs.cell (row_but (S := fun _ => False) HR.out (But.of (hB.out.alloc hBs o)) (fun q => q)) (i := yu) hyu
          have HBx : Hid (∀ o, Below w1.heap.size w1 (wr.alloc o)) := fun o => hB.out.alloc hBs o
          have HOx : Hid (∀ o, ∃ l2 : List Itm, l2.length = n2 ∧ GrowI (wr.alloc o) w1.heap.size u12 l2) := by
            intro o
            obtain ⟨l3, h3, h4⟩ := hO.out
            exact ⟨l3, h3, World.ownsRow.alloc h4 o⟩
          cases xt
          · go_wp2
            exact ⟨⟨m + 1, n2, by omega, hn1, by omega, by go_num, HOx.out _, HBx.out _⟩, by simp [intOf]; omega⟩
          · by_cases cl : (i : Int) ≤ xl
            · have cl' : decide ((i : Int) ≤ xl) = true := by simpa using cl
              cases hry : r yu
              · simp only [hry] at hrow
                clear hry
                go_wp2
                exact ⟨⟨m + 1, n2, by omega, hn1, by omega, by go_num, HOx.out _, HBx.out _⟩, by simp [intOf]; omega⟩
              · simp only [hry] at hrow
                clear hry
                obtain ⟨l3, hl3, ho3⟩ := hO.out
                subst hl3
                have HO3 := hid ho3
                clear ho3
                have HM : Hid (l3.length + 2 ≤ maxLen) := by show _ ≤ _; unfold maxLen; omega
                go_wp2_with (at_builtin; refine wpList_append_own _ rfl (.tmp 72) (.tmp 83) 71 rfl w1.heap.size 74 i74 _ 2 16 Try.underlying71 q0 q1 q2 q3 rfl (by decide) _ l3.length (itemCells l3) rfl ((World.ownsRow.alloc HO3.out _).alloc _) ⟨wr.heap.size + 1, 0, none⟩ 2 2 (itemCells [((yu : Int), xv), (xv, (yu : Int))]) rfl rfl (by rw [show wr.heap.size + 1 = (wr.alloc (.cells #[.int .i64 yu, .int .i64 xv, .int .i64 xl, .bool true] 101)).heap.size by simp]; exact item_cells2 _ _ _ _ _) (items_one _) HM.out (by omega) (by simp; omega) ?_; intro v' w3 ho hg _)
                have R1 : GrowI w3 w1.heap.size v' (l3 ++ [((yu : Int), xv), (xv, (yu : Int))]) := by
                  show w3.ownsRow _ _ _ _ _ _
                  rw [List.length_append, itemCells_append]; exact ho
                have R2 : Below w1.heap.size w1 w3 := ((HBx.out _).alloc (by simp; omega) _).grown hg (by simp; omega) (fun j hj => (World.ownsRow.lt HO3.out j hj).1)
                exact ⟨⟨m + 1, l3.length + 2, by omega, by omega, by omega, by go_num, ⟨_, by rw [List.length_append]; rfl, R1⟩, R2⟩, by simp [intOf]; omega⟩
            · have cl' : decide ((i : Int) ≤ xl) = false := by simpa using cl
              go_wp2
              exact ⟨⟨m + 1, n2, by omega, hn1, by omega, by go_num, HOx.out _, HBx.out _⟩, by simp [intOf]; omega⟩
        · have c' : ¬ (m : Int) < (es.length : Int) := by omega
          obtain ⟨l2, hl2, hO2⟩ := hO.out
          obtain ⟨wb2, wcap2, hW2, hWv2⟩ := GrowI.at_ hO2 (by omega)
          rw [hl2] at hWv2
          subst hWv2
          have HW2 := hid hW2
          have HL2 := hid hl2
          have hwle := hW2.le
          have hwmx := hW2.mx
          rw [hl2] at hwle
          unfold maxLen at hwmx
          clear hW2 hO hO2 hl2
          obtain ⟨tp, tc, htv⟩ : ∃ p c, tv = .slice p ts.length c := by
            rcases HT.out with ⟨q, rfl⟩ | ⟨b, o, cap, q, _⟩
            · exact ⟨_, _, q⟩
            · exact ⟨_, _, q⟩
          subst htv
          obtain ⟨nn, hnn⟩ : ∃ nn : Nat, (nn : Int) = 3 * (sz : Int) - 3 := ⟨3 * sz - 3, by omega⟩
          have hnn2 : 3 * (sz : Int) - 3 = nn := hnn.symm
          have hnb : nn ≤ 144 := by omega
          clear hnn
          have hW := HBw.out.size
          by_cases c1 : ts.length < nn + 2
          · have c1' : (ts.length : Int) < (nn : Int) + 2 := by omega
            go_wp2
            go_ret3
            exact ⟨none, 0, 0, .slice none 0 0, false, rfl, fun q => by simp at q, HBw.out⟩
          · have c1' : ¬ (ts.length : Int) < (nn : Int) + 2 := by omega
            obtain ⟨b, o, cap2, hq, t1, t2, t3, t4⟩ : ∃ b o cap, tp = some ⟨b, o, none⟩ ∧ ts.length ≤ tc ∧ tc ≤ maxLen ∧ Hid (TyAt w b 3) ∧ ∀ j, j < ts.length → w.cell? ⟨b, o + j, none⟩ = some (.int .i64 ((ts[j]?.getD 0 : Nat) : Int)) ∧ cap = 0 := by
              rcases HT.out with ⟨_, rfl⟩ | ⟨b, o, cap, q, q1, q2, q3, q4⟩
              · simp at c1
              · simp only [Value.slice.injEq, true_and] at q
                obtain ⟨rfl, rfl⟩ := q
                exact ⟨b, o, 0, rfl, q1, q2, q3, fun j hj => ⟨q4 j hj, rfl⟩⟩
            subst hq
            unfold maxLen at t2
            have HT4 : Hid (∀ w', Below w.heap.size w w' → ∀ j, j < ts.length → w'.cell? ⟨b, o + j, none⟩ = some (.int .i64 ((ts[j]?.getD 0 : Nat) : Int))) := fun w' hb j hj => by rw [hb.cell (p := ⟨b, o + j, none⟩) t3.out.lt]; exact (t4 j hj).1
            have y0 := HT4.out wr HBw.out 0 (by omega)
            have y1 := HT4.out wr HBw.out 1 (by omega)
            have HTd : Hid (∀ w', Below w.heap.size w w' → ∀ x, (x = o + (nn + 2) ∨ ts.length = nn + 2) → IntsAt w' (.slice (some ⟨b, x, none⟩) (ts.length - (nn + 2)) (tc - (nn + 2))) (ts.drop (nn + 2))) := fun w' hb x hx => ints_drop t1 (by unfold maxLen; exact t2) (t3.out.below hb (Nat.le_refl _)) (fun j hj => HT4.out w' hb j hj) (nn + 2) (by omega) x hx
            have HTz : Hid (ts.length = nn + 2 → ∀ w', Below w.heap.size w w' → IntsAt w' (.slice (some ⟨b, o, none⟩) (ts.length - (nn + 2)) 0) (ts.drop (nn + 2))) := fun hz w' hb => Or.inr ⟨b, o, 0, by rw [List.length_drop], by rw [List.length_drop]; omega, by omega, t3.out.below hb (Nat.le_refl _), fun j hj => by rw [List.length_drop] at hj; omega⟩
            rw [Nat.add_zero] at y0
            clear t4
            generalize ts[0]?.getD 0 = x0 at y0
            generalize ts[1]?.getD 0 = x1 at y1
            by_cases c2 : (x0 : Int) = (v : Int)
            · have c2' : ((x0 : Int) != (v : Int)) = false := by simpa using c2
              by_cases c3 : (x1 : Int) = (sz : Int)
              · have c3' : ((x1 : Int) != (sz : Int)) = false := by simpa using c3
                by_cases c4 : (n2 : Int) = (nn : Int) + 1
                · have c4' : ((n2 : Int) != (nn : Int) + 1) = false := by simpa using c4
                  clear c2 c3 c4
                  obtain ⟨wo, hwo⟩ : ∃ wo : World, wo = wr := ⟨_, rfl⟩
                  rw [← hwo] at HBw HW2 hB hBs hW y0 y1 ⊢
                  clear hwo wr
                  go_wp2_with fail
                  all_goals
                    clear y0 y1
                    go_loopw [18, 19, 124] (fun a c d wr => ∃ (k : Nat) (z : Int) (lo : List Itm), k ≤ nn ∧ 1 ≤ lo.length ∧ lo.length ≤ k + 1 ∧ c = .int .i64 z ∧ d = .int .i64 k ∧ Hid (GrowI wr wo.heap.size a lo) ∧ Hid (Below wo.heap.size wo wr)) (fun _ _ d _ => nn - (intOf d).toNat)
                    case atStart => exact ⟨0, v, [((v : Int), -1)], by omega, by simp, by simp, rfl, rfl, World.ownsRow_lit wo #[.int .i64 v, .int .i64 (-1)] 1 (Nat.le_refl _) (by unfold maxLen; omega) rfl, (Below.refl _ _).alloc (Nat.le_refl _) _⟩
                    case round =>
                      obtain ⟨k, z, lo, hk, hlo1, hlo2, rfl, rfl, hO, hBo⟩ := hrel
                      have hBos := hBo.out.size
                      by_cases ck : k < nn
                      · first
                        | (exfalso; omega)
                        | (have ck' : (k : Int) < (nn : Int) := by omega
                           have hz := HT4.out wr (HBw.out.trans (hBo.out.mono hW)) (2 + k) (by omega)
                           rw [← Nat.add_assoc] at hz
                           have hdb := HTs.out (ts[2 + k]?.getD 0) (by rw [List.getElem?_eq_getElem (by omega)]; exact List.getElem_mem _)
                           generalize ts[2 + k]?.getD 0 = dd at hz hdb
                           have HM : Hid (lo.length + 1 ≤ maxLen) := by show _ ≤ _; unfold maxLen; omega
                           by_cases hd0 : 0 < dd
                           · have hd0' : (0 : Int) < (dd : Int) := by omega
                             go_wp2_with (at_builtin; refine wpList_append_own _ rfl (.tmp 128) (.tmp 133) 71 rfl wo.heap.size 74 i74 _ 2 16 Try.underlying71 q0 q1 q2 q3 rfl (by decide) _ lo.length (itemCells lo) rfl (World.ownsRow.alloc hO.out _) ⟨wr.heap.size, 0, none⟩ 1 1 (itemCells [(z, (dd : Int) - 1)]) rfl rfl (item_cells1 wr _ _) (items_one _) HM.out (by omega) (by simp; omega) ?_; intro v' w3 ho hg _)
                             have R1 : GrowI w3 wo.heap.size v' (lo ++ [(z, (dd : Int) - 1)]) := by
                               show w3.ownsRow _ _ _ _ _ _
                               rw [List.length_append, itemCells_append]; exact ho
                             have R2 : Below wo.heap.size wo w3 := (hBo.out.alloc hBos _).grown hg (by simp; omega) (fun j hj => (World.ownsRow.lt hO.out j hj).1)
                             exact ⟨⟨k + 1, _, lo ++ [(z, (dd : Int) - 1)], by omega, by rw [List.length_append]; simp, by rw [List.length_append]; simp; omega, rfl, by go_num, R1, R2⟩, by simp [intOf]; omega⟩
                           · have hd0' : ¬ (0 : Int) < (dd : Int) := by omega
                             go_wp2_with (at_builtin; refine wpList_append_own _ rfl (.tmp 128) (.tmp 133) 71 rfl wo.heap.size 74 i74 _ 2 16 Try.underlying71 q0 q1 q2 q3 rfl (by decide) _ lo.length (itemCells lo) rfl (World.ownsRow.alloc hO.out _) ⟨wr.heap.size, 0, none⟩ 1 1 (itemCells [(z, (dd : Int) - 1)]) rfl rfl (item_cells1 wr _ _) (items_one _) HM.out (by omega) (by simp; omega) ?_; intro v' w3 ho hg _)
                             have R1 : GrowI w3 wo.heap.size v' (lo ++ [(z, (dd : Int) - 1)]) := by
                               show w3.ownsRow _ _ _ _ _ _
                               rw [List.length_append, itemCells_append]; exact ho
                             have R2 : Below wo.heap.size wo w3 := (hBo.out.alloc hBos _).grown hg (by simp; omega) (fun j hj => (World.ownsRow.lt hO.out j hj).1)
                             exact ⟨⟨k + 1, _, lo ++ [(z, (dd : Int) - 1)], by omega, by rw [List.length_append]; simp, by rw [List.length_append]; simp; omega, rfl, by go_num, R1, R2⟩, by simp [intOf]; omega⟩)
                      · have ck' : ¬ (k : Int) < (nn : Int) := by omega
                        obtain ⟨ob, ocap, hO2, hOv⟩ := GrowI.at_ hO.out hlo1
                        subst hOv
                        obtain ⟨w5, hw5⟩ : ∃ w5 : World, w5 = wr := ⟨_, rfl⟩
                        rw [← hw5] at hO2 hBo hBos ⊢
                        have HO2 := hid hO2
                        have ole := hO2.le
                        have omx := hO2.mx
                        unfold maxLen at omx
                        obtain ⟨ln, hln⟩ : ∃ ln, ln = lo.length := ⟨_, rfl⟩
                        have HLn := hid hln
                        rw [← hln] at hlo1 hlo2 ole ⊢
                        clear hO2 hO hw5 wr hln
                        have HW5 : Hid (ItemsAt w5 (.slice (some ⟨wb2, 0, none⟩) n2 wcap2) l2 wb2 0 wcap2) := HW2.out.below hBo.out (Nat.le_refl _)
                        have HBz : Hid (Below w.heap.size w w5) := HBw.out.trans (hBo.out.mono hW)
                        have hWz := HBz.out.size
                        go_wp2_with fail
                        go_loopw [142] (fun a wr => ∃ m : Nat, m ≤ n2 ∧ a = .int .i64 m ∧ Hid (Below w5.heap.size w5 wr)) (fun a _ => n2 - (intOf a).toNat)
                        case atStart => exact ⟨0, by omega, rfl, Below.refl _ _⟩
                        case round =>
                          obtain ⟨m4, hm4, rfl, hB4⟩ := hrel
                          have hB4s := hB4.out.size
                          by_cases c4 : m4 < n2
                          · have c4' : (m4 : Int) < (n2 : Int) := by omega
                            have hIw := HW5.out.below hB4.out (Nat.le_refl _)
                            have x0 := hIw.c0 m4 (by rw [HL2.out]; exact c4)
                            have x1 := hIw.c1 m4 (by rw [HL2.out]; exact c4)
                            rw [Nat.zero_add] at x0 x1
                            clear hIw
                            obtain ⟨x, hx⟩ : ∃ x, x = l2[m4]?.getD (0, 0) := ⟨_, rfl⟩
                            rw [← hx] at x0 x1
                            clear hx
                            obtain ⟨xa, xb⟩ := x
                            simp only at x0 x1
                            go_wp2_with fail
                            clear x0 x1
                            obtain ⟨w6, hw6⟩ : ∃ w6 : World, w6 = wr.alloc (.cells #[.int .i64 xa, .int .i64 xb] 74) := ⟨_, rfl⟩
                            have HB6 : Hid (Below w5.heap.size w5 w6) := by rw [hw6]; exact hB4.out.alloc hB4s _
                            have HC6 : Hid (∀ j, w6.cell? ⟨wr.heap.size, j, none⟩ = #[Value.int .i64 xa, .int .i64 xb][j]?) := by rw [hw6]; exact fun j => new_cell _ _ _ j
                            have hs6 : w6.heap.size = wr.heap.size + 1 := by rw [hw6]; simp
                            rw [← hw6]
                            obtain ⟨xk, hxk⟩ : ∃ xk, xk = wr.heap.size := ⟨_, rfl⟩
                            rw [← hxk] at HC6 hs6 ⊢
                            have hxk2 : w5.heap.size ≤ xk := by omega
                            clear hw6 hxk hB4 hB4s wr
                            go_loopw [24, 148] (fun a b wr => ∃ n5 m5 : Nat, m5 ≤ ln ∧ n5 ≤ m5 ∧ a = .int .i64 n5 ∧ b = .int .i64 m5 ∧ Hid (Below w6.heap.size w6 wr)) (fun _ b _ => ln - (intOf b).toNat)
                            case atStart => exact ⟨0, 0, by omega, by omega, rfl, rfl, Below.refl _ _⟩
                            case round =>
                              obtain ⟨n5, m5, hm5, hn5, rfl, rfl, hB7⟩ := hrel
                              have hB7s := hB7.out.size
                              by_cases c5 : m5 < ln
                              · have c5' : (m5 : Int) < (ln : Int) := by omega
                                have HB57 : Hid (Below w5.heap.size w5 wr) := HB6.out.trans (hB7.out.mono (by omega))
                                have hIo := HO2.out.below HB57.out (Nat.le_refl _)
                                have y0 := hIo.c0 m5 (by rw [← HLn.out]; exact c5)
                                have y1 := hIo.c1 m5 (by rw [← HLn.out]; exact c5)
                                rw [Nat.zero_add] at y0 y1
                                clear hIo
                                have z0 : wr.cell? ⟨xk, 0, none⟩ = some (.int .i64 xa) := by rw [hB7.out.cell (p := ⟨xk, 0, none⟩) (by show xk < _; omega)]; exact HC6.out 0
                                have z1 : wr.cell? ⟨xk, 1, none⟩ = some (.int .i64 xb) := by rw [hB7.out.cell (p := ⟨xk, 1, none⟩) (by show xk < _; omega)]; exact HC6.out 1
                                have hxw : xk < wr.heap.size := by omega
                                have HB8 : Hid (∀ o, Below w6.heap.size w6 (wr.alloc o)) := fun o => hB7.out.alloc hB7s o
                                obtain ⟨y, hy⟩ : ∃ y, y = lo[m5]?.getD (0, 0) := ⟨_, rfl⟩
                                rw [← hy] at y0 y1
                                clear hy
                                obtain ⟨ya, yb⟩ := y
                                simp only at y0 y1
                                by_cases e1 : xa = ya
                                · have f1 : (xa == ya) = true := by simpa using e1
                                  by_cases e2 : xb = yb
                                  · have f2 : (xb == yb) = true := by simpa using e2
                                    clear e1 e2
                                    go_wp2
                                    exact ⟨⟨n5 + 1, m5 + 1, by omega, by omega, by go_num, by go_num, HB8.out _⟩, by simp [intOf]; omega⟩
                                  · have f2 : (xb == yb) = false := by simpa using e2
                                    clear e1
                                    go_wp2
                                    exact ⟨⟨n5, m5 + 1, by omega, by omega, rfl, by go_num, HB8.out _⟩, by simp [intOf]; omega⟩
                                · have f1 : (xa == ya) = false := by simpa using e1
                                  go_wp2
                                  exact ⟨⟨n5, m5 + 1, by omega, by omega, rfl, by go_num, HB8.out _⟩, by simp [intOf]; omega⟩
                              · have c5' : ¬ (m5 : Int) < (ln : Int) := by omega
                                have HB57 : Hid (Below w5.heap.size w5 wr) := HB6.out.trans (hB7.out.mono (by omega))
                                by_cases e1 : (n5 : Int) = 1
                                · have f1 : ((n5 : Int) != 1) = false := by simpa using e1
                                  clear e1
                                  go_wp2
                                  exact ⟨⟨m4 + 1, by omega, by go_num, HB57⟩, by simp [intOf]; omega⟩
                                · have f1 : ((n5 : Int) != 1) = true := by simpa using e1
                                  have HBf : Hid (Below w.heap.size w wr) := HBz.out.trans (HB57.out.mono hWz)
                                  go_wp2
                                  go_ret3
                                  exact ⟨none, 0, 0, .slice none 0 0, false, rfl, fun q => by simp at q, HBf.out⟩
                          · have c4' : ¬ (m4 : Int) < (n2 : Int) := by omega
                            have HBf : Hid (Below w.heap.size w wr) := HBz.out.trans (hB4.out.mono hWz)
                            have h8 : (0 : Int) ≤ (nn : Int) + 2 := by omega
                            have h9 : (nn : Int) + 2 ≤ (ts.length : Int) := by omega
                            have h6 : ((nn : Int) + 2).toNat = nn + 2 := by omega
                            have h7 : IntKind.i64.wrap ((nn : Int) + 2) = (nn : Int) + 2 := by rw [IntKind.wrap_i64]; omega
                            by_cases hcap : tc = nn + 2
                            · have HZ : Hid (ts.length = nn + 2) := by show _ = _; omega
                              go_wp2_with fail
                              go_quiet (fail)
                              go_wp2
                              go_ret3
                              first
                              | exact ⟨some ⟨ob, 0, none⟩, ln, ocap, _, _, rfl, fun _ => ⟨nn + 2, HTd.out _ (Below.drewN' _ HBf.out) _ (Or.inr HZ.out)⟩, Below.drewN' _ HBf.out⟩
                              | exact ⟨some ⟨ob, 0, none⟩, ln, ocap, _, _, rfl, fun _ => ⟨nn + 2, HTd.out _ (Below.drewN' _ HBf.out) _ (Or.inl rfl)⟩, Below.drewN' _ HBf.out⟩
                              | (exfalso; omega)
                              | exact ⟨some ⟨ob, 0, none⟩, ln, ocap, _, _, rfl, fun _ => ⟨nn + 2, HTz.out HZ.out _ (Below.drewN' _ HBf.out)⟩, Below.drewN' _ HBf.out⟩
                            · go_wp2_with fail
                              go_quiet (fail)
                              go_wp2
                              go_ret3
                              first
                              | exact ⟨some ⟨ob, 0, none⟩, ln, ocap, _, _, rfl, fun _ => ⟨nn + 2, HTd.out _ (Below.drewN' _ HBf.out) _ (Or.inr HZ.out)⟩, Below.drewN' _ HBf.out⟩
                              | exact ⟨some ⟨ob, 0, none⟩, ln, ocap, _, _, rfl, fun _ => ⟨nn + 2, HTd.out _ (Below.drewN' _ HBf.out) _ (Or.inl rfl)⟩, Below.drewN' _ HBf.out⟩
                              | (exfalso; omega)
                              | exact ⟨some ⟨ob, 0, none⟩, ln, ocap, _, _, rfl, fun _ => ⟨nn + 2, HTz.out HZ.out _ (Below.drewN' _ HBf.out)⟩, Below.drewN' _ HBf.out⟩
                · have c4' : ((n2 : Int) != (nn : Int) + 1) = true := by simpa using c4
                  clear c2 c3
                  go_wp2
                  go_ret3
                  exact ⟨none, 0, 0, .slice none 0 0, false, rfl, fun q => by simp at q, HBw.out⟩
              · have c3' : ((x1 : Int) != (sz : Int)) = true := by simpa using c3
                clear c2
                go_wp2
                go_ret3
                exact ⟨none, 0, 0, .slice none 0 0, false, rfl, fun q => by simp at q, HBw.out⟩
            · have c2' : ((x0 : Int) != (v : Int)) = true := by simpa using c2
              go_wp2
              go_ret3
              exact ⟨none, 0, 0, .slice none 0 0, false, rfl, fun q => by simp at q, HBw.out⟩

end Go.Proofs.Ytnmdcogckkkfaaa
