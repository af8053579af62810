import Derived.Test.YtckallochdegiaaGreatBut
namespace Go.Proofs.YtckallochdegiaaGreat
set_option linter.unusedVariables false
set_option linter.unusedSimpArgs false
open Go.RowKit

theorem pair_cell (w : World) (u v : Int) (j : Nat) (y : Value) (h : (itemCells [(u, v)])[j]? = some y) : (w.alloc (.cells #[.int .i64 u, .int .i64 v] 71)).cell? ((⟨w.heap.size, 0, none⟩ : Addr).add j) = some y := by
  rw [addr_add, Nat.zero_add, new_cell]
  simpa [itemCells] using h

theorem join_done {w : World} {v4 : Value} {B : Nat} {la lb : List Itm} {u v : Int}
    (h : w.ownsRow B 71 2 v4 (la.length + 1 + lb.length + 1) (itemCells (fromX la (u, -1)) ++ itemCells [(u, v)] ++ itemCells (fromX lb (v, -1)) ++ itemCells [(v, u)])) :
    ∃ zb zc, ItemsAt w v4 (joinT la lb u v) zb 0 zc ∧ B ≤ zb := by
  have hl : (joinT la lb u v).length = la.length + 1 + lb.length + 1 := by simp [joinT, fromX_length]; omega
  have hc : itemCells (joinT la lb u v) = itemCells (fromX la (u, -1)) ++ itemCells [(u, v)] ++ itemCells (fromX lb (v, -1)) ++ itemCells [(v, u)] := by
    rw [joinT, itemCells_append, itemCells_append, itemCells_append]; simp only [List.append_assoc]
  rw [← hl, ← hc] at h
  exact items_of_owns h (by simp [joinT])

theorem owns_mono {w : World} {B B' e size n : Nat} {v : Value} {xs : List Value} (h : w.ownsRow B e size v n xs) (hB : B' ≤ B) : w.ownsRow B' e size v n xs := by
  refine ⟨h.1, ?_⟩
  rcases h.2 with k | ⟨g, cap, cur, k1, k2, k3⟩
  · exact Or.inl k
  · exact Or.inr ⟨g, cap, cur, k1, Nat.le_trans hB k2, k3⟩

theorem owns_slice {w : World} {B e k : Nat} {v : Value} {xs : List Value} (h : w.ownsRow B e 1 v (k + 1) xs) : ∃ g cap, v = .slice (some ⟨g, 0, none⟩) (k + 1) cap := by
  rcases h.2 with ⟨_, h0⟩ | ⟨g, cap, cur, hv, _⟩
  · omega
  · exact ⟨g, cap, hv⟩

theorem lv_alloc {w : World} {g tb tcap n i lb lcap : Nat} {ts : List (List Itm)} {f : Nat → Value} (h : LvAt w g tb tcap n i lb lcap ts f) (o : Obj) : LvAt (w.alloc o) g tb tcap n i lb lcap ts f := h.below ((Below.refl _ _).alloc (Nat.le_refl _) o)

theorem one_cell (w : World) (x : Value) (t j : Nat) (y : Value) (h : [x][j]? = some y) : (w.alloc (.cells #[x] t)).cell? ((⟨w.heap.size, 0, none⟩ : Addr).add j) = some y := by
  rw [addr_add, Nat.zero_add, new_cell]
  simpa using h

/-- A row of tours that the call owns, as a list of tours. -/
theorem lists_of_owns {w : World} {B : Nat} {v : Value} {ts : List (List Itm)} {xs : List Value} (h : w.ownsRow B 68 1 v ts.length xs) (hne : ts ≠ []) (hi : ∀ i, i < ts.length → Items w (xs[i]?.getD undef) (ts[i]?.getD [])) : Lists w v ts := by
  have hc := fun g hg => h.cells (g := g) hg
  have hlen := h.1
  rcases h.2 with ⟨_, h0⟩ | ⟨g, cap, cur, hv, hB, hg, hle, hmx, _⟩
  · exact absurd (List.eq_nil_of_length_eq_zero h0) hne
  · refine ⟨g, cap, fun i => xs[i]?.getD undef, hv, hle, hmx, fun i hi => ?_, hi, cur, hg⟩
    have := hc g (by rw [hv]; rfl) i (xs[i]?.getD undef) (by rw [List.getElem?_eq_getElem (by omega)]; rfl)
    rw [addr_add, Nat.zero_add] at this; exact this

theorem link_lists {w w6 : World} {g tb tcap n i lb lcap : Nat} {ts : List (List Itm)} {f : Nat → Value} {ka kb : Nat} {v6 z : Value} {t : List Itm} (h : LvAt w g tb tcap n i lb lcap ts f) (hb : Below w.heap.size w w6)
    (ho : w6.ownsRow w.heap.size 68 1 v6 ((others ka kb ts.length).length + 1) ((others ka kb ts.length).map f ++ [z])) (hz : Items w6 z t) :
    Lists w6 v6 ((others ka kb ts.length).map (fun k => ts[k]?.getD []) ++ [t]) := by
  refine lists_of_owns (by rw [List.length_append, List.length_map]; exact ho) (by simp) ?_
  intro j hj
  rw [List.length_append, List.length_map] at hj
  by_cases e : j < (others ka kb ts.length).length
  · rw [List.getElem?_append_left (by simpa using e), List.getElem?_append_left (by simpa using e)]
    simp only [List.getElem?_map, List.getElem?_eq_getElem e, Option.map_some, Option.getD_some]
    exact (h.hl.it _ (others_lt (List.getElem_mem e))).below hb (Nat.le_refl _)
  · have e2 : j = (others ka kb ts.length).length := by simp at hj; omega
    subst e2
    rw [List.getElem?_append_right (by simp), List.getElem?_append_right (by simp)]
    simpa using hz

theorem link_end {w w6 : World} {g tb tcap n i lb lcap : Nat} {ts : List (List Itm)} {f F : Nat → Value} {v6 : Value} {tt : List (List Itm)} (h : LvAt w g tb tcap n i lb lcap ts f) (hr : w.rowIs tb 115 tcap F) (hb : Below w.heap.size w w6) (hl : Lists w6 v6 tt) :
    Lists (w6.setCell ⟨tb, i, none⟩ v6) v6 tt ∧ (w6.setCell ⟨tb, i, none⟩ v6).rowIs tb 115 tcap (fun j => if j = i then v6 else F j) ∧ But (fun k => k = tb) w (w6.setCell ⟨tb, i, none⟩ v6) := by
  have hr6 : w6.rowIs tb 115 tcap F := hr.of_block (hb.block tb hr.lt)
  have bs := But.setCell w6 ⟨tb, i, none⟩ v6
  exact ⟨hl.but bs (noTour_one (rowIs_ty hr6) (by decide) (by decide)), hr6.set i v6, (But.of hb).trans bs (fun _ _ q => q)⟩

theorem below_adrew {w w' : World} {o : Obj} (h : Below ((w.alloc o).drew).heap.size (w.alloc o).drew w') : Below w.heap.size w w' :=
  ((Below.refl _ _).alloc (Nat.le_refl _) o).trans ((below_drew h).mono (by simp))
theorem below_asize {w : World} {B : Nat} (h : B ≤ w.heap.size) (o : Obj) : B ≤ ((w.alloc o).drew).heap.size := by show B ≤ (w.alloc o).heap.size; simp; omega
theorem below_acell {w w' : World} {o : Obj} (h : Below ((w.alloc o).drew).heap.size (w.alloc o).drew w') (i : Nat) : w'.cell? ⟨w.heap.size, i, none⟩ = (w.alloc o).cell? ⟨w.heap.size, i, none⟩ :=
  (below_drew h).cell (p := ⟨w.heap.size, i, none⟩) (by simp)
theorem acell {w w' : World} {x : Value} {t : Nat} (h : ∀ i, w'.cell? ⟨w.heap.size, i, none⟩ = (w.alloc (.cells #[x] t)).cell? ⟨w.heap.size, i, none⟩) (j : Nat) (y : Value) (hj : [x][j]? = some y) : w'.cell? ((⟨w.heap.size, 0, none⟩ : Addr).add j) = some y := by
  rw [addr_add, Nat.zero_add, h, new_cell]
  simpa using hj
theorem hr6_of {w w6 : World} {tb tcap : Nat} {F : Nat → Value} (hr : w.rowIs tb 115 tcap F) (hb : Below w.heap.size w w6) : w6.rowIs tb 115 tcap F := hr.of_block (hb.block tb hr.lt)
theorem items_row {w w' : World} {B n : Nat} {v z : Value} {xs : List Value} {t : List Itm} (h : Items w z t) (ho : w.ownsRow B 68 1 v n xs) (g : w.grownBy w' v.ownBlock) : Items w' z t := by
  obtain ⟨b, o, cap, h⟩ := h
  refine ⟨b, o, cap, items_grown h g (fun q => ?_)⟩
  rcases ho.2 with ⟨rfl, _⟩ | ⟨g0, c0, cur, rfl, _, hg, _⟩
  · simp [Value.ownBlock] at q
  · simp only [Value.ownBlock, Option.some.injEq] at q
    subst q
    exact TyAt.ne h.ty (⟨cur, hg⟩ : TyAt w b 68) (by decide) rfl
theorem link_items {w4 w5 w6 : World} {B n : Nat} {v z x : Value} {xs : List Value} {t : List Itm} {e : Nat} (h : Items w4 z t) (hb : Below w4.heap.size w4 w5) (ho : w5.ownsRow B 68 1 v n xs) (g : (w5.alloc (.cells #[x] e)).grownBy w6 v.ownBlock) : Items w6 z t :=
  items_row ((h.below hb (Nat.le_refl _)).below ((Below.refl _ _).alloc (Nat.le_refl _) _) (Nat.le_refl _)) (ho.alloc _) g
theorem link_items' {w4 w5 w6 : World} {B n : Nat} {v z : Value} {xs : List Value} {t : List Itm} (h : Items w4 z t) (hb : Below w4.heap.size w4 w5) (ho : w5.ownsRow B 68 1 v n xs) (g : w5.grownBy w6 v.ownBlock) : Items w6 z t :=
  items_row (h.below hb (Nat.le_refl _)) ho g

set_option maxRecDepth 100000 in
set_option maxHeartbeats 4000000 in
theorem Link_any (g tb tcap n i lb lcap : Nat) (ts : List (List Itm)) (f F : Nat → Value) (u v : Int) (ka kb : Nat) (w : World) (h : LvAt w g tb tcap n i lb lcap ts f)
    (hr : w.rowIs tb 115 tcap F)
    (hka : tourIx ts u = ka) (hkb : tourIx ts v = kb) (hal : ka < ts.length) (hbl : kb < ts.length) (hs : ts.length ≤ 1000) (hsa : (ts[ka]?.getD []).length ≤ 3000) (hsb : (ts[kb]?.getD []).length ≤ 3000) :
    Calls Tryz.prog 119 #[ptr g, .int .i64 i, .int .i64 u, .int .i64 v] w fun e w' => e = .returned (.tuple #[]) ∧ ∃ nv, Lists w' nv (linkT ts ka kb u v) ∧ w'.rowIs tb 115 tcap (fun j => if j = i then nv else F j) ∧ But (fun k => k = tb) w w' := by
  have HV := hid h
  have HR := hid hr
  have h1 := h.hl.le
  have h2 := h.hl.mx
  have h3 := h.hn
  have h4 := h.hm
  have h5 := h.hi
  unfold maxLen at h2 h4
  have HKa := hid hka
  have HKb := hid hkb
  have hii : (i : Int) < (n : Int) := by omega
  have hai : (ka : Int) < (ts.length : Int) := by omega
  have hbi : (kb : Int) < (ts.length : Int) := by omega
  obtain ⟨b1, o1, cap1, hI1⟩ := h.hl.it ka hal
  obtain ⟨b2, o2, cap2, hI2⟩ := h.hl.it kb hbl
  have m1 := hI1.le
  have m2 := hI1.mx
  have m3 := hI2.le
  have m4 := hI2.mx
  unfold maxLen at m2 m4
  have d2 := h.c2
  have dt := h.ct
  have dk1 : w.cell? ⟨lb, ka, none⟩ = some (.slice (some ⟨b1, o1, none⟩) (ts[ka]?.getD []).length cap1) := by rw [← hI1.hv]; exact h.hl.c0 ka hal
  have dk2 : w.cell? ⟨lb, kb, none⟩ = some (.slice (some ⟨b2, o2, none⟩) (ts[kb]?.getD []).length cap2) := by rw [← hI2.hv]; exact h.hl.c0 kb hbl
  have lt1 := cell_lt dk1
  obtain ⟨la, hla⟩ : ∃ la, la = ts[ka]?.getD [] := ⟨_, rfl⟩
  obtain ⟨lb', hlb⟩ : ∃ lb', lb' = ts[kb]?.getD [] := ⟨_, rfl⟩
  rw [← hla] at hI1 m1 dk1 hsa
  rw [← hlb] at hI2 m3 dk2 hsb
  have Hla := hid hla
  have Hlb := hid hlb
  have HI1 : Hid (ItemsAt w (.slice (some ⟨b1, o1, none⟩) la.length cap1) la b1 o1 cap1) := hI1.hv ▸ hI1
  have HI2 : Hid (ItemsAt w (.slice (some ⟨b2, o2, none⟩) lb'.length cap2) lb' b2 o2 cap2) := hI2.hv ▸ hI2
  clear h hr hka hkb hI1 hI2 hla hlb
  obtain ⟨i74, q0, q1, q2, q3⟩ := info_parts Tryz.info71
  obtain ⟨i71, p0, p1, p2, p3⟩ := info_parts Tryz.info68
  go_enter Tryz.func119, Tryz.ntmps119
  go_wp2_with fail
  go_cut [8] from 11 to 71 (fun x wc => Hid (Items wc x (fromX la (u, -1))) ∧ Hid (Below w.heap.size w wc))
  case first =>
    go_region_with (first
      | (go_at_call 75; refine (tour_lv HV.out.drew u HKa.out).mono ?_; rintro e w1 ⟨rfl, hb0⟩; have hb := below_drew hb0; clear hb0; have dt1 : w1.cell? ⟨tb, i, none⟩ = some (.slice (some ⟨lb, 0, none⟩) ts.length lcap) := (HV.out.below hb).ct; have d21 : w1.cell? ⟨g, 2, none⟩ = some (.slice (some ⟨tb, 0, none⟩) n tcap) := (HV.out.below hb).c2; have dk3 : w1.cell? ⟨lb, ka, none⟩ = some (.slice (some ⟨b1, o1, none⟩) la.length cap1) := (hb.cell (p := ⟨lb, ka, none⟩) lt1).trans dk1; have HB := hid hb; clear hb)
      | (go_at_call 76; refine (From_any b1 o1 cap1 u (-1) la w1 (HI1.out.below HB.out (Nat.le_refl _)) (by omega)).mono ?_; rintro e w3 ⟨v1, rfl, hA, hB3⟩; have HA := hid hA; have HB3 := hid hB3; clear hA hB3))
    all_goals
      go_wp2
      go_meet
      case rel => exact ⟨HA, HB.out.trans (HB3.out.mono HB.out.size)⟩
  case rest =>
    obtain ⟨hA, hL⟩ := hcut
    have HV1 := hid (HV.out.below hL.out)
    have e2 := HV1.out.c2
    have et := HV1.out.ct
    have ek : wc.cell? ⟨lb, kb, none⟩ = some (.slice (some ⟨b2, o2, none⟩) lb'.length cap2) := (hL.out.cell (p := ⟨lb, kb, none⟩) lt1).trans dk2
    have HI3 := hid (HI2.out.below hL.out (Nat.le_refl _))
    have lt2 := cell_lt ek
    clear d2 dt dk1 dk2 HI1 HI2
    obtain ⟨wa, hwa⟩ : ∃ wa, wa = wc := ⟨_, rfl⟩
    rw [← hwa] at hA hL HV1 e2 et ek HI3 lt2 ⊢
    clear hwa wc
    go_wp2_with fail
    go_cut [9] from 11 to 71 (fun x wc => Hid (Items wc x (fromX lb' (v, -1))) ∧ Hid (Below wa.heap.size wa wc))
    case first =>
      go_region_with (first
        | (go_at_call 75; refine (tour_lv HV1.out.drew v HKb.out).mono ?_; rintro e w1 ⟨rfl, hb0⟩; have hb := below_drew hb0; clear hb0; have dt1 : w1.cell? ⟨tb, i, none⟩ = some (.slice (some ⟨lb, 0, none⟩) ts.length lcap) := (HV1.out.below hb).ct; have d21 : w1.cell? ⟨g, 2, none⟩ = some (.slice (some ⟨tb, 0, none⟩) n tcap) := (HV1.out.below hb).c2; have dk3 : w1.cell? ⟨lb, kb, none⟩ = some (.slice (some ⟨b2, o2, none⟩) lb'.length cap2) := (hb.cell (p := ⟨lb, kb, none⟩) lt2).trans ek; have HB := hid hb; clear hb)
        | (go_at_call 76; refine (From_any b2 o2 cap2 v (-1) lb' w1 (HI3.out.below HB.out (Nat.le_refl _)) (by omega)).mono ?_; rintro e w3 ⟨v1, rfl, hA3, hB3⟩; have HA3 := hid hA3; have HB3 := hid hB3; clear hA3 hB3))
      all_goals
        go_wp2
        go_meet
        case rel => exact ⟨HA3, HB.out.trans (HB3.out.mono HB.out.size)⟩
    case rest =>
      obtain ⟨hB, hM⟩ := hcut
      have HL2 : Hid (Below w.heap.size w wc) := hL.out.trans (hM.out.mono hL.out.size)
      have HA2 := hid (hA.out.below hM.out (Nat.le_refl _))
      clear hA hL hM HV1 e2 et ek HI3 lt2
      obtain ⟨xb, xo, xc, hx⟩ := HA2.out
      obtain ⟨yb, yo, yc, hy⟩ := hB.out
      have hxv := hx.hv
      have hyv := hy.hv
      rw [fromX_length] at hxv hyv
      subst hxv hyv
      have HX := hid hx
      have HY := hid hy
      have x1 := hx.le
      have x2 := hx.mx
      have y1 := hy.le
      have y2 := hy.mx
      rw [fromX_length] at x1 y1
      unfold maxLen at x2 y2
      clear hx hy HA2 hB
      have HN : Hid (∀ l x, (itemCells (fromX l x)).length = l.length * 2) := fun l x => by rw [itemCells_length, fromX_length]
      have HM : Hid (∀ m : Nat, m ≤ 20000 → m ≤ maxLen) := fun m hm => by unfold maxLen; omega
      have hwc := HL2.out.size
      go_wp2_with (first
        | (at_builtin; refine wpList_append_own _ rfl (.const (.slice none 0 0)) (.tmp 43) 68 rfl wc.heap.size 71 i74 _ 2 16 Tryz.underlying68 q0 q1 q2 q3 rfl (by decide) (.slice none 0 0) 0 [] rfl (World.ownsRow_nil _ _ _ _) ⟨xb, xo, none⟩ la.length xc (itemCells (fromX la (u, -1))) rfl (HN.out _ _) HX.out.cells (items_one _) (HM.out _ (by omega)) (by omega) (Nat.le_refl _) ?_; intro v1 w1 ho1 hg1 _; simp only [Nat.zero_add, List.nil_append] at ho1; have HO1 := hid ho1; have HG1 := hid hg1; have hs1 := hg1.size; clear ho1 hg1)
        | (at_builtin; refine wpList_append_own _ rfl (.tmp 44) (.tmp 48) 68 rfl wc.heap.size 71 i74 _ 2 16 Tryz.underlying68 q0 q1 q2 q3 rfl (by decide) v1 la.length _ rfl (HO1.out.alloc _) ⟨w1.heap.size, 0, none⟩ 1 1 (itemCells [(u, v)]) rfl rfl (pair_cell w1 u v) (items_one _) (HM.out _ (by omega)) (by omega) (by simp; omega) ?_; intro v2 w2 ho2 hg2 _; have HO2 := hid ho2; have HG2 := hid hg2; have hs2 := hg2.size; simp only [World.size_alloc] at hs2; clear ho2 hg2)
        | (at_builtin; refine wpList_append_own _ rfl (.tmp 50) (.tmp 51) 68 rfl wc.heap.size 71 i74 _ 2 16 Tryz.underlying68 q0 q1 q2 q3 rfl (by decide) v2 (la.length + 1) _ rfl HO2.out ⟨yb, yo, none⟩ lb'.length yc (itemCells (fromX lb' (v, -1))) rfl (HN.out _ _) (items_grown (items_alloc (items_grown HY.out HG1.out (by simp [Value.ownBlock])) _) HG2.out (fun q => by have := (HO1.out.lt yb q.symm).1; have := HY.out.lt; omega)).cells (items_one _) (HM.out _ (by omega)) (by omega) (by omega) ?_; intro v3 w3 ho3 hg3 _; have HO3 := hid ho3; have HG3 := hid hg3; have hs3 := hg3.size; clear ho3 hg3)
        | (at_builtin; refine wpList_append_own _ rfl (.tmp 52) (.tmp 56) 68 rfl wc.heap.size 71 i74 _ 2 16 Tryz.underlying68 q0 q1 q2 q3 rfl (by decide) v3 (la.length + 1 + lb'.length) _ rfl (HO3.out.alloc _) ⟨w3.heap.size, 0, none⟩ 1 1 (itemCells [(v, u)]) rfl rfl (pair_cell w3 v u) (items_one _) (HM.out _ (by omega)) (by omega) (by simp; omega) ?_; intro v4 w4 ho4 hg4 _; have HO4 := hid ho4; have HG4 := hid hg4; have hs4 := hg4.size; simp only [World.size_alloc] at hs4; clear ho4 hg4))
      have HT : Hid (∃ zb zc, ItemsAt w4 v4 (joinT la lb' u v) zb 0 zc ∧ wc.heap.size ≤ zb) := join_done HO4.out
      have HB4 : Hid (Below w.heap.size w w4) := HL2.out.trans (((((Below.refl _ _).grown HG1.out hwc (fun k hk => by simp [Value.ownBlock] at hk)).alloc (by omega) _ |>.grown HG2.out (by simp; omega) (fun k hk => Nat.le_trans hwc (HO1.out.lt k hk).1)).grown HG3.out (by omega) (fun k hk => Nat.le_trans hwc (HO2.out.lt k hk).1)).alloc (by omega) _ |>.grown HG4.out (by simp; omega) (fun k hk => Nat.le_trans hwc (HO3.out.lt k hk).1))
      obtain ⟨zb, zc, hz, hzb⟩ := HT.out
      have hzv := hz.hv
      have HZ := hid hz
      clear HT HO1 HO2 HO3 HO4 HG1 HG2 HG3 HG4 hz hzb
      subst hzv
      have HV4 := hid (HV.out.below HB4.out)
      have f2 := HV4.out.c2
      have hw4 := HB4.out.size
      clear HX HY HL2
      have HJ : Hid (Items w4 (.slice (some ⟨zb, 0, none⟩) (joinT la lb' u v).length zc) (joinT la lb' u v)) := ⟨zb, 0, zc, HZ.out⟩
      clear HZ
      obtain ⟨zt, hzt⟩ : ∃ zt, zt = joinT la lb' u v := ⟨_, rfl⟩
      rw [← hzt] at HJ ⊢
      have HZT := hid hzt
      clear hzt
      generalize zt.length = nj at HJ ⊢
      have hol := others_le ka kb ts.length
      have f2a := fun o => (lv_alloc HV4.out o).c2
      go_region_law (first
        | (refine step_call_mine rfl 120 #[ptr g, .int .i64 i, .int .i64 u, .int .i64 v] (by go_simp) (without_any g tb tcap n i lb lcap ts f u v ka kb _ HV4.out.drew HKa.out HKb.out hs) ?_; rintro e w5 ⟨v5, rfl, ho5, hb5⟩; refine ⟨v5, rfl, ?_⟩; have HB5 := hid (below_drew hb5); have g2 := (HV4.out.below HB5.out).c2; have g2a := fun o => (lv_alloc (HV4.out.below HB5.out) o).c2; have HO5 := hid (owns_mono (B' := w.heap.size) ho5 hw4); have hs5 := HB5.out.size; have tokb : True := trivial; clear ho5 hb5)
        | (refine step_call_mine rfl 120 #[ptr g, .int .i64 i, .int .i64 u, .int .i64 v] (by go_simp) (without_any g tb tcap n i lb lcap ts f u v ka kb _ (lv_alloc HV4.out _).drew HKa.out HKb.out hs) ?_; rintro e w5 ⟨v5, rfl, ho5, hb5⟩; refine ⟨v5, rfl, ?_⟩; have HB5 := hid (below_adrew hb5); have g2 := (HV4.out.below HB5.out).c2; have g2a := fun o => (lv_alloc (HV4.out.below HB5.out) o).c2; have HO5 := hid (owns_mono (B' := w.heap.size) ho5 (below_asize hw4 _)); have HS5 := hid (below_acell hb5); have hs5 := HB5.out.size; have toka : True := trivial; clear ho5 hb5)
        | (have _t := tokb; refine step_append_mine rfl (.tmp 67) (.tmp 69) 115 rfl w.heap.size 68 i71 (.slice none 0 0) 1 24 Tryz.underlying115 p0 p1 p2 p3 rfl (by decide) v5 (others ka kb ts.length).length _ (by simp [Act.eval, Act.put]) (HO5.out.alloc _) ⟨w5.heap.size, 0, none⟩ 1 1 [.slice (some ⟨zb, 0, none⟩) nj zc] (by simp [Act.eval, Act.put]) rfl (one_cell w5 _ _) (fun y hy => by simp at hy; subst hy; rfl) (HM.out _ (by omega)) (by omega) (by simp; omega) ?_; intro v6 w6 ho6 hg6; have HO6 := hid ho6; have HB6 : Hid (Below w.heap.size w w6) := (((HB4.out.trans (HB5.out.mono hw4)).alloc (by omega) _).grown hg6 (by simp; omega) (fun k hk => (HO5.out.lt k hk).1)); have HJ6 := hid (link_items HJ.out HB5.out HO5.out hg6); clear ho6 hg6; have g26 := (HV.out.below HB6.out).c2; have HT6 := hid (hr6_of HR.out HB6.out); have t6 : w6.cell? ⟨tb, i, none⟩ = some (F i) := HT6.out.cell (by omega); have f6 := HT6.out.frozen; obtain ⟨g6, c6, hv6⟩ := owns_slice HO6.out; subst hv6; clear HT6)
        | (have _t := toka; refine step_append_mine rfl (.tmp 67) (.tmp 69) 115 rfl w.heap.size 68 i71 (.slice none 0 0) 1 24 Tryz.underlying115 p0 p1 p2 p3 rfl (by decide) v5 (others ka kb ts.length).length _ (by simp [Act.eval, Act.put]) HO5.out ⟨w4.heap.size, 0, none⟩ 1 1 [.slice (some ⟨zb, 0, none⟩) nj zc] (by simp [Act.eval, Act.put]) rfl (acell HS5.out) (fun y hy => by simp at hy; subst hy; rfl) (HM.out _ (by omega)) (by omega) (by omega) ?_; intro v6 w6 ho6 hg6; have HO6 := hid ho6; have HB6 : Hid (Below w.heap.size w w6) := ((HB4.out.trans (HB5.out.mono hw4)).grown hg6 (by omega) (fun k hk => (HO5.out.lt k hk).1)); have HJ6 := hid (link_items' HJ.out HB5.out HO5.out hg6); clear ho6 hg6; have g26 := (HV.out.below HB6.out).c2; have HT6 := hid (hr6_of HR.out HB6.out); have t6 : w6.cell? ⟨tb, i, none⟩ = some (F i) := HT6.out.cell (by omega); have f6 := HT6.out.frozen; obtain ⟨g6, c6, hv6⟩ := owns_slice HO6.out; subst hv6; clear HT6))
      all_goals
        have R := link_end HV.out HR.out HB6.out (link_lists HV.out HB6.out HO6.out HJ6.out)
        rw [HZT.out, Hla.out, Hlb.out] at R
        have HR2 := hid R
        clear R
        go_wp2
        go_end0
        exact ⟨rfl, _, HR2.out.1, HR2.out.2.1, HR2.out.2.2⟩

end Go.Proofs.YtckallochdegiaaGreat
