import Derived.Test.YtgponhhaopmlbaaLink
namespace Go.Proofs.Ytgponhhaopmlbaa
set_option linter.unusedVariables false
set_option linter.unusedSimpArgs false
open Go.RowKit

theorem two_cells (w : World) (x y : Value) (t j : Nat) (z : Value) (h : [x, y][j]? = some z) : (w.alloc (.cells #[x, y] t)).cell? ((⟨w.heap.size, 0, none⟩ : Addr).add j) = some z := by
  rw [addr_add, Nat.zero_add, new_cell]
  simpa using h
theorem acell2 {w w' : World} {x y : Value} {t : Nat} (h : ∀ i, w'.cell? ⟨w.heap.size, i, none⟩ = (w.alloc (.cells #[x, y] t)).cell? ⟨w.heap.size, i, none⟩) (j : Nat) (z : Value) (hj : [x, y][j]? = some z) : w'.cell? ((⟨w.heap.size, 0, none⟩ : Addr).add j) = some z := by
  rw [addr_add, Nat.zero_add, h, new_cell]
  simpa using hj
theorem cut_items {w4 w5 w6 : World} {B n : Nat} {v z : Value} {xs : List Value} {t : List Itm} {e : Obj} (h : Items w4 z t) (hb : Below w4.heap.size w4 w5) (ho : w5.ownsRow B 71 1 v n xs) (g : (w5.alloc e).grownBy w6 v.ownBlock) : Items w6 z t :=
  items_row ((h.below hb (Nat.le_refl _)).below ((Below.refl _ _).alloc (Nat.le_refl _) _) (Nat.le_refl _)) (ho.alloc _) g

theorem owns_slice2 {w : World} {B e k : Nat} {v : Value} {xs : List Value} (h : w.ownsRow B e 1 v (k + 2) xs) : ∃ g cap, v = .slice (some ⟨g, 0, none⟩) (k + 2) cap := by
  rcases h.2 with ⟨_, h0⟩ | ⟨g, cap, cur, hv, _⟩
  · omega
  · exact ⟨g, cap, hv⟩

theorem cut_lists {w w6 : World} {g tb tcap n i lb lcap : Nat} {ts : List (List Itm)} {f : Nat → Value} {ka kb : Nat} {v6 y z : Value} {s t : List Itm} (h : LvAt w g tb tcap n i lb lcap ts f) (hb : Below w.heap.size w w6)
    (ho : w6.ownsRow w.heap.size 71 1 v6 ((others ka kb ts.length).length + 2) ((others ka kb ts.length).map f ++ [y, z])) (hy : Items w6 y s) (hz : Items w6 z t) :
    Lists w6 v6 ((others ka kb ts.length).map (fun k => ts[k]?.getD []) ++ [s, t]) := by
  refine lists_of_owns (by rw [List.length_append, List.length_map]; exact ho) (by simp) ?_
  intro j hj
  rw [List.length_append, List.length_map] at hj
  by_cases e : j < (others ka kb ts.length).length
  · rw [List.getElem?_append_left (by simpa using e), List.getElem?_append_left (by simpa using e)]
    simp only [List.getElem?_map, List.getElem?_eq_getElem e, Option.map_some, Option.getD_some]
    exact (h.hl.it _ (others_lt (List.getElem_mem e))).below hb (Nat.le_refl _)
  · by_cases e2 : j = (others ka kb ts.length).length
    · subst e2
      rw [List.getElem?_append_right (by simp), List.getElem?_append_right (by simp)]
      simpa using hy
    · have e3 : j = (others ka kb ts.length).length + 1 := by simp at hj; omega
      subst e3
      rw [List.getElem?_append_right (by simp), List.getElem?_append_right (by simp)]
      simpa using hz

set_option maxRecDepth 100000 in
set_option maxHeartbeats 4000000 in
theorem cut_any (g tb tcap n i lb lcap : Nat) (ts : List (List Itm)) (f F : Nat → Value) (u v : Int) (ka kb p : Nat) (t : List Itm) (w : World) (h : LvAt w g tb tcap n i lb lcap ts f)
    (hr : w.rowIs tb 95 tcap F)
    (hka : tourIx ts u = ka) (hkb : tourIx ts v = kb) (hal : ka < ts.length) (hs : ts.length ≤ 1000) (hsa : (ts[ka]?.getD []).length ≤ 3000)
    (ht : t = fromX (ts[ka]?.getD []) (u, v)) (hp1 : 2 ≤ p) (hp2 : p + 1 < t.length) (hp : t[p]?.getD (0, 0) = (v, u)) (hno : ∀ j, j < p → ¬ t[j]?.getD (0, 0) = (v, u)) :
    Calls Try.prog 65 #[ptr g, .int .i64 i, .int .i64 u, .int .i64 v] w fun e w' => e = .returned (.tuple #[]) ∧ ∃ nv, Lists w' nv (cutT ts ka kb t p) ∧ w'.rowIs tb 95 tcap (fun j => if j = i then nv else F j) ∧ But (fun k => k = tb) w w' := by
  have HV := hid h
  have HR := hid hr
  have h1 := h.hl.le
  have h2 := h.hl.mx
  have h3 := h.hn
  have h4 := h.hm
  have h5 := h.hi
  unfold maxLen at h2 h4
  have HKa := hid hka
  have HKb := hid hkb
  have hii : (i : Int) < (n : Int) := by omega
  have hai : (ka : Int) < (ts.length : Int) := by omega
  obtain ⟨b1, o1, cap1, hI1⟩ := h.hl.it ka hal
  have m1 := hI1.le
  have m2 := hI1.mx
  unfold maxLen at m2
  have d2 := h.c2
  have dt := h.ct
  have dk1 : w.cell? ⟨lb, ka, none⟩ = some (.slice (some ⟨b1, o1, none⟩) (ts[ka]?.getD []).length cap1) := by rw [← hI1.hv]; exact h.hl.c0 ka hal
  have lt1 := cell_lt dk1
  have htl : t.length ≤ 3000 := by rw [ht, fromX_length]; exact hsa
  obtain ⟨la, hla⟩ : ∃ la, la = ts[ka]?.getD [] := ⟨_, rfl⟩
  rw [← hla] at hI1 m1 dk1 hsa ht
  have HT := hid ht
  have HI1 : Hid (ItemsAt w (.slice (some ⟨b1, o1, none⟩) la.length cap1) la b1 o1 cap1) := hI1.hv ▸ hI1
  have HP := hid hp
  have HNO := hid hno
  clear h hr hka hkb hI1 hla ht hp hno
  obtain ⟨i71, p0, p1, p2, p3⟩ := info_parts Try.info71
  go_enter Try.func65, Try.ntmps65
  go_wp2_with fail
  go_cut [8] from 10 to 57 (fun x wc => Hid (Items wc x (fromX la (u, v))) ∧ Hid (Below w.heap.size w wc))
  case first =>
    go_region_with (first
      | (go_at_call 71; refine (tour_lv HV.out.drew u HKa.out).mono ?_; rintro e w1 ⟨rfl, hb0⟩; have hb := below_drew hb0; clear hb0; have dt1 : w1.cell? ⟨tb, i, none⟩ = some (.slice (some ⟨lb, 0, none⟩) ts.length lcap) := (HV.out.below hb).ct; have d21 : w1.cell? ⟨g, 2, none⟩ = some (.slice (some ⟨tb, 0, none⟩) n tcap) := (HV.out.below hb).c2; have dk3 : w1.cell? ⟨lb, ka, none⟩ = some (.slice (some ⟨b1, o1, none⟩) la.length cap1) := (hb.cell (p := ⟨lb, ka, none⟩) lt1).trans dk1; have HB := hid hb; clear hb)
      | (go_at_call 72; refine (From_any b1 o1 cap1 u v la w1 (HI1.out.below HB.out (Nat.le_refl _)) (by omega)).mono ?_; rintro e w3 ⟨v1, rfl, hA, hB3⟩; have HA := hid hA; have HB3 := hid hB3; clear hA hB3))
    all_goals
      go_wp2
      go_meet
      case rel => exact ⟨HA, HB.out.trans (HB3.out.mono HB.out.size)⟩
  case rest =>
    obtain ⟨hA, hL⟩ := hcut
    have hA2 : Items wc u8 t := by rw [HT.out]; exact hA.out
    obtain ⟨xb, xo, xc, hx⟩ := hA2
    have hxv := hx.hv
    subst hxv
    have HX := hid hx
    have x1 := hx.le
    have x2 := hx.mx
    unfold maxLen at x2
    clear hx hA d2 dt dk1 HI1
    go_wp2_with fail
    go_loop [9] (fun q => ∃ m : Nat, m ≤ p ∧ q = .int .i64 m) (fun q => p - (intOf q).toNat)
    case atStart => exact ⟨0, by omega, rfl⟩
    case round =>
      obtain ⟨m, hm, rfl⟩ := hrel
      have hmt : (m : Int) < (t.length : Int) := by omega
      have e0 := HX.out.c0 m (by omega)
      have e1 := HX.out.c1 m (by omega)
      by_cases hmp : m = p
      · subst hmp
        have e2 : (t[m]?.getD (0, 0)).1 = v := by rw [HP.out]
        have e3 : (t[m]?.getD (0, 0)).2 = u := by rw [HP.out]
        rw [e2] at e0
        rw [e3] at e1
        clear e2 e3
        have HV4 := hid (HV.out.below hL.out)
        have f2 := HV4.out.c2
        have hw4 := hL.out.size
        have HS : Hid (Items wc (.slice (some ⟨xb, xo + 2, none⟩) (m - 1) (m - 1)) ((t.take m).drop 1)) := by
          have k := (HX.out.take m m (by omega) (Nat.le_refl _) (by omega)).drop 1 (by rw [List.length_take]; omega)
          rw [List.length_take, Nat.min_eq_left (by omega)] at k
          exact ⟨_, _, _, k⟩
        have HZ : Hid (Items wc (.slice (some ⟨xb, xo + (m + 1) * 2, none⟩) (t.length - (m + 1)) (xc - (m + 1))) (t.drop (m + 1))) := ⟨_, _, _, HX.out.drop (m + 1) (by omega)⟩
        have hq1 : ¬ m = 1 := by omega
        have hq2 : m ≤ xc := by omega
        have hq3 : m + 1 ≤ t.length := by omega
        have hq4 : ¬ xc = m + 1 := by omega
        have hq5 : (1 : Int) ≤ (m : Int) := by omega
        have hq8 : (0 : Int) ≤ (m : Int) + 1 := by omega
        have hq9 : (m : Int) + 1 ≤ (t.length : Int) := by omega
        have hq6 : ((m : Int) + 1).toNat = m + 1 := by omega
        have hq7 : IntKind.i64.wrap ((m : Int) + 1) = (m : Int) + 1 := by rw [IntKind.wrap_i64]; omega
        have hol := others_le ka kb ts.length
        have HM : Hid (∀ m : Nat, m ≤ 20000 → m ≤ maxLen) := fun m hm => by unfold maxLen; omega
        have f2a := fun o => (lv_alloc HV4.out o).c2
        go_wp2_with fail
        go_region_law (first
          | (refine step_call_mine rfl 87 #[ptr g, .int .i64 i, .int .i64 u, .int .i64 v] (by go_simp) (without_any g tb tcap n i lb lcap ts f u v ka kb _ HV4.out.drew HKa.out HKb.out hs) ?_; rintro e w5 ⟨v5, rfl, ho5, hb5⟩; refine ⟨v5, rfl, ?_⟩; have HB5 := hid (below_drew hb5); have g2 := (HV4.out.below HB5.out).c2; have g2a := fun o => (lv_alloc (HV4.out.below HB5.out) o).c2; have HO5 := hid (owns_mono (B' := w.heap.size) ho5 hw4); have hs5 := HB5.out.size; have tokb : True := trivial; clear ho5 hb5)
          | (refine step_call_mine rfl 87 #[ptr g, .int .i64 i, .int .i64 u, .int .i64 v] (by go_simp) (without_any g tb tcap n i lb lcap ts f u v ka kb _ (lv_alloc HV4.out _).drew HKa.out HKb.out hs) ?_; rintro e w5 ⟨v5, rfl, ho5, hb5⟩; refine ⟨v5, rfl, ?_⟩; have HB5 := hid (below_adrew hb5); have g2 := (HV4.out.below HB5.out).c2; have g2a := fun o => (lv_alloc (HV4.out.below HB5.out) o).c2; have HO5 := hid (owns_mono (B' := w.heap.size) ho5 (below_asize hw4 _)); have HS5 := hid (below_acell hb5); have hs5 := HB5.out.size; have toka : True := trivial; clear ho5 hb5)
          | (have _t := tokb; refine step_append_mine rfl (.tmp 46) (.tmp 55) 95 rfl w.heap.size 71 i71 (.slice none 0 0) 1 24 Try.underlying95 p0 p1 p2 p3 rfl (by decide) v5 (others ka kb ts.length).length _ (by simp [Act.eval, Act.put]) (HO5.out.alloc _) ⟨w5.heap.size, 0, none⟩ 2 2 [.slice (some ⟨xb, xo + 2, none⟩) (m - 1) (m - 1), .slice (some ⟨xb, xo + (m + 1) * 2, none⟩) (t.length - (m + 1)) (xc - (m + 1))] (by simp [Act.eval, Act.put]) rfl (two_cells w5 _ _ _) (fun y hy => by simp at hy; rcases hy with rfl | rfl <;> rfl) (HM.out _ (by omega)) (by omega) (by simp; omega) ?_; intro v6 w6 ho6 hg6; have HO6 := hid ho6; have HB6 : Hid (Below w.heap.size w w6) := (((hL.out.trans (HB5.out.mono hw4)).alloc (by omega) _).grown hg6 (by simp; omega) (fun k hk => (HO5.out.lt k hk).1)); have HJ6 := hid (cut_items HS.out HB5.out HO5.out hg6); have HK6 := hid (cut_items HZ.out HB5.out HO5.out hg6); clear ho6 hg6; have g26 := (HV.out.below HB6.out).c2; have HT6 := hid (hr6_of HR.out HB6.out); have t6 : w6.cell? ⟨tb, i, none⟩ = some (F i) := HT6.out.cell (by omega); have f6 := HT6.out.frozen; obtain ⟨g6, c6, hv6⟩ := owns_slice2 HO6.out; subst hv6; clear HT6)
          | (have _t := toka; refine step_append_mine rfl (.tmp 46) (.tmp 55) 95 rfl w.heap.size 71 i71 (.slice none 0 0) 1 24 Try.underlying95 p0 p1 p2 p3 rfl (by decide) v5 (others ka kb ts.length).length _ (by simp [Act.eval, Act.put]) HO5.out ⟨wc.heap.size, 0, none⟩ 2 2 [.slice (some ⟨xb, xo + 2, none⟩) (m - 1) (m - 1), .slice (some ⟨xb, xo + (m + 1) * 2, none⟩) (t.length - (m + 1)) (xc - (m + 1))] (by simp [Act.eval, Act.put]) rfl (acell2 HS5.out) (fun y hy => by simp at hy; rcases hy with rfl | rfl <;> rfl) (HM.out _ (by omega)) (by omega) (by omega) ?_; intro v6 w6 ho6 hg6; have HO6 := hid ho6; have HB6 : Hid (Below w.heap.size w w6) := ((hL.out.trans (HB5.out.mono hw4)).grown hg6 (by omega) (fun k hk => (HO5.out.lt k hk).1)); have HJ6 := hid (link_items' HS.out HB5.out HO5.out hg6); have HK6 := hid (link_items' HZ.out HB5.out HO5.out hg6); clear ho6 hg6; have g26 := (HV.out.below HB6.out).c2; have HT6 := hid (hr6_of HR.out HB6.out); have t6 : w6.cell? ⟨tb, i, none⟩ = some (F i) := HT6.out.cell (by omega); have f6 := HT6.out.frozen; obtain ⟨g6, c6, hv6⟩ := owns_slice2 HO6.out; subst hv6; clear HT6))
        all_goals
          have HR2 := hid (link_end HV.out HR.out HB6.out (cut_lists HV.out HB6.out HO6.out HJ6.out HK6.out))
          go_wp2
          go_end0
          exact ⟨rfl, _, HR2.out.1, HR2.out.2.1, HR2.out.2.2⟩
      · have hne := HNO.out m (by omega)
        obtain ⟨y, hy⟩ : ∃ y, y = t[m]?.getD (0, 0) := ⟨_, rfl⟩
        rw [← hy] at e0 e1 hne
        clear hy
        obtain ⟨y1, y2⟩ := y
        simp only [Prod.mk.injEq] at hne
        by_cases k1 : y1 = v
        · have k2 : ¬ y2 = u := fun k => hne ⟨k1, k⟩
          have k3 : (y1 == v) = true := by simpa using k1
          have k4 : (y2 == u) = false := by simpa using k2
          clear k1 k2 hne
          go_wp2
          exact ⟨⟨m + 1, by omega, by go_num⟩, by simp [intOf]; omega⟩
        · have k3 : (y1 == v) = false := by simpa using k1
          clear hne
          go_wp2
          exact ⟨⟨m + 1, by omega, by go_num⟩, by simp [intOf]; omega⟩

end Go.Proofs.Ytgponhhaopmlbaa
