import Derived.Test.YtckallochdegiaaGreatLink
import Derived.Test.YtckallochdegiaaGreatSize
import Derived.Test.YtckallochdegiaaGreatEuler
import Derived.Test.YtckallochdegiaaGreatAppend
namespace Go.Proofs.YtckallochdegiaaGreat
set_option linter.unusedVariables false
set_option linter.unusedSimpArgs false
open Go.RowKit

theorem two_cells (w : World) (x y : Value) (t j : Nat) (z : Value) (h : [x, y][j]? = some z) : (w.alloc (.cells #[x, y] t)).cell? ((⟨w.heap.size, 0, none⟩ : Addr).add j) = some z := by
  rw [addr_add, Nat.zero_add, new_cell]
  simpa using h
theorem acell2 {w w' : World} {x y : Value} {t : Nat} (h : ∀ i, w'.cell? ⟨w.heap.size, i, none⟩ = (w.alloc (.cells #[x, y] t)).cell? ⟨w.heap.size, i, none⟩) (j : Nat) (z : Value) (hj : [x, y][j]? = some z) : w'.cell? ((⟨w.heap.size, 0, none⟩ : Addr).add j) = some z := by
  rw [addr_add, Nat.zero_add, h, new_cell]
  simpa using hj
theorem cut_items {w4 w5 w6 : World} {B n : Nat} {v z : Value} {xs : List Value} {t : List Itm} {e : Obj} (h : Items w4 z t) (hb : Below w4.heap.size w4 w5) (ho : w5.ownsRow B 68 1 v n xs) (g : (w5.alloc e).grownBy w6 v.ownBlock) : Items w6 z t :=
  items_row ((h.below hb (Nat.le_refl _)).below ((Below.refl _ _).alloc (Nat.le_refl _) _) (Nat.le_refl _)) (ho.alloc _) g

theorem owns_slice2 {w : World} {B e k : Nat} {v : Value} {xs : List Value} (h : w.ownsRow B e 1 v (k + 2) xs) : ∃ g cap, v = .slice (some ⟨g, 0, none⟩) (k + 2) cap := by
  rcases h.2 with ⟨_, h0⟩ | ⟨g, cap, cur, hv, _⟩
  · omega
  · exact ⟨g, cap, hv⟩

theorem cut_lists {w w6 : World} {g tb tcap n i lb lcap : Nat} {ts : List (List Itm)} {f : Nat → Value} {ka kb : Nat} {v6 y z : Value} {s t : List Itm} (h : LvAt w g tb tcap n i lb lcap ts f) (hb : Below w.heap.size w w6)
    (ho : w6.ownsRow w.heap.size 68 1 v6 ((others ka kb ts.length).length + 2) ((others ka kb ts.length).map f ++ [y, z])) (hy : Items w6 y s) (hz : Items w6 z t) :
    Lists w6 v6 ((others ka kb ts.length).map (fun k => ts[k]?.getD []) ++ [s, t]) := by
  refine lists_of_owns (by rw [List.length_append, List.length_map]; exact ho) (by simp) ?_
  intro j hj
  rw [List.length_append, List.length_map] at hj
  by_cases e : j < (others ka kb ts.length).length
  · rw [List.getElem?_append_left (by simpa using e), List.getElem?_append_left (by simpa using e)]
    simp only [List.getElem?_map, List.getElem?_eq_getElem e, Option.map_some, Option.getD_some]
    exact (h.hl.it _ (others_lt (List.getElem_mem e))).below hb (Nat.le_refl _)
  · by_cases e2 : j = (others ka kb ts.length).length
    · subst e2
      rw [List.getElem?_append_right (by simp), List.getElem?_append_right (by simp)]
      simpa using hy
    · have e3 : j = (others ka kb ts.length).length + 1 := by simp at hj; omega
      subst e3
      rw [List.getElem?_append_right (by simp), List.getElem?_append_right (by simp)]
      simpa using hz

set_option maxRecDepth 100000 in
set_option maxHeartbeats 4000000 in
theorem cut_any (g tb tcap n i lb lcap : Nat) (ts : List (List Itm)) (f F : Nat → Value) (u v : Int) (ka kb p : Nat) (t : List Itm) (w : World) (h : LvAt w g tb tcap n i lb lcap ts f)
    (hr : w.rowIs tb 115 tcap F)
    (hka : tourIx ts u = ka) (hkb : tourIx ts v = kb) (hal : ka < ts.length) (hs : ts.length ≤ 1000) (hsa : (ts[ka]?.getD []).length ≤ 3000)
    (ht : t = fromX (ts[ka]?.getD []) (u, v)) (hp1 : 2 ≤ p) (hp2 : p + 1 < t.length) (hp : t[p]?.getD (0, 0) = (v, u)) (hno : ∀ j, j < p → ¬ t[j]?.getD (0, 0) = (v, u)) :
    Calls Tryz.prog 98 #[ptr g, .int .i64 i, .int .i64 u, .int .i64 v] w fun e w' => e = .returned (.tuple #[]) ∧ ∃ nv, Lists w' nv (cutT ts ka kb t p) ∧ w'.rowIs tb 115 tcap (fun j => if j = i then nv else F j) ∧ But (fun k => k = tb) w w' := by
  have HV := hid h
  have HR := hid hr
  have h1 := h.hl.le
  have h2 := h.hl.mx
  have h3 := h.hn
  have h4 := h.hm
  have h5 := h.hi
  unfold maxLen at h2 h4
  have HKa := hid hka
  have HKb := hid hkb
  have hii : (i : Int) < (n : Int) := by omega
  have hai : (ka : Int) < (ts.length : Int) := by omega
  obtain ⟨b1, o1, cap1, hI1⟩ := h.hl.it ka hal
  have m1 := hI1.le
  have m2 := hI1.mx
  unfold maxLen at m2
  have d2 := h.c2
  have dt := h.ct
  have dk1 : w.cell? ⟨lb, ka, none⟩ = some (.slice (some ⟨b1, o1, none⟩) (ts[ka]?.getD []).length cap1) := by rw [← hI1.hv]; exact h.hl.c0 ka hal
  have lt1 := cell_lt dk1
  have htl : t.length ≤ 3000 := by rw [ht, fromX_length]; exact hsa
  obtain ⟨la, hla⟩ : ∃ la, la = ts[ka]?.getD [] := ⟨_, rfl⟩
  rw [← hla] at hI1 m1 dk1 hsa ht
  have HT := hid ht
  have HI1 : Hid (ItemsAt w (.slice (some ⟨b1, o1, none⟩) la.length cap1) la b1 o1 cap1) := hI1.hv ▸ hI1
  have HP := hid hp
  have HNO := hid hno
  clear h hr hka hkb hI1 hla ht hp hno
  obtain ⟨i71, p0, p1, p2, p3⟩ := info_parts Tryz.info68
  go_enter Tryz.func98, Tryz.ntmps98
  go_wp2_with fail
  go_cut [8] from 10 to 57 (fun x wc => Hid (Items wc x (fromX la (u, v))) ∧ Hid (Below w.heap.size w wc))
  case first =>
    go_region_with (first
      | (go_at_call 75; refine (tour_lv HV.out.drew u HKa.out).mono ?_; rintro e w1 ⟨rfl, hb0⟩; have hb := below_drew hb0; clear hb0; have dt1 : w1.cell? ⟨tb, i, none⟩ = some (.slice (some ⟨lb, 0, none⟩) ts.length lcap) := (HV.out.below hb).ct; have d21 : w1.cell? ⟨g, 2, none⟩ = some (.slice (some ⟨tb, 0, none⟩) n tcap) := (HV.out.below hb).c2; have dk3 : w1.cell? ⟨lb, ka, none⟩ = some (.slice (some ⟨b1, o1, none⟩) la.length cap1) := (hb.cell (p := ⟨lb, ka, none⟩) lt1).trans dk1; have HB := hid hb; clear hb)
      | (go_at_call 76; refine (From_any b1 o1 cap1 u v la w1 (HI1.out.below HB.out (Nat.le_refl _)) (by omega)).mono ?_; rintro e w3 ⟨v1, rfl, hA, hB3⟩; have HA := hid hA; have HB3 := hid hB3; clear hA hB3))
    all_goals
      go_wp2
      go_meet
      case rel => exact ⟨HA, HB.out.trans (HB3.out.mono HB.out.size)⟩
  case rest =>
    obtain ⟨hA, hL⟩ := hcut
    have hA2 : Items wc u8 t := by rw [HT.out]; exact hA.out
    obtain ⟨xb, xo, xc, hx⟩ := hA2
    have hxv := hx.hv
    subst hxv
    have HX := hid hx
    have x1 := hx.le
    have x2 := hx.mx
    unfold maxLen at x2
    clear hx hA d2 dt dk1 HI1
    go_wp2_with fail
    go_loop [9] (fun q => ∃ m : Nat, m ≤ p ∧ q = .int .i64 m) (fun q => p - (intOf q).toNat)
    case atStart => exact ⟨0, by omega, rfl⟩
    case round =>
      obtain ⟨m, hm, rfl⟩ := hrel
      have hmt : (m : Int) < (t.length : Int) := by omega
      have e0 := HX.out.c0 m (by omega)
      have e1 := HX.out.c1 m (by omega)
      by_cases hmp : m = p
      · subst hmp
        have e2 : (t[m]?.getD (0, 0)).1 = v := by rw [HP.out]
        have e3 : (t[m]?.getD (0, 0)).2 = u := by rw [HP.out]
        rw [e2] at e0
        rw [e3] at e1
        clear e2 e3
        have HV4 := hid (HV.out.below hL.out)
        have f2 := HV4.out.c2
        have hw4 := hL.out.size
        have HS : Hid (Items wc (.slice (some ⟨xb, xo + 2, none⟩) (m - 1) (m - 1)) ((t.take m).drop 1)) := by
          have k := (HX.out.take m m (by omega) (Nat.le_refl _) (by omega)).drop 1 (by rw [List.length_take]; omega)
          rw [List.length_take, Nat.min_eq_left (by omega)] at k
          exact ⟨_, _, _, k⟩
        have HZ : Hid (Items wc (.slice (some ⟨xb, xo + (m + 1) * 2, none⟩) (t.length - (m + 1)) (xc - (m + 1))) (t.drop (m + 1))) := ⟨_, _, _, HX.out.drop (m + 1) (by omega)⟩
        have hq1 : ¬ m = 1 := by omega
        have hq2 : m ≤ xc := by omega
        have hq3 : m + 1 ≤ t.length := by omega
        have hq4 : ¬ xc = m + 1 := by omega
        have hq5 : (1 : Int) ≤ (m : Int) := by omega
        have hq8 : (0 : Int) ≤ (m : Int) + 1 := by omega
        have hq9 : (m : Int) + 1 ≤ (t.length : Int) := by omega
        have hq6 : ((m : Int) + 1).toNat = m + 1 := by omega
        have hq7 : IntKind.i64.wrap ((m : Int) + 1) = (m : Int) + 1 := by rw [IntKind.wrap_i64]; omega
        have hol := others_le ka kb ts.length
        have HM : Hid (∀ m : Nat, m ≤ 20000 → m ≤ maxLen) := fun m hm => by unfold maxLen; omega
        have f2a := fun o => (lv_alloc HV4.out o).c2
        go_wp2_with fail
        go_region_law (first
          | (refine step_call_mine rfl 120 #[ptr g, .int .i64 i, .int .i64 u, .int .i64 v] (by go_simp) (without_any g tb tcap n i lb lcap ts f u v ka kb _ HV4.out.drew HKa.out HKb.out hs) ?_; rintro e w5 ⟨v5, rfl, ho5, hb5⟩; refine ⟨v5, rfl, ?_⟩; have HB5 := hid (below_drew hb5); have g2 := (HV4.out.below HB5.out).c2; have g2a := fun o => (lv_alloc (HV4.out.below HB5.out) o).c2; have HO5 := hid (owns_mono (B' := w.heap.size) ho5 hw4); have hs5 := HB5.out.size; have tokb : True := trivial; clear ho5 hb5)
          | (refine step_call_mine rfl 120 #[ptr g, .int .i64 i, .int .i64 u, .int .i64 v] (by go_simp) (without_any g tb tcap n i lb lcap ts f u v ka kb _ (lv_alloc HV4.out _).drew HKa.out HKb.out hs) ?_; rintro e w5 ⟨v5, rfl, ho5, hb5⟩; refine ⟨v5, rfl, ?_⟩; have HB5 := hid (below_adrew hb5); have g2 := (HV4.out.below HB5.out).c2; have g2a := fun o => (lv_alloc (HV4.out.below HB5.out) o).c2; have HO5 := hid (owns_mono (B' := w.heap.size) ho5 (below_asize hw4 _)); have HS5 := hid (below_acell hb5); have hs5 := HB5.out.size; have toka : True := trivial; clear ho5 hb5)
          | (have _t := tokb; refine step_append_mine rfl (.tmp 46) (.tmp 55) 115 rfl w.heap.size 68 i71 (.slice none 0 0) 1 24 Tryz.underlying115 p0 p1 p2 p3 rfl (by decide) v5 (others ka kb ts.length).length _ (by simp [Act.eval, Act.put]) (HO5.out.alloc _) ⟨w5.heap.size, 0, none⟩ 2 2 [.slice (some ⟨xb, xo + 2, none⟩) (m - 1) (m - 1), .slice (some ⟨xb, xo + (m + 1) * 2, none⟩) (t.length - (m + 1)) (xc - (m + 1))] (by simp [Act.eval, Act.put]) rfl (two_cells w5 _ _ _) (fun y hy => by simp at hy; rcases hy with rfl | rfl <;> rfl) (HM.out _ (by omega)) (by omega) (by simp; omega) ?_; intro v6 w6 ho6 hg6; have HO6 := hid ho6; have HB6 : Hid (Below w.heap.size w w6) := (((hL.out.trans (HB5.out.mono hw4)).alloc (by omega) _).grown hg6 (by simp; omega) (fun k hk => (HO5.out.lt k hk).1)); have HJ6 := hid (cut_items HS.out HB5.out HO5.out hg6); have HK6 := hid (cut_items HZ.out HB5.out HO5.out hg6); clear ho6 hg6; have g26 := (HV.out.below HB6.out).c2; have HT6 := hid (hr6_of HR.out HB6.out); have t6 : w6.cell? ⟨tb, i, none⟩ = some (F i) := HT6.out.cell (by omega); have f6 := HT6.out.frozen; obtain ⟨g6, c6, hv6⟩ := owns_slice2 HO6.out; subst hv6; clear HT6)
          | (have _t := toka; refine step_append_mine rfl (.tmp 46) (.tmp 55) 115 rfl w.heap.size 68 i71 (.slice none 0 0) 1 24 Tryz.underlying115 p0 p1 p2 p3 rfl (by decide) v5 (others ka kb ts.length).length _ (by simp [Act.eval, Act.put]) HO5.out ⟨wc.heap.size, 0, none⟩ 2 2 [.slice (some ⟨xb, xo + 2, none⟩) (m - 1) (m - 1), .slice (some ⟨xb, xo + (m + 1) * 2, none⟩) (t.length - (m + 1)) (xc - (m + 1))] (by simp [Act.eval, Act.put]) rfl (acell2 HS5.out) (fun y hy => by simp at hy; rcases hy with rfl | rfl <;> rfl) (HM.out _ (by omega)) (by omega) (by omega) ?_; intro v6 w6 ho6 hg6; have HO6 := hid ho6; have HB6 : Hid (Below w.heap.size w w6) := ((hL.out.trans (HB5.out.mono hw4)).grown hg6 (by omega) (fun k hk => (HO5.out.lt k hk).1)); have HJ6 := hid (link_items' HS.out HB5.out HO5.out hg6); have HK6 := hid (link_items' HZ.out HB5.out HO5.out hg6); clear ho6 hg6; have g26 := (HV.out.below HB6.out).c2; have HT6 := hid (hr6_of HR.out HB6.out); have t6 : w6.cell? ⟨tb, i, none⟩ = some (F i) := HT6.out.cell (by omega); have f6 := HT6.out.frozen; obtain ⟨g6, c6, hv6⟩ := owns_slice2 HO6.out; subst hv6; clear HT6))
        all_goals
          have HR2 := hid (link_end HV.out HR.out HB6.out (cut_lists HV.out HB6.out HO6.out HJ6.out HK6.out))
          go_wp2
          go_end0
          exact ⟨rfl, _, HR2.out.1, HR2.out.2.1, HR2.out.2.2⟩
      · have hne := HNO.out m (by omega)
        obtain ⟨y, hy⟩ : ∃ y, y = t[m]?.getD (0, 0) := ⟨_, rfl⟩
        rw [← hy] at e0 e1 hne
        clear hy
        obtain ⟨y1, y2⟩ := y
        simp only [Prod.mk.injEq] at hne
        by_cases k1 : y1 = v
        · have k2 : ¬ y2 = u := fun k => hne ⟨k1, k⟩
          have k3 : (y1 == v) = true := by simpa using k1
          have k4 : (y2 == u) = false := by simpa using k2
          clear k1 k2 hne
          go_wp2
          exact ⟨⟨m + 1, by omega, by go_num⟩, by simp [intOf]; omega⟩
        · have k3 : (y1 == v) = false := by simpa using k1
          clear hne
          go_wp2
          exact ⟨⟨m + 1, by omega, by go_num⟩, by simp [intOf]; omega⟩

end Go.Proofs.YtckallochdegiaaGreat
namespace Go.Proofs.YtckallochdegiaaGreat
set_option linter.unusedVariables false
set_option linter.unusedSimpArgs false
open Go.RowKit

def gf (n : Nat) (ev : Value) (tb nt tcap : Nat) (pr : Int) : Nat → Value := fun i => if i = 0 then .int .i64 n else if i = 1 then ev else if i = 2 then .slice (some ⟨tb, 0, none⟩) nt tcap else .int .i64 pr

/-- The graph G lies at block g. -/
structure GRep (w : World) (g : Nat) (G : Gr) (ev : Value) (tb tcap : Nat) (F : Nat → Value) (pr : Int) : Prop where
  rg : w.rowIs g 45 4 (gf G.N ev tb G.tours.length tcap pr)
  ed : Edges w ev G.edges
  rt : w.rowIs tb 115 tcap F
  tl : G.tours.length ≤ tcap
  tm : tcap ≤ maxLen
  ti : ∀ i, i < G.tours.length → Lists w (F i) (lv G i)

/-- The blocks that are the graph's own, to be written. -/
def Own (g tb : Nat) (ev : Value) : Nat → Prop := fun k => k = g ∨ k = tb ∨ ev.ownBlock = some k

section
variable {w w' : World} {g : Nat} {G : Gr} {ev : Value} {tb tcap : Nat} {F : Nat → Value} {pr : Int} {i : Nat}

theorem GRep.c0 (h : GRep w g G ev tb tcap F pr) : w.cell? ⟨g, 0, none⟩ = some (.int .i64 G.N) := h.rg.cell (by omega)
theorem GRep.c1 (h : GRep w g G ev tb tcap F pr) : w.cell? ⟨g, 1, none⟩ = some ev := h.rg.cell (by omega)
theorem GRep.c2 (h : GRep w g G ev tb tcap F pr) : w.cell? ⟨g, 2, none⟩ = some (.slice (some ⟨tb, 0, none⟩) G.tours.length tcap) := h.rg.cell (by omega)
theorem GRep.c3 (h : GRep w g G ev tb tcap F pr) : w.cell? ⟨g, 3, none⟩ = some (.int .i64 pr) := h.rg.cell (by omega)

theorem EAt.own {es : List Edg} {b cap : Nat} (h : EAt w ev es b cap) : ev.ownBlock = some b := by rw [h.hv]; rfl
theorem EAt.tya {es : List Edg} {b cap : Nat} (h : EAt w ev es b cap) : TyAt w b 89 := by
  obtain ⟨c, hc, _⟩ := h.ty
  exact ⟨c, hc⟩

/-- Edges stay where their row is not written. -/
theorem Edges.but {S : Nat → Prop} {es : List Edg} (h : Edges w ev es) (b : But S w w') (hS : ∀ k, ev.ownBlock = some k → ¬ S k) : Edges w' ev es := by
  rcases h with h | ⟨eb, cap, h⟩
  · exact Or.inl h
  · exact Or.inr ⟨eb, cap, h.block (b.block eb h.lt (hS eb h.own))⟩


/-- A graph stays where none of its own blocks is written. -/
theorem GRep.but {S : Nat → Prop} (h : GRep w g G ev tb tcap F pr) (b : But S w w') (hS : ∀ k, Own g tb ev k → ¬ S k) (hn : NoTour S w) : GRep w' g G ev tb tcap F pr :=
  ⟨row_but h.rg b (hS g (Or.inl rfl)), h.ed.but b (fun k hk => hS k (Or.inr (Or.inr hk))), row_but h.rt b (hS tb (Or.inr (Or.inl rfl))), h.tl, h.tm, fun i hi => (h.ti i hi).but b hn⟩

theorem GRep.below (h : GRep w g G ev tb tcap F pr) (b : Below w.heap.size w w') : GRep w' g G ev tb tcap F pr :=
  h.but (S := fun _ => False) (But.of b) (fun _ _ q => q) (fun _ q => q.elim)

theorem GRep.lvl (h : GRep w g G ev tb tcap F pr) (hi : i < G.tours.length) : ∃ lb lcap f, F i = .slice (some ⟨lb, 0, none⟩) (lv G i).length lcap ∧ LvAt w g tb tcap G.tours.length i lb lcap (lv G i) f := by
  obtain ⟨lb, lcap, f, hl⟩ := h.ti i hi
  have hv := hl.hv
  refine ⟨lb, lcap, f, hv, h.c2, h.tl, h.tm, hi, ?_, hv ▸ hl⟩
  rw [h.rt.cell (by have := h.tl; omega), hv]

theorem noTour_tb (h : GRep w g G ev tb tcap F pr) : NoTour (fun k => k = tb) w := noTour_one (rowIs_ty h.rt) (by decide) (by decide)

theorem GRep.gtb (h : GRep w g G ev tb tcap F pr) : g ≠ tb := (rowIs_ty h.rg).ne (rowIs_ty h.rt) (by decide)
theorem Edges.notIn {es : List Edg} (h : Edges w ev es) {b t : Nat} (hb : TyAt w b t) (ht : 89 ≠ t) : ∀ k, ev.ownBlock = some k → ¬ k = b := by
  intro k hk q
  rcases h with ⟨rfl, _⟩ | ⟨eb, cap, h⟩
  · simp [Value.ownBlock] at hk
  · rw [h.own] at hk
    simp only [Option.some.injEq] at hk
    exact h.tya.ne hb ht (hk.trans q)

/-- One level's list is replaced. -/
theorem GRep.setT (h : GRep w g G ev tb tcap F pr) (hi : i < G.tours.length) {nv : Value} {ts : List (List Itm)} (hl : Lists w' nv ts) (hr : w'.rowIs tb 115 tcap (fun j => if j = i then nv else F j)) (b : But (fun k => k = tb) w w') :
    GRep w' g (Go.Proofs.YtckallochdegiaaGreat.setT G i ts) ev tb tcap (fun j => if j = i then nv else F j) pr := by
  have len : (Go.Proofs.YtckallochdegiaaGreat.setT G i ts).tours.length = G.tours.length := by simp [Go.Proofs.YtckallochdegiaaGreat.setT]
  refine ⟨?_, h.ed.but b (h.ed.notIn (rowIs_ty h.rt) (by decide)), hr, by rw [len]; exact h.tl, h.tm, ?_⟩
  · rw [len]; exact row_but h.rg b h.gtb
  · intro j hj
    rw [len] at hj
    rw [lv_setT _ _ _ _ hi]
    by_cases c : j = i
    · rw [if_pos c, if_pos c]; exact hl
    · rw [if_neg c, if_neg c]; exact (h.ti j hj).but b (noTour_tb h)

/-- Link, of a graph. -/
theorem Link_G {es : List Edg} (h : GRep w g G ev tb tcap F pr) (hi : i < G.tours.length) (hN : G.N ≤ 48) (L : LI G.N es i (lv G i)) (hE : ∀ e, e ∈ es → 0 ≤ e.u ∧ e.u < G.N ∧ 0 ≤ e.v ∧ e.v < G.N) {u v : Int} (hu0 : 0 ≤ u) (hu1 : u < G.N) (hv0 : 0 ≤ v) (hv1 : v < G.N) :
    Calls Tryz.prog 119 #[ptr g, .int .i64 i, .int .i64 u, .int .i64 v] w fun e w' => e = .returned (.tuple #[]) ∧ (∃ F', GRep w' g (lnk G i u v) ev tb tcap F' pr) ∧ But (fun k => k = tb) w w' := by
  obtain ⟨lb, lcap, f, hF, hL⟩ := h.lvl hi
  obtain ⟨k, t, hk, e1, e2, ht, _⟩ := L.ix_of hu0 hu1
  obtain ⟨m, s, hm, f1, f2, hs, _⟩ := L.ix_of hv0 hv1
  have l1 := L.len hN hE ht
  have l2 := L.len hN hE hs
  have l3 := L.count
  refine (Link_any g tb tcap G.tours.length i lb lcap (lv G i) f F u v k m w hL h.rt e1 f1 hk hm (by omega) (by rw [e2]; omega) (by rw [f2]; omega)).mono ?_
  rintro e w' ⟨rfl, nv, h1, h2, h3⟩
  have := h.setT hi h1 h2 h3
  refine ⟨rfl, ⟨fun j => if j = i then nv else F j, ?_⟩, h3⟩
  rw [lnk, e1, f1, Int.toNat_natCast, Int.toNat_natCast]
  exact this

/-- cut, of a graph. -/
theorem cut_G {es : List Edg} (h : GRep w g G ev tb tcap F pr) (hi : i < G.tours.length) (hN : G.N ≤ 48) (L : LI G.N es i (lv G i)) (hE : ∀ e, e ∈ es → 0 ≤ e.u ∧ e.u < G.N ∧ 0 ≤ e.v ∧ e.v < G.N) {u v : Int} {ka p : Nat} {t : List Itm} (c : CutFind (lv G i) u v ka p t) :
    Calls Tryz.prog 98 #[ptr g, .int .i64 i, .int .i64 u, .int .i64 v] w fun e w' => e = .returned (.tuple #[]) ∧ (∃ F', GRep w' g (cutG G i u v) ev tb tcap F' pr) ∧ But (fun k => k = tb) w w' := by
  obtain ⟨lb, lcap, f, hF, hL⟩ := h.lvl hi
  have l1 : ((lv G i)[ka]?.getD []).length ≤ 2352 := L.len hN hE (by rw [get_eq c.hk]; exact List.getElem_mem c.hk)
  have l3 := L.count
  refine (cut_any g tb tcap G.tours.length i lb lcap (lv G i) f F u v ka ka p t w hL h.rt c.iu c.iv c.hk (by omega) (by omega) c.ht c.p1 c.p2 c.at_ c.no).mono ?_
  rintro e w' ⟨rfl, nv, h1, h2, h3⟩
  have := h.setT hi h1 h2 h3
  refine ⟨rfl, ⟨fun j => if j = i then nv else F j, ?_⟩, h3⟩
  rw [cutG, cutL, c.iu, c.iv, Int.toNat_natCast, ← c.ht, ← c.hp]
  exact this

/-- One field of an edge is written: its level. -/
theorem EAt.setLev {es : List Edg} {b cap : Nat} (h : EAt w ev es b cap) {k : Nat} (hk : k < es.length) (x : Int) : EAt (w.setCell ⟨b, k * 4 + 2, none⟩ (.int .i64 x)) ev (es.set k { es[k]?.getD e0 with lev := x }) b cap := by
  have len : (es.set k { es[k]?.getD e0 with lev := x }).length = es.length := by simp
  obtain ⟨c, hc, hs⟩ := h.ty
  have get : ∀ j, j < es.length → (es.set k { es[k]?.getD e0 with lev := x })[j]?.getD e0 = if j = k then { es[k]?.getD e0 with lev := x } else es[j]?.getD e0 := by
    intro j hj
    rw [List.getElem?_set]
    by_cases q : k = j
    · subst q; simp [hk]
    · rw [if_neg q, if_neg (fun p => q p.symm)]
  have far1 : ∀ o, o ≠ k * 4 + 2 → (w.setCell ⟨b, k * 4 + 2, none⟩ (.int .i64 x)).cell? ⟨b, o, none⟩ = w.cell? ⟨b, o, none⟩ := fun o ho => World.cell?_setCell_other (h := fun q => ho (congrArg Addr.off q).symm) ..
  refine ⟨by rw [len]; exact h.hv, by rw [len]; exact h.le, h.mx, ?_, ?_, ?_, ?_, ?_⟩
  · intro j hj; rw [len] at hj; rw [far1 _ (by omega), get j hj, h.c0 j hj]
    by_cases q : j = k
    · subst q; simp
    · rw [if_neg q]
  · intro j hj; rw [len] at hj; rw [far1 _ (by omega), get j hj, h.c1 j hj]
    by_cases q : j = k
    · subst q; simp
    · rw [if_neg q]
  · intro j hj; rw [len] at hj; rw [get j hj]
    by_cases q : j = k
    · subst q
      rw [if_pos rfl]
      exact World.cell?_setCell_same _ _ _ (h.c2 j hk)
    · rw [if_neg q, far1 _ (by omega)]; exact h.c2 j hj
  · intro j hj; rw [len] at hj; rw [far1 _ (by omega), get j hj, h.c3 j hj]
    by_cases q : j = k
    · subst q; simp
    · rw [if_neg q]
  · refine ⟨c.setIfInBounds (k * 4 + 2) (.int .i64 x), ?_, by simpa using hs⟩
    simp [World.setCell, Array.getElem?_modify, hc]

/-- .. its kind. -/
theorem EAt.setTree {es : List Edg} {b cap : Nat} (h : EAt w ev es b cap) {k : Nat} (hk : k < es.length) (x : Bool) : EAt (w.setCell ⟨b, k * 4 + 3, none⟩ (.bool x)) ev (es.set k { es[k]?.getD e0 with tree := x }) b cap := by
  have len : (es.set k { es[k]?.getD e0 with tree := x }).length = es.length := by simp
  obtain ⟨c, hc, hs⟩ := h.ty
  have get : ∀ j, j < es.length → (es.set k { es[k]?.getD e0 with tree := x })[j]?.getD e0 = if j = k then { es[k]?.getD e0 with tree := x } else es[j]?.getD e0 := by
    intro j hj
    rw [List.getElem?_set]
    by_cases q : k = j
    · subst q; simp [hk]
    · rw [if_neg q, if_neg (fun p => q p.symm)]
  have far1 : ∀ o, o ≠ k * 4 + 3 → (w.setCell ⟨b, k * 4 + 3, none⟩ (.bool x)).cell? ⟨b, o, none⟩ = w.cell? ⟨b, o, none⟩ := fun o ho => World.cell?_setCell_other (h := fun q => ho (congrArg Addr.off q).symm) ..
  refine ⟨by rw [len]; exact h.hv, by rw [len]; exact h.le, h.mx, ?_, ?_, ?_, ?_, ?_⟩
  · intro j hj; rw [len] at hj; rw [far1 _ (by omega), get j hj, h.c0 j hj]
    by_cases q : j = k
    · subst q; simp
    · rw [if_neg q]
  · intro j hj; rw [len] at hj; rw [far1 _ (by omega), get j hj, h.c1 j hj]
    by_cases q : j = k
    · subst q; simp
    · rw [if_neg q]
  · intro j hj; rw [len] at hj; rw [far1 _ (by omega), get j hj, h.c2 j hj]
    by_cases q : j = k
    · subst q; simp
    · rw [if_neg q]
  · intro j hj; rw [len] at hj; rw [get j hj]
    by_cases q : j = k
    · subst q
      rw [if_pos rfl]
      exact World.cell?_setCell_same _ _ _ (h.c3 j hk)
    · rw [if_neg q, far1 _ (by omega)]; exact h.c3 j hj
  · refine ⟨c.setIfInBounds (k * 4 + 3) (.bool x), ?_, by simpa using hs⟩
    simp [World.setCell, Array.getElem?_modify, hc]
end

end Go.Proofs.YtckallochdegiaaGreat
