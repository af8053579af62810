import Derived.Test.YtckallochdegiaaGreatCut
import Derived.Test.YtckallochdegiaaGreatFind
import Derived.Test.YtckallochdegiaaGreatAppend
namespace Go.Proofs.YtckallochdegiaaGreat
set_option linter.unusedVariables false
set_option linter.unusedSimpArgs false
open Go.RowKit

theorem set_set_edge (es : List Edg) (k : Nat) (hk : k < es.length) (x : Int) :
    (es.set k { es[k]?.getD e0 with tree := true }).set k { (es.set k { es[k]?.getD e0 with tree := true })[k]?.getD e0 with lev := x } = es.set k ⟨(es[k]?.getD e0).u, (es[k]?.getD e0).v, x, true⟩ := by
  rw [List.getElem?_set, if_pos rfl, if_pos hk, List.set_set]; rfl

section
variable {w w' : World} {g : Nat} {G : Gr} {ev : Value} {tb tcap : Nat} {F : Nat → Value} {pr : Int} {i : Nat}

/-- The edges are changed in place. -/
theorem GRep.setEs (h : GRep w g G ev tb tcap F pr) {es : List Edg} (he : Edges w' ev es) (hb : But (fun k => ev.ownBlock = some k) w w') : GRep w' g { G with edges := es } ev tb tcap F pr := by
  have n1 := fun k (hk : ev.ownBlock = some k) => h.ed.notIn (rowIs_ty h.rg) (by decide) k hk
  have n2 := fun k (hk : ev.ownBlock = some k) => h.ed.notIn (rowIs_ty h.rt) (by decide) k hk
  have nt : NoTour (fun k => ev.ownBlock = some k) w := by
    intro k hk _
    rcases h.ed with ⟨q, _⟩ | ⟨eb, cap, q⟩
    · rw [q] at hk; simp [Value.ownBlock] at hk
    · rw [q.own] at hk
      simp only [Option.some.injEq] at hk
      subst hk
      exact ⟨fun p => q.tya.ne p (by decide) rfl, fun p => q.tya.ne p (by decide) rfl⟩
  exact ⟨row_but h.rg hb (fun q => n1 g q rfl), he, row_but h.rt hb (fun q => n2 tb q rfl), h.tl, h.tm, fun j hj => (h.ti j hj).but hb nt⟩
end

set_option maxRecDepth 100000 in
set_option maxHeartbeats 2000000 in
theorem forest_G (w : World) (g tb tcap eb ecap k i : Nat) (G : Gr) (F : Nat → Value) (pr x y : Int) (h : GRep w g G (.slice (some ⟨eb, 0, none⟩) G.edges.length ecap) tb tcap F pr) (hEA : EAt w (.slice (some ⟨eb, 0, none⟩) G.edges.length ecap) G.edges eb ecap)
    (hk : findIx G.edges (min x y) (max x y) = k) (hi : i < G.tours.length) (hN : G.N ≤ 48) (hi6 : i ≤ 6)
    (L : ∀ j, j ≤ i → LI G.N (G.edges.set k ⟨(G.edges[k]?.getD e0).u, (G.edges[k]?.getD e0).v, i, true⟩) j (lv G j))
    (hE : ∀ e, e ∈ G.edges.set k ⟨(G.edges[k]?.getD e0).u, (G.edges[k]?.getD e0).v, i, true⟩ → 0 ≤ e.u ∧ e.u < G.N ∧ 0 ≤ e.v ∧ e.v < G.N) (hx0 : 0 ≤ x) (hx1 : x < G.N) (hy0 : 0 ≤ y) (hy1 : y < G.N) :
    Calls Tryz.prog 97 #[ptr g, .int .i64 x, .int .i64 y, .int .i64 i] w fun e w' => e = .returned (.tuple #[]) ∧ (∃ F', GRep w' g (lnks (setE G k ⟨(G.edges[k]?.getD e0).u, (G.edges[k]?.getD e0).v, i, true⟩) x y (i + 1)) (.slice (some ⟨eb, 0, none⟩) G.edges.length ecap) tb tcap F' pr) ∧ But (fun k => k = tb ∨ k = eb) w w' := by
  obtain ⟨kl, _, _⟩ := find_ge hk
  have HG := hid h
  have HEA := hid hEA
  have HK := hid hk
  have HL := hid L
  have HEr := hid hE
  have e1 := hEA.le
  have e2 := hEA.mx
  unfold maxLen at e2
  clear h hEA hk L hE
  go_enter Tryz.func97, Tryz.ntmps97
  go_wp2_with fail
  refine (Find_any g x y G.edges _ w HG.out.c1 HG.out.ed).mono ?_
  rintro e w1 ⟨rfl, hb1⟩
  rw [HK.out]
  have HG1 := hid (HG.out.below hb1)
  have HE1 := hid (HEA.out.below hb1 (Nat.le_refl _))
  have HB1 := hid hb1
  clear hb1
  have d1 := HG1.out.c1
  have t3 : w1.cell? ⟨eb, k * 4 + 3, none⟩ = some (.bool (G.edges[k]?.getD e0).tree) := HE1.out.c3 k kl
  have fz : ∀ o, w1.frozen? ⟨eb, o, none⟩ = false := by
    intro o
    obtain ⟨c, hc, _⟩ := HE1.out.ty
    simp [World.frozen?, hc]
  have HE2 := hid (HE1.out.setTree kl true)
  have t2 : (w1.setCell ⟨eb, k * 4 + 3, none⟩ (.bool true)).cell? ⟨eb, k * 4 + 2, none⟩ = some (.int .i64 (G.edges[k]?.getD e0).lev) := by
    have := HE2.out.c2 k (by simpa using kl)
    rw [List.getElem?_set, if_pos rfl, if_pos kl] at this
    exact this
  have kf := far (show eb ≠ g from (HE1.out.tya).ne (rowIs_ty HG1.out.rg) (by decide))
  have kli : (k : Int) < (G.edges.length : Int) := by omega
  have HG3 : Hid (GRep ((w1.setCell ⟨eb, k * 4 + 3, none⟩ (.bool true)).setCell ⟨eb, k * 4 + 2, none⟩ (.int .i64 i)) g (setE G k ⟨(G.edges[k]?.getD e0).u, (G.edges[k]?.getD e0).v, i, true⟩) (.slice (some ⟨eb, 0, none⟩) G.edges.length ecap) tb tcap F pr) := by
    have q := HE2.out.setLev (k := k) (by simpa using kl) i
    rw [set_set_edge _ _ kl] at q
    refine HG1.out.setEs (Or.inr ⟨eb, ecap, q⟩) (((But.setCell w1 ⟨eb, k * 4 + 3, none⟩ (.bool true)).same (But.setCell _ ⟨eb, k * 4 + 2, none⟩ (.int .i64 i))).wide ?_)
    intro j _ hj
    show some eb = some j
    rw [hj]
  have HB3 : Hid (But (fun k => k = tb ∨ k = eb) w ((w1.setCell ⟨eb, k * 4 + 3, none⟩ (.bool true)).setCell ⟨eb, k * 4 + 2, none⟩ (.int .i64 i))) :=
    (But.of HB1.out).trans ((But.setCell w1 ⟨eb, k * 4 + 3, none⟩ (.bool true)).same (But.setCell _ ⟨eb, k * 4 + 2, none⟩ (.int .i64 i))) (fun j _ q => Or.inr q)
  go_wp2_with fail
  clear d1 t3 fz t2 kf HE2 HG1 HE1
  generalize (w1.setCell ⟨eb, k * 4 + 3, none⟩ (.bool true)).setCell ⟨eb, k * 4 + 2, none⟩ (.int .i64 i) = w3 at HG3 HB3 ⊢
  obtain ⟨G1, hG1⟩ : ∃ G1, G1 = setE G k ⟨(G.edges[k]?.getD e0).u, (G.edges[k]?.getD e0).v, i, true⟩ := ⟨_, rfl⟩
  have len1 : G1.tours.length = G.tours.length := by rw [hG1]; rfl
  have n1 : G1.N = G.N := by rw [hG1]; rfl
  have lv1 : ∀ j, lv G1 j = lv G j := fun j => by rw [hG1]; rfl
  rw [← hG1] at HG3
  have HG1' := hid hG1
  clear hG1
  have HS := hid (And.intro len1 (And.intro n1 lv1))
  clear len1 n1 lv1
  go_loopw [9] (fun q wr => ∃ m : Nat, m ≤ i + 1 ∧ q = .int .i64 m ∧ Hid (∃ F', GRep wr g (lnks G1 x y m) (.slice (some ⟨eb, 0, none⟩) G.edges.length ecap) tb tcap F' pr) ∧ Hid (But (fun k => k = tb ∨ k = eb) w wr)) (fun q _ => i + 1 - (intOf q).toNat)
  case atStart => exact ⟨0, by omega, rfl, ⟨F, HG3.out⟩, HB3⟩
  case round =>
    obtain ⟨m, hm, rfl, hG, hB⟩ := hrel
    by_cases hlt : m ≤ i
    · have hlt' : (m : Int) ≤ (i : Int) := by omega
      obtain ⟨F', hG'⟩ := hG.out
      have HGm := hid hG'
      clear hG' hG
      go_wp2_with fail
      obtain ⟨len1, n1, lv1⟩ := HS.out
      have lvm : lv (lnks G1 x y m) m = lv G m := by rw [lnks_lv _ _ _ _ (by omega), if_neg (Nat.lt_irrefl m), lv1]
      refine (Link_G (es := G.edges.set k ⟨(G.edges[k]?.getD e0).u, (G.edges[k]?.getD e0).v, i, true⟩) HGm.out (i := m) (by rw [lnks_len]; omega) (by rw [lnks_N, n1]; exact hN) (by rw [lvm, lnks_N, n1]; exact HL.out m hlt) (by rw [lnks_N, n1]; exact HEr.out) hx0 (by rw [lnks_N, n1]; exact hx1) hy0 (by rw [lnks_N, n1]; exact hy1)).mono ?_
      rintro e w4 ⟨rfl, hF4, hB4⟩
      have HF4 : Hid (∃ F', GRep w4 g (lnks G1 x y (m + 1)) (.slice (some ⟨eb, 0, none⟩) G.edges.length ecap) tb tcap F' pr) := hF4
      have HB5 : Hid (But (fun k => k = tb ∨ k = eb) w w4) := hB.out.trans hB4 (fun _ _ q => Or.inl q)
      clear hF4 hB4 lvm len1 n1 lv1 hB HGm
      go_wp2
      go_roundw
      case rel => exact ⟨m + 1, by omega, by go_num, HF4, HB5⟩
      case measure => simp [intOf]; omega
    · have hmi : m = i + 1 := by omega
      have HR : Hid ((∃ F', GRep wr g (lnks (setE G k ⟨(G.edges[k]?.getD e0).u, (G.edges[k]?.getD e0).v, i, true⟩) x y (i + 1)) (.slice (some ⟨eb, 0, none⟩) G.edges.length ecap) tb tcap F' pr) ∧ But (fun k => k = tb ∨ k = eb) w wr) := by
        rw [← HG1'.out, ← hmi]; exact ⟨hG.out, hB.out⟩
      clear hmi hG hB
      go_wp2
      go_end0
      exact ⟨rfl, HR.out.1, HR.out.2⟩

end Go.Proofs.YtckallochdegiaaGreat
namespace Go.Proofs.YtckallochdegiaaGreat
set_option linter.unusedVariables false
set_option linter.unusedSimpArgs false
open Go.RowKit

def eCells (es : List Edg) : List Value := es.flatMap Edg.cells
theorem eCells_length (es : List Edg) : (eCells es).length = es.length * 4 := by
  induction es with
  | nil => rfl
  | cons a l ih => simp only [eCells, List.flatMap_cons, List.length_append, Edg.cells, List.length_cons, List.length_nil] at *; omega
theorem eCells_append (a b : List Edg) : eCells (a ++ b) = eCells a ++ eCells b := by simp [eCells]
theorem eCells_get (es : List Edg) (i r : Nat) (hi : i < es.length) (hr : r < 4) : (eCells es)[i * 4 + r]? = ((es[i]?.getD e0).cells)[r]? := by
  induction es generalizing i with
  | nil => simp at hi
  | cons a l ih =>
    have e : eCells (a :: l) = a.cells ++ eCells l := by simp [eCells]
    have la : a.cells.length = 4 := rfl
    rw [e]
    cases i with
    | zero => rw [List.getElem?_append_left (by omega)]; simp
    | succ i =>
      rw [List.getElem?_append_right (by omega), la, show (i + 1) * 4 + r - 4 = i * 4 + r by omega, ih i (by simpa using hi)]
      simp

section
variable {w w' : World} {v : Value} {es : List Edg} {b cap : Nat}

theorem EAt.cells (h : EAt w v es b cap) (j : Nat) (u : Value) (hj : (eCells es)[j]? = some u) : w.cell? ⟨b, j, none⟩ = some u := by
  have hlt : j < es.length * 4 := by
    have := (List.getElem?_eq_some_iff.1 hj).1
    rw [eCells_length] at this; exact this
  obtain ⟨i, r, rfl, hr⟩ : ∃ i r, j = i * 4 + r ∧ r < 4 := ⟨j / 4, j % 4, by omega, by omega⟩
  have hi : i < es.length := by omega
  rw [eCells_get es i r hi hr] at hj
  match r, hr with
  | 0, _ => rw [← hj]; exact h.c0 i hi
  | 1, _ => rw [← hj]; exact h.c1 i hi
  | 2, _ => rw [← hj]; exact h.c2 i hi
  | 3, _ => rw [← hj]; exact h.c3 i hi

theorem EAt.owns (h : EAt w v es b cap) : w.ownsRow 0 89 4 v es.length (eCells es) := by
  obtain ⟨c, hc, hs⟩ := h.ty
  refine ⟨eCells_length es, Or.inr ⟨b, cap, c, h.hv, Nat.zero_le _, hc, h.le, h.mx, hs, ?_⟩⟩
  have hle := h.le
  apply List.ext_getElem?
  intro j
  by_cases hj : j < es.length * 4
  · rw [List.getElem?_take, if_pos hj]
    obtain ⟨u, hu⟩ : ∃ u, (eCells es)[j]? = some u := ⟨_, List.getElem?_eq_getElem (by rw [eCells_length]; exact hj)⟩
    have := h.cells j u hu
    rw [hu]
    simp only [World.cell?, hc] at this
    simpa using this
  · rw [List.getElem?_take, if_neg hj, List.getElem?_eq_none (by rw [eCells_length]; omega)]

theorem eat_of_owns {B : Nat} (h : w.ownsRow B 89 4 v es.length (eCells es)) (hne : es ≠ []) : ∃ b cap, EAt w v es b cap ∧ B ≤ b := by
  have hc := fun g hg => h.cells (g := g) hg
  rcases h.2 with ⟨_, h0⟩ | ⟨g, cap, cur, hv, hB, hg, hle, hmx, hsz, _⟩
  · exact absurd (List.eq_nil_of_length_eq_zero h0) hne
  · have get : ∀ i r, i < es.length → r < 4 → ∀ u, ((es[i]?.getD e0).cells)[r]? = some u → w.cell? ⟨g, i * 4 + r, none⟩ = some u := by
      intro i r hi hr u hu
      have := hc g (by rw [hv]; rfl) (i * 4 + r) u (by rw [eCells_get es i r hi hr]; exact hu)
      rw [addr_add, Nat.zero_add] at this; exact this
    exact ⟨g, cap, ⟨hv, hle, hmx, fun i hi => get i 0 hi (by omega) _ rfl, fun i hi => get i 1 hi (by omega) _ rfl, fun i hi => get i 2 hi (by omega) _ rfl, fun i hi => get i 3 hi (by omega) _ rfl, cur, hg, hsz⟩, hB⟩

theorem Edges.owns (h : Edges w v es) : w.ownsRow 0 89 4 v es.length (eCells es) := by
  rcases h with ⟨rfl, rfl⟩ | ⟨b, cap, h⟩
  · exact World.ownsRow_nil _ _ _ _
  · exact h.owns
end

theorem edge_cells (w : World) (a b : Int) (j : Nat) (y : Value) (h : (eCells [⟨a, b, 0, false⟩])[j]? = some y) : (w.alloc (.cells #[.int .i64 a, .int .i64 b, .int .i64 0, .bool false] 89)).cell? ((⟨w.heap.size, 0, none⟩ : Addr).add j) = some y := by
  rw [addr_add, Nat.zero_add, new_cell]
  simpa [eCells, Edg.cells] using h
theorem edges_one (es : List Edg) (u : Value) (h : u ∈ eCells es) : u.oneCell' = true := by
  simp only [eCells, List.mem_flatMap] at h
  obtain ⟨x, _, hx⟩ := h
  simp only [Edg.cells, List.mem_cons, List.not_mem_nil, or_false] at hx
  rcases hx with rfl | rfl | rfl | rfl <;> rfl

theorem Tryz.info89 : (Tryz.prog.info? 89).map (fun i => (i.zero, i.size, i.bytes)) = some (some (.agg #[.int .i64 0, .int .i64 0, .int .i64 0, .bool false]), 4, 32) := by kernel_rfl

/-- What the append of an edge and the store of the new slice leave. -/
theorem ins_mem {w1 w2 : World} {g tb tcap : Nat} {G : Gr} {ev v2 : Value} {F : Nat → Value} {pr u v : Int} {o : Obj} (h : GRep w1 g G ev tb tcap F pr)
    (ho : w2.ownsRow 0 89 4 v2 (G.edges.length + 1) (eCells G.edges ++ eCells [⟨min u v, max u v, 0, false⟩])) (hg : (w1.alloc o).grownBy w2 ev.ownBlock) (hk : ∀ k, v2.ownBlock = some k → ev.ownBlock = some k ∨ (w1.alloc o).heap.size ≤ k) :
    ∃ eb cap, v2 = .slice (some ⟨eb, 0, none⟩) (G.edges.length + 1) cap ∧ w2.rowIs g 45 4 (gf G.N ev tb G.tours.length tcap pr) ∧
      GRep (w2.setCell ⟨g, 1, none⟩ v2) g (addE G u v) v2 tb tcap F pr ∧ EAt (w2.setCell ⟨g, 1, none⟩ v2) v2 (addE G u v).edges eb cap ∧ But (Own g tb ev) w1 (w2.setCell ⟨g, 1, none⟩ v2) ∧ (∀ k, v2.ownBlock = some k → ev.ownBlock = some k ∨ w1.heap.size ≤ k) := by
  have len : (addE G u v).edges.length = G.edges.length + 1 := by simp [addE]
  rw [← eCells_append, show G.edges ++ [⟨min u v, max u v, 0, false⟩] = (addE G u v).edges from rfl, ← len] at ho
  obtain ⟨eb, cap, hE, _⟩ := eat_of_owns ho (by simp [addE])
  have b1 : But (Own g tb ev) w1 w2 := (But.of ((Below.refl _ _).alloc (Nat.le_refl _) o)).trans (But.grown hg) (fun i _ q => Or.inr (Or.inr q.symm))
  have b1' : But (fun k => ev.ownBlock = some k) w1 w2 := (But.of ((Below.refl _ _).alloc (Nat.le_refl _) o)).trans (But.grown hg) (fun i _ q => q.symm)
  have n1 := fun k (hk : ev.ownBlock = some k) => h.ed.notIn (rowIs_ty h.rg) (by decide) k hk
  have n2 := fun k (hk : ev.ownBlock = some k) => h.ed.notIn (rowIs_ty h.rt) (by decide) k hk
  have r2 : w2.rowIs g 45 4 (gf G.N ev tb G.tours.length tcap pr) := row_but h.rg b1' (fun q => n1 g q rfl)
  have t2 : w2.rowIs tb 115 tcap F := row_but h.rt b1' (fun q => n2 tb q rfl)
  have nt : NoTour (fun k => ev.ownBlock = some k) w1 := by
    intro k hk _
    rcases h.ed with ⟨q, _⟩ | ⟨eb, cap, q⟩
    · rw [q] at hk; simp [Value.ownBlock] at hk
    · rw [q.own] at hk
      simp only [Option.some.injEq] at hk
      subst hk
      exact ⟨fun p => q.tya.ne p (by decide) rfl, fun p => q.tya.ne p (by decide) rfl⟩
  have bs := But.setCell w2 ⟨g, 1, none⟩ v2
  have ntg : NoTour (fun k => k = g) w2 := noTour_one (rowIs_ty r2) (by decide) (by decide)
  have eg : eb ≠ g := hE.tya.ne (rowIs_ty r2) (by decide)
  have hE3 : EAt (w2.setCell ⟨g, 1, none⟩ v2) v2 (addE G u v).edges eb cap := hE.block (bs.block eb hE.lt eg)
  refine ⟨eb, cap, by rw [hE.hv, len], r2, ⟨?_, Or.inr ⟨eb, cap, hE3⟩, row_but t2 bs h.gtb.symm, h.tl, h.tm, fun i hi => ((h.ti i hi).but b1' nt).but bs ntg⟩, hE3, b1.trans bs (fun _ _ q => Or.inl q), fun k q => ?_⟩
  · refine (r2.set 1 v2).congr ?_
    intro i hi
    simp only [gf]
    by_cases q : i = 1
    · subst q; simp
    · simp [q, addE]
  · rcases hk k q with p | p
    · exact Or.inl p
    · simp at p; exact Or.inr (by omega)

theorem edge_mm1 {u v : Int} (h : u < v) : (⟨u, v, 0, false⟩ : Edg) = ⟨min u v, max u v, 0, false⟩ := by rw [Int.min_eq_left (by omega), Int.max_eq_right (by omega)]
theorem edge_mm2 {u v : Int} (h : v < u) : (⟨v, u, 0, false⟩ : Edg) = ⟨min u v, max u v, 0, false⟩ := by rw [Int.min_eq_right (by omega), Int.max_eq_left (by omega)]

set_option maxRecDepth 100000 in
set_option maxHeartbeats 2000000 in
theorem Insert_G (w : World) (g tb tcap : Nat) (G : Gr) (ev : Value) (F : Nat → Value) (pr u v : Int) (h : GRep w g G ev tb tcap F pr) (hI : GI G) (hns : NS G)
    (hu0 : 0 ≤ u) (hu1 : u < G.N) (hv0 : 0 ≤ v) (hv1 : v < G.N) (hne : u ≠ v) (hno : findIx G.edges (min u v) (max u v) = -1) :
    Calls Tryz.prog 65 #[ptr g, .int .i64 u, .int .i64 v] w fun e w' => e = .returned (.tuple #[]) ∧ (∃ c ev' F', (c = true ↔ Rch G.edges false 0 u v) ∧ GRep w' g (insG G u v (!c)) ev' tb tcap F' pr ∧ (∀ k, ev'.ownBlock = some k → ev.ownBlock = some k ∨ w.heap.size ≤ k)) ∧ But (Own g tb ev) w w' := by
  have n48 := hI.n48
  have el := hI.elen
  have HG := hid h
  have HI := hid hI
  have HN := hid hns
  have HNo := hid hno
  clear h hI hns hno
  obtain ⟨i93, q0, q1, q2, q3⟩ := info_parts Tryz.info89
  go_enter Tryz.func65, Tryz.ntmps65
  go_wp2_with fail
  refine (Connected_any g G.N u v G.edges ev w HG.out.c0 HG.out.c1 HG.out.ed n48 hu0 hu1 hv0 hv1 (fun e he => ⟨⟨(HI.out.rngE e he).1, (HI.out.rngE e he).2.1⟩, (HI.out.rngE e he).2.2⟩)).mono ?_
  rintro e w1 ⟨c, rfl, hc, hb1⟩
  have HC := hid hc
  have HG1 := hid (HG.out.below hb1)
  have HB1 := hid hb1
  clear hc hb1
  have d1 := HG1.out.c1
  have HO := hid HG1.out.ed.owns
  have HM : Hid (G.edges.length + 1 ≤ maxLen) := by show _ ≤ _; unfold maxLen; omega
  have hd : (u < v ∧ ¬ v < u) ∨ (v < u ∧ ¬ u < v) := by omega
  rcases hd with ⟨hd1, hd2⟩ | ⟨hd1, hd2⟩
  · have HMM := hid (edge_mm1 hd1)
    cases c
    all_goals
      go_wp2_with (at_builtin; refine wpList_append_kept _ rfl (.tmp 16) (.tmp 24) 42 rfl 89 i93 _ 4 32 Tryz.underlying42 q0 q1 q2 q3 rfl (by decide) ev G.edges.length _ rfl (HO.out.alloc _) ⟨w1.heap.size, 0, none⟩ 1 1 (eCells [⟨u, v, 0, false⟩]) rfl rfl (edge_cells w1 u v) (edges_one _) HM.out (by omega) ?_; intro v2 w2 ho2 hg2 hk2; rw [HMM.out] at ho2; obtain ⟨eb, cap, hv2, r2, G3, E3, B3, K3⟩ := ins_mem HG1.out ho2 hg2 hk2; have HG3 := hid G3; have HE3 := hid E3; have HB3 := hid B3; have HK3 := hid K3; have c1 : w2.cell? ⟨g, 1, none⟩ = some ev := r2.cell (by omega); have fz := r2.frozen; clear ho2 hg2 hk2 G3 E3 B3 K3 r2; subst hv2)
    · generalize w2.setCell ⟨g, 1, none⟩ (.slice (some ⟨eb, 0, none⟩) (G.edges.length + 1) cap) = w3 at HG3 HE3 HB3 ⊢
      clear c1 fz d1
      obtain ⟨_, _, ga, li0⟩ := ins_ok HI.out HN.out hu0 hu1 hv0 hv1 hne HNo.out HC.out
      have len : (addE G u v).edges.length = G.edges.length + 1 := by simp [addE]
      have eqn : (⟨((addE G u v).edges[G.edges.length]?.getD e0).u, ((addE G u v).edges[G.edges.length]?.getD e0).v, ((0 : Nat) : Int), true⟩ : Edg) = ⟨min u v, max u v, 0, true⟩ := by rw [add_get]; rfl
      rw [← len] at HG3 HE3
      refine (forest_G w3 g tb tcap eb cap G.edges.length 0 (addE G u v) F pr u v HG3.out HE3.out (find_add HNo.out) (by show 0 < G.tours.length; rw [HI.out.tl]; omega) n48 (by omega) (by intro j hj; rw [Nat.le_zero.1 hj, eqn]; exact li0 rfl) (by
        rw [eqn]
        intro e he
        rcases mem_set he with rfl | ⟨j, hj, _, rfl⟩
        · show 0 ≤ min u v ∧ min u v < (G.N : Int) ∧ 0 ≤ max u v ∧ max u v < (G.N : Int); omega
        · exact ga.rngE _ (by rw [get_eq hj]; exact List.getElem_mem hj)) hu0 hu1 hv0 hv1).mono ?_
      rintro e w4 ⟨rfl, ⟨F4, h4⟩, b4⟩
      rw [eqn] at h4
      have HG4 := hid h4
      have HB4 := hid b4
      clear h4 b4 li0 ga eqn
      go_wp2
      go_end0
      refine ⟨rfl, ⟨false, _, F4, HC.out, HG4.out, fun k q => ?_⟩, ?_⟩
      · rcases HK3.out k q with p | p
        · exact Or.inl p
        · exact Or.inr (Nat.le_trans HB1.out.size p)
      · refine (But.of HB1.out).trans (HB3.out.trans HB4.out (fun i hi q => ?_)) (fun i hi q => q)
        rcases q with q | q
        · exact Or.inr (Or.inl q)
        · rcases HK3.out eb rfl with p | p
          · exact Or.inr (Or.inr (by rw [q]; exact p))
          · omega
    · go_end0
      exact ⟨rfl, ⟨true, _, F, (by have := HC.out; simpa using this), HG3.out, fun k q => (HK3.out k q).imp id (fun p => Nat.le_trans HB1.out.size p)⟩, (But.of HB1.out).trans HB3.out (fun _ _ q => q)⟩
  · have HMM := hid (edge_mm2 hd1)
    cases c
    all_goals
      go_wp2_with (at_builtin; refine wpList_append_kept _ rfl (.tmp 16) (.tmp 24) 42 rfl 89 i93 _ 4 32 Tryz.underlying42 q0 q1 q2 q3 rfl (by decide) ev G.edges.length _ rfl (HO.out.alloc _) ⟨w1.heap.size, 0, none⟩ 1 1 (eCells [⟨v, u, 0, false⟩]) rfl rfl (edge_cells w1 v u) (edges_one _) HM.out (by omega) ?_; intro v2 w2 ho2 hg2 hk2; rw [HMM.out] at ho2; obtain ⟨eb, cap, hv2, r2, G3, E3, B3, K3⟩ := ins_mem HG1.out ho2 hg2 hk2; have HG3 := hid G3; have HE3 := hid E3; have HB3 := hid B3; have HK3 := hid K3; have c1 : w2.cell? ⟨g, 1, none⟩ = some ev := r2.cell (by omega); have fz := r2.frozen; clear ho2 hg2 hk2 G3 E3 B3 K3 r2; subst hv2)
    · generalize w2.setCell ⟨g, 1, none⟩ (.slice (some ⟨eb, 0, none⟩) (G.edges.length + 1) cap) = w3 at HG3 HE3 HB3 ⊢
      clear c1 fz d1
      obtain ⟨_, _, ga, li0⟩ := ins_ok HI.out HN.out hu0 hu1 hv0 hv1 hne HNo.out HC.out
      have len : (addE G u v).edges.length = G.edges.length + 1 := by simp [addE]
      have eqn : (⟨((addE G u v).edges[G.edges.length]?.getD e0).u, ((addE G u v).edges[G.edges.length]?.getD e0).v, ((0 : Nat) : Int), true⟩ : Edg) = ⟨min u v, max u v, 0, true⟩ := by rw [add_get]; rfl
      rw [← len] at HG3 HE3
      refine (forest_G w3 g tb tcap eb cap G.edges.length 0 (addE G u v) F pr u v HG3.out HE3.out (find_add HNo.out) (by show 0 < G.tours.length; rw [HI.out.tl]; omega) n48 (by omega) (by intro j hj; rw [Nat.le_zero.1 hj, eqn]; exact li0 rfl) (by
        rw [eqn]
        intro e he
        rcases mem_set he with rfl | ⟨j, hj, _, rfl⟩
        · show 0 ≤ min u v ∧ min u v < (G.N : Int) ∧ 0 ≤ max u v ∧ max u v < (G.N : Int); omega
        · exact ga.rngE _ (by rw [get_eq hj]; exact List.getElem_mem hj)) hu0 hu1 hv0 hv1).mono ?_
      rintro e w4 ⟨rfl, ⟨F4, h4⟩, b4⟩
      rw [eqn] at h4
      have HG4 := hid h4
      have HB4 := hid b4
      clear h4 b4 li0 ga eqn
      go_wp2
      go_end0
      refine ⟨rfl, ⟨false, _, F4, HC.out, HG4.out, fun k q => ?_⟩, ?_⟩
      · rcases HK3.out k q with p | p
        · exact Or.inl p
        · exact Or.inr (Nat.le_trans HB1.out.size p)
      · refine (But.of HB1.out).trans (HB3.out.trans HB4.out (fun i hi q => ?_)) (fun i hi q => q)
        rcases q with q | q
        · exact Or.inr (Or.inl q)
        · rcases HK3.out eb rfl with p | p
          · exact Or.inr (Or.inr (by rw [q]; exact p))
          · omega
    · go_end0
      exact ⟨rfl, ⟨true, _, F, (by have := HC.out; simpa using this), HG3.out, fun k q => (HK3.out k q).imp id (fun p => Nat.le_trans HB1.out.size p)⟩, (But.of HB1.out).trans HB3.out (fun _ _ q => q)⟩

end Go.Proofs.YtckallochdegiaaGreat
