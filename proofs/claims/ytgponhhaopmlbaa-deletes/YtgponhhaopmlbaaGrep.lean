import Derived.Test.YtgponhhaopmlbaaCut
import Derived.Test.YtgponhhaopmlbaaSize
import Derived.Test.YtgponhhaopmlbaaEuler
import Derived.Test.YtgponhhaopmlbaaOwns
namespace Go.Proofs.Ytgponhhaopmlbaa
set_option linter.unusedVariables false
set_option linter.unusedSimpArgs false
open Go.RowKit

def gf (n : Nat) (ev : Value) (tb nt tcap : Nat) (pr : Int) : Nat → Value := fun i => if i = 0 then .int .i64 n else if i = 1 then ev else if i = 2 then .slice (some ⟨tb, 0, none⟩) nt tcap else .int .i64 pr

/-- The graph G lies at block g. -/
structure GRep (w : World) (g : Nat) (G : Gr) (ev : Value) (tb tcap : Nat) (F : Nat → Value) (pr : Int) : Prop where
  rg : w.rowIs g 63 4 (gf G.N ev tb G.tours.length tcap pr)
  ed : Edges w ev G.edges
  rt : w.rowIs tb 95 tcap F
  tl : G.tours.length ≤ tcap
  tm : tcap ≤ maxLen
  ti : ∀ i, i < G.tours.length → Lists w (F i) (lv G i)

/-- The blocks that are the graph's own, to be written. -/
def Own (g tb : Nat) (ev : Value) : Nat → Prop := fun k => k = g ∨ k = tb ∨ ev.ownBlock = some k

section
variable {w w' : World} {g : Nat} {G : Gr} {ev : Value} {tb tcap : Nat} {F : Nat → Value} {pr : Int} {i : Nat}

theorem GRep.c0 (h : GRep w g G ev tb tcap F pr) : w.cell? ⟨g, 0, none⟩ = some (.int .i64 G.N) := h.rg.cell (by omega)
theorem GRep.c1 (h : GRep w g G ev tb tcap F pr) : w.cell? ⟨g, 1, none⟩ = some ev := h.rg.cell (by omega)
theorem GRep.c2 (h : GRep w g G ev tb tcap F pr) : w.cell? ⟨g, 2, none⟩ = some (.slice (some ⟨tb, 0, none⟩) G.tours.length tcap) := h.rg.cell (by omega)
theorem GRep.c3 (h : GRep w g G ev tb tcap F pr) : w.cell? ⟨g, 3, none⟩ = some (.int .i64 pr) := h.rg.cell (by omega)

theorem EAt.own {es : List Edg} {b cap : Nat} (h : EAt w ev es b cap) : ev.ownBlock = some b := by rw [h.hv]; rfl
theorem EAt.tya {es : List Edg} {b cap : Nat} (h : EAt w ev es b cap) : TyAt w b 101 := by
  obtain ⟨c, hc, _⟩ := h.ty
  exact ⟨c, hc⟩

/-- Edges stay where their row is not written. -/
theorem Edges.but {S : Nat → Prop} {es : List Edg} (h : Edges w ev es) (b : But S w w') (hS : ∀ k, ev.ownBlock = some k → ¬ S k) : Edges w' ev es := by
  rcases h with h | ⟨eb, cap, h⟩
  · exact Or.inl h
  · exact Or.inr ⟨eb, cap, h.block (b.block eb h.lt (hS eb h.own))⟩


/-- A graph stays where none of its own blocks is written. -/
theorem GRep.but {S : Nat → Prop} (h : GRep w g G ev tb tcap F pr) (b : But S w w') (hS : ∀ k, Own g tb ev k → ¬ S k) (hn : NoTour S w) : GRep w' g G ev tb tcap F pr :=
  ⟨row_but h.rg b (hS g (Or.inl rfl)), h.ed.but b (fun k hk => hS k (Or.inr (Or.inr hk))), row_but h.rt b (hS tb (Or.inr (Or.inl rfl))), h.tl, h.tm, fun i hi => (h.ti i hi).but b hn⟩

theorem GRep.below (h : GRep w g G ev tb tcap F pr) (b : Below w.heap.size w w') : GRep w' g G ev tb tcap F pr :=
  h.but (S := fun _ => False) (But.of b) (fun _ _ q => q) (fun _ q => q.elim)

theorem GRep.lvl (h : GRep w g G ev tb tcap F pr) (hi : i < G.tours.length) : ∃ lb lcap f, F i = .slice (some ⟨lb, 0, none⟩) (lv G i).length lcap ∧ LvAt w g tb tcap G.tours.length i lb lcap (lv G i) f := by
  obtain ⟨lb, lcap, f, hl⟩ := h.ti i hi
  have hv := hl.hv
  refine ⟨lb, lcap, f, hv, h.c2, h.tl, h.tm, hi, ?_, hv ▸ hl⟩
  rw [h.rt.cell (by have := h.tl; omega), hv]

theorem noTour_tb (h : GRep w g G ev tb tcap F pr) : NoTour (fun k => k = tb) w := noTour_one (rowIs_ty h.rt) (by decide) (by decide)

theorem GRep.gtb (h : GRep w g G ev tb tcap F pr) : g ≠ tb := (rowIs_ty h.rg).ne (rowIs_ty h.rt) (by decide)
theorem Edges.notIn {es : List Edg} (h : Edges w ev es) {b t : Nat} (hb : TyAt w b t) (ht : 101 ≠ t) : ∀ k, ev.ownBlock = some k → ¬ k = b := by
  intro k hk q
  rcases h with ⟨rfl, _⟩ | ⟨eb, cap, h⟩
  · simp [Value.ownBlock] at hk
  · rw [h.own] at hk
    simp only [Option.some.injEq] at hk
    exact h.tya.ne hb ht (hk.trans q)

/-- One level's list is replaced. -/
theorem GRep.setT (h : GRep w g G ev tb tcap F pr) (hi : i < G.tours.length) {nv : Value} {ts : List (List Itm)} (hl : Lists w' nv ts) (hr : w'.rowIs tb 95 tcap (fun j => if j = i then nv else F j)) (b : But (fun k => k = tb) w w') :
    GRep w' g (Go.Proofs.Ytgponhhaopmlbaa.setT G i ts) ev tb tcap (fun j => if j = i then nv else F j) pr := by
  have len : (Go.Proofs.Ytgponhhaopmlbaa.setT G i ts).tours.length = G.tours.length := by simp [Go.Proofs.Ytgponhhaopmlbaa.setT]
  refine ⟨?_, h.ed.but b (h.ed.notIn (rowIs_ty h.rt) (by decide)), hr, by rw [len]; exact h.tl, h.tm, ?_⟩
  · rw [len]; exact row_but h.rg b h.gtb
  · intro j hj
    rw [len] at hj
    rw [lv_setT _ _ _ _ hi]
    by_cases c : j = i
    · rw [if_pos c, if_pos c]; exact hl
    · rw [if_neg c, if_neg c]; exact (h.ti j hj).but b (noTour_tb h)

/-- Link, of a graph. -/
theorem Link_G {es : List Edg} (h : GRep w g G ev tb tcap F pr) (hi : i < G.tours.length) (hN : G.N ≤ 48) (L : LI G.N es i (lv G i)) (hE : ∀ e, e ∈ es → 0 ≤ e.u ∧ e.u < G.N ∧ 0 ≤ e.v ∧ e.v < G.N) {u v : Int} (hu0 : 0 ≤ u) (hu1 : u < G.N) (hv0 : 0 ≤ v) (hv1 : v < G.N) :
    Calls Try.prog 86 #[ptr g, .int .i64 i, .int .i64 u, .int .i64 v] w fun e w' => e = .returned (.tuple #[]) ∧ (∃ F', GRep w' g (lnk G i u v) ev tb tcap F' pr) ∧ But (fun k => k = tb) w w' := by
  obtain ⟨lb, lcap, f, hF, hL⟩ := h.lvl hi
  obtain ⟨k, t, hk, e1, e2, ht, _⟩ := L.ix_of hu0 hu1
  obtain ⟨m, s, hm, f1, f2, hs, _⟩ := L.ix_of hv0 hv1
  have l1 := L.len hN hE ht
  have l2 := L.len hN hE hs
  have l3 := L.count
  refine (Link_any g tb tcap G.tours.length i lb lcap (lv G i) f F u v k m w hL h.rt e1 f1 hk hm (by omega) (by rw [e2]; omega) (by rw [f2]; omega)).mono ?_
  rintro e w' ⟨rfl, nv, h1, h2, h3⟩
  have := h.setT hi h1 h2 h3
  refine ⟨rfl, ⟨fun j => if j = i then nv else F j, ?_⟩, h3⟩
  rw [lnk, e1, f1, Int.toNat_natCast, Int.toNat_natCast]
  exact this

/-- cut, of a graph. -/
theorem cut_G {es : List Edg} (h : GRep w g G ev tb tcap F pr) (hi : i < G.tours.length) (hN : G.N ≤ 48) (L : LI G.N es i (lv G i)) (hE : ∀ e, e ∈ es → 0 ≤ e.u ∧ e.u < G.N ∧ 0 ≤ e.v ∧ e.v < G.N) {u v : Int} {ka p : Nat} {t : List Itm} (c : CutFind (lv G i) u v ka p t) :
    Calls Try.prog 65 #[ptr g, .int .i64 i, .int .i64 u, .int .i64 v] w fun e w' => e = .returned (.tuple #[]) ∧ (∃ F', GRep w' g (cutG G i u v) ev tb tcap F' pr) ∧ But (fun k => k = tb) w w' := by
  obtain ⟨lb, lcap, f, hF, hL⟩ := h.lvl hi
  have l1 : ((lv G i)[ka]?.getD []).length ≤ 2352 := L.len hN hE (by rw [get_eq c.hk]; exact List.getElem_mem c.hk)
  have l3 := L.count
  refine (cut_any g tb tcap G.tours.length i lb lcap (lv G i) f F u v ka ka p t w hL h.rt c.iu c.iv c.hk (by omega) (by omega) c.ht c.p1 c.p2 c.at_ c.no).mono ?_
  rintro e w' ⟨rfl, nv, h1, h2, h3⟩
  have := h.setT hi h1 h2 h3
  refine ⟨rfl, ⟨fun j => if j = i then nv else F j, ?_⟩, h3⟩
  rw [cutG, cutL, c.iu, c.iv, Int.toNat_natCast, ← c.ht, ← c.hp]
  exact this

/-- One field of an edge is written: its level. -/
theorem EAt.setLev {es : List Edg} {b cap : Nat} (h : EAt w ev es b cap) {k : Nat} (hk : k < es.length) (x : Int) : EAt (w.setCell ⟨b, k * 4 + 2, none⟩ (.int .i64 x)) ev (es.set k { es[k]?.getD e0 with lev := x }) b cap := by
  have len : (es.set k { es[k]?.getD e0 with lev := x }).length = es.length := by simp
  obtain ⟨c, hc, hs⟩ := h.ty
  have get : ∀ j, j < es.length → (es.set k { es[k]?.getD e0 with lev := x })[j]?.getD e0 = if j = k then { es[k]?.getD e0 with lev := x } else es[j]?.getD e0 := by
    intro j hj
    rw [List.getElem?_set]
    by_cases q : k = j
    · subst q; simp [hk]
    · rw [if_neg q, if_neg (fun p => q p.symm)]
  have far1 : ∀ o, o ≠ k * 4 + 2 → (w.setCell ⟨b, k * 4 + 2, none⟩ (.int .i64 x)).cell? ⟨b, o, none⟩ = w.cell? ⟨b, o, none⟩ := fun o ho => World.cell?_setCell_other (h := fun q => ho (congrArg Addr.off q).symm) ..
  refine ⟨by rw [len]; exact h.hv, by rw [len]; exact h.le, h.mx, ?_, ?_, ?_, ?_, ?_⟩
  · intro j hj; rw [len] at hj; rw [far1 _ (by omega), get j hj, h.c0 j hj]
    by_cases q : j = k
    · subst q; simp
    · rw [if_neg q]
  · intro j hj; rw [len] at hj; rw [far1 _ (by omega), get j hj, h.c1 j hj]
    by_cases q : j = k
    · subst q; simp
    · rw [if_neg q]
  · intro j hj; rw [len] at hj; rw [get j hj]
    by_cases q : j = k
    · subst q
      rw [if_pos rfl]
      exact World.cell?_setCell_same _ _ _ (h.c2 j hk)
    · rw [if_neg q, far1 _ (by omega)]; exact h.c2 j hj
  · intro j hj; rw [len] at hj; rw [far1 _ (by omega), get j hj, h.c3 j hj]
    by_cases q : j = k
    · subst q; simp
    · rw [if_neg q]
  · refine ⟨c.setIfInBounds (k * 4 + 2) (.int .i64 x), ?_, by simpa using hs⟩
    simp [World.setCell, Array.getElem?_modify, hc]

/-- .. its kind. -/
theorem EAt.setTree {es : List Edg} {b cap : Nat} (h : EAt w ev es b cap) {k : Nat} (hk : k < es.length) (x : Bool) : EAt (w.setCell ⟨b, k * 4 + 3, none⟩ (.bool x)) ev (es.set k { es[k]?.getD e0 with tree := x }) b cap := by
  have len : (es.set k { es[k]?.getD e0 with tree := x }).length = es.length := by simp
  obtain ⟨c, hc, hs⟩ := h.ty
  have get : ∀ j, j < es.length → (es.set k { es[k]?.getD e0 with tree := x })[j]?.getD e0 = if j = k then { es[k]?.getD e0 with tree := x } else es[j]?.getD e0 := by
    intro j hj
    rw [List.getElem?_set]
    by_cases q : k = j
    · subst q; simp [hk]
    · rw [if_neg q, if_neg (fun p => q p.symm)]
  have far1 : ∀ o, o ≠ k * 4 + 3 → (w.setCell ⟨b, k * 4 + 3, none⟩ (.bool x)).cell? ⟨b, o, none⟩ = w.cell? ⟨b, o, none⟩ := fun o ho => World.cell?_setCell_other (h := fun q => ho (congrArg Addr.off q).symm) ..
  refine ⟨by rw [len]; exact h.hv, by rw [len]; exact h.le, h.mx, ?_, ?_, ?_, ?_, ?_⟩
  · intro j hj; rw [len] at hj; rw [far1 _ (by omega), get j hj, h.c0 j hj]
    by_cases q : j = k
    · subst q; simp
    · rw [if_neg q]
  · intro j hj; rw [len] at hj; rw [far1 _ (by omega), get j hj, h.c1 j hj]
    by_cases q : j = k
    · subst q; simp
    · rw [if_neg q]
  · intro j hj; rw [len] at hj; rw [far1 _ (by omega), get j hj, h.c2 j hj]
    by_cases q : j = k
    · subst q; simp
    · rw [if_neg q]
  · intro j hj; rw [len] at hj; rw [get j hj]
    by_cases q : j = k
    · subst q
      rw [if_pos rfl]
      exact World.cell?_setCell_same _ _ _ (h.c3 j hk)
    · rw [if_neg q, far1 _ (by omega)]; exact h.c3 j hj
  · refine ⟨c.setIfInBounds (k * 4 + 3) (.bool x), ?_, by simpa using hs⟩
    simp [World.setCell, Array.getElem?_modify, hc]
end

end Go.Proofs.Ytgponhhaopmlbaa
