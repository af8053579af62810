import Derived.Test.YtgponhhaopmlbaaInsertW
import Derived.Test.YtgponhhaopmlbaaTour2
namespace Go.Proofs.Ytgponhhaopmlbaa
set_option linter.unusedVariables false
set_option linter.unusedSimpArgs false
open Go.RowKit

section
variable {w w' : World} {g : Nat} {G : Gr} {ev : Value} {tb tcap : Nat} {F : Nat → Value} {pr : Int} {i : Nat}

theorem Edges.at_ {es : List Edg} (h : Edges w ev es) {k : Nat} (hk : k < es.length) : ∃ eb cap, EAt w ev es eb cap ∧ ev = .slice (some ⟨eb, 0, none⟩) es.length cap := by
  rcases h with ⟨_, rfl⟩ | ⟨eb, cap, h⟩
  · simp at hk
  · exact ⟨eb, cap, h, h.hv⟩

theorem GRep.setLev (h : GRep w g G ev tb tcap F pr) {eb cap k : Nat} (hE : EAt w ev G.edges eb cap) (hk : k < G.edges.length) (x : Int) :
    GRep (w.setCell ⟨eb, k * 4 + 2, none⟩ (.int .i64 x)) g (setE G k { G.edges[k]?.getD e0 with lev := x }) ev tb tcap F pr :=
  h.setEs (Or.inr ⟨eb, cap, hE.setLev hk x⟩) ((But.setCell w ⟨eb, k * 4 + 2, none⟩ (.int .i64 x)).wide (fun j _ q => by rw [hE.own]; show some eb = some j; rw [q]))

theorem GRep.setPr (h : GRep w g G ev tb tcap F pr) (p : Int) : GRep (w.setCell ⟨g, 3, none⟩ (.int .i64 p)) g G ev tb tcap F p := by
  have bs := But.setCell w ⟨g, 3, none⟩ (.int .i64 p)
  have ntg : NoTour (fun k => k = g) w := noTour_one (rowIs_ty h.rg) (by decide) (by decide)
  refine ⟨(h.rg.set 3 _).congr ?_, h.ed.but bs (fun k hk q => h.ed.notIn (rowIs_ty h.rg) (by decide) k hk q), row_but h.rt bs h.gtb.symm, h.tl, h.tm, fun j hj => (h.ti j hj).but bs ntg⟩
  intro j hj
  simp only [gf]
  by_cases q : j = 3
  · subst q; simp
  · simp only [q, if_false]
    match j, hj with
    | 0, _ => simp
    | 1, _ => simp
    | 2, _ => simp
    | 3, _ => exact absurd rfl q

theorem noTour_own (h : GRep w g G ev tb tcap F pr) : NoTour (Own g tb ev) w := by
  intro k hk lt
  rcases hk with rfl | rfl | hk
  · exact ⟨fun q => q.ne (rowIs_ty h.rg) (by decide) rfl, fun q => q.ne (rowIs_ty h.rg) (by decide) rfl⟩
  · exact ⟨fun q => q.ne (rowIs_ty h.rt) (by decide) rfl, fun q => q.ne (rowIs_ty h.rt) (by decide) rfl⟩
  · rcases h.ed with ⟨q, _⟩ | ⟨eb, cap, q⟩
    · rw [q] at hk; simp [Value.ownBlock] at hk
    · rw [q.own] at hk
      simp only [Option.some.injEq] at hk
      subst hk
      exact ⟨fun p => q.tya.ne p (by decide) rfl, fun p => q.tya.ne p (by decide) rfl⟩

/-- Two stores of a rise: the level, the count. -/
theorem GRep.rise2 (h : GRep w g G ev tb tcap F pr) {eb cap k : Nat} (hE : EAt w ev G.edges eb cap) (hk : k < G.edges.length) (x p : Int) :
    GRep ((w.setCell ⟨eb, k * 4 + 2, none⟩ (.int .i64 x)).setCell ⟨g, 3, none⟩ (.int .i64 p)) g (setE G k { G.edges[k]?.getD e0 with lev := x }) ev tb tcap F p ∧
    But (Own g tb ev) w ((w.setCell ⟨eb, k * 4 + 2, none⟩ (.int .i64 x)).setCell ⟨g, 3, none⟩ (.int .i64 p)) := by
  refine ⟨(h.setLev hE hk x).setPr p, ((But.setCell w ⟨eb, k * 4 + 2, none⟩ (.int .i64 x)).wide (fun j _ q => Or.inr (Or.inr (by rw [hE.own]; show some eb = some j; rw [q])))).trans (But.setCell _ ⟨g, 3, none⟩ (.int .i64 p)) (fun _ _ q => Or.inl q)⟩
end

end Go.Proofs.Ytgponhhaopmlbaa
