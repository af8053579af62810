import Derived.Test.YtnmdcogckkkfaaaParts
import Derived.Test.YtnmdcogckkkfaaaSorted
import Derived.Deep.RegionHeld
namespace Go.Proofs.Ytnmdcogckkkfaaa
set_option linter.unusedVariables false
set_option linter.unusedSimpArgs false
open Go.RowKit

/-- A graph of which the tours are not known. -/
structure GW (w : World) (g N : Nat) (es : List Edg) (ev : Value) (tb nt tcap : Nat) (pr : Int) : Prop where
  rg : w.rowIs g 63 4 (gf N ev tb nt tcap pr)
  ed : Edges w ev es
  rt : ∃ F, w.rowIs tb 95 tcap F
  tl : nt ≤ tcap
  tm : tcap ≤ maxLen
  n1 : 1 ≤ N
  n48 : N ≤ 48
  inr : InR N es
  nt6 : nt ≤ 6

section
variable {w w' : World} {g N : Nat} {es : List Edg} {ev : Value} {tb nt tcap : Nat} {pr : Int}
theorem GW.c0 (h : GW w g N es ev tb nt tcap pr) : w.cell? ⟨g, 0, none⟩ = some (.int .i64 N) := h.rg.cell (by omega)
theorem GW.c1 (h : GW w g N es ev tb nt tcap pr) : w.cell? ⟨g, 1, none⟩ = some ev := h.rg.cell (by omega)
theorem GW.c2 (h : GW w g N es ev tb nt tcap pr) : w.cell? ⟨g, 2, none⟩ = some (.slice (some ⟨tb, 0, none⟩) nt tcap) := h.rg.cell (by omega)
theorem GW.below (h : GW w g N es ev tb nt tcap pr) (b : Below w.heap.size w w') : GW w' g N es ev tb nt tcap pr := by
  obtain ⟨F, hF⟩ := h.rt
  exact ⟨row_but (S := fun _ => False) h.rg (But.of b) (fun q => q), h.ed.below b (Nat.le_refl _), ⟨F, row_but (S := fun _ => False) hF (But.of b) (fun q => q)⟩, h.tl, h.tm, h.n1, h.n48, h.inr, h.nt6⟩
theorem GRep.weak {G : Gr} {F : Nat → Value} (h : GRep w g G ev tb tcap F pr) (hI : GI G) : GW w g G.N G.edges ev tb G.tours.length tcap pr :=
  ⟨h.rg, h.ed, ⟨F, h.rt⟩, h.tl, h.tm, hI.n1, hI.n48, fun e he => ⟨⟨(hI.rngE e he).1, (hI.rngE e he).2.1⟩, (hI.rngE e he).2.2⟩, by have := log2_le5 hI.n1 hI.n48; rw [hI.tl]; omega⟩
end

end Go.Proofs.Ytnmdcogckkkfaaa
