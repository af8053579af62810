import Derived.Test.YtckallochdegiabKpC
import Derived.Test.YtckallochdegiabSvA
import Derived.Test.YtckallochdegiabLdA
namespace Go.Proofs.Ytckallochdegiab
set_option linter.unusedVariables false
set_option linter.unusedSimpArgs false
open Go.RowKit

/-- An index of a graph is one of every graph that is alike. -/
theorem IdxG.alike {w : World} {b : Nat} {G G' : Gr} {pr : Int} (h : IdxG w b G' pr) (k : Alike G G') (hI : GI G) (hI' : GI G') : IdxG w b G pr := by
  obtain ⟨R, F, h1, h2⟩ := h
  refine ⟨R, F, ?_, k.sim hI h2⟩
  have h3 := h1.congr (E' := look G.edges) (R' := R) (fun u v _ _ => look_congr hI.nd hI'.nd k.ed u v) (fun _ _ _ _ => rfl)
  rw [k.n] at h3
  exact h3

/-- What is loaded out of an index's bytes is an index of the same graph. -/
theorem load_same {w w' : World} {G : Gr} {e : Ending} (hI : GI G) (hn : NS G) (h : LoadR (bytesB G) w e w') : ∃ b, e = .returned (.tuple #[ptr b, .int .i64 0]) ∧ w.heap.size ≤ b ∧ IdxG w' b G 0 ∧ Below w.heap.size w w' := by
  obtain ⟨p, h1, h2, _, h4⟩ := h
  obtain ⟨G', r, al⟩ := readF_back hI hn
  obtain ⟨b, b1, b2, b3⟩ := h4 G' (by rw [r])
  refine ⟨b, ?_, b2, b3.alike al hI (readF_good r).2.1, h2⟩
  rw [h1, r, b1]; rfl

/-- Another second index. -/
theorem Inv.second {w : World} {g : Gh} {W n : Nat} {E : Nat → Nat → Bool} {G : Gr} {pr : Int} (h : Inv w g W n E G pr) {x : Nat} {qr : Int} (hx : IdxG w x G qr) : Inv (w.setCell ⟨W, 2, none⟩ (ptr x)) { g with b := x } W n E G pr := by
  have bs := But.setCell w ⟨W, 2, none⟩ (ptr x)
  have c := h.core
  have tW := c.tW
  obtain ⟨k, hk⟩ := c.rW
  refine ⟨⟨⟨k, (hk.set 2 _).congr (fun i hi => ?_)⟩, fun u hu => cell_but (c.re u hu) bs (fun q => c.te.ne tW (by decide) q), fun u hu => cell_but (c.rl u hu) bs (fun q => c.tl.ne tW (by decide) q), ty_but c.te bs (fun q => c.te.ne tW (by decide) q), ty_but c.tl bs (fun q => c.tl.ne tW (by decide) q), fun u hu => row_but (c.ce u hu) bs (fun q => (rowIs_ty (c.ce u hu)).ne tW (by decide) q), fun u hu => ?_⟩, idx_set h.ia tW (by decide) (by decide) _, ⟨qr, idx_set hx tW (by decide) (by decide) _⟩, h.gn, h.gi, h.ns, h.ad⟩
  · simp only [wf]
    have : i = 0 ∨ i = 1 ∨ i = 2 ∨ i = 3 ∨ i = 4 ∨ i = 5 := by omega
    rcases this with rfl | rfl | rfl | rfl | rfl | rfl <;> simp
  · obtain ⟨f, hf⟩ := c.cl u hu
    exact ⟨f, row_but hf bs (fun q => (rowIs_ty hf).ne tW (by decide) q)⟩
theorem Apart.second {g : Gh} {W B n x : Nat} (h : Apart g W B n) (h1 : g.a ≠ x) (h2 : B ≤ x) : Apart { g with b := x } W B n :=
  ⟨h1, h.ie, h.il, h.n48, h.n1, h.bW, h.ba, h2, h.ber, h.blr, h.ec, h.lc⟩
theorem LX.second {w : World} {g : Gh} {W n K x : Nat} {G : Gr} {pr : Int} {E : Nat → Nat → Bool} (h : LX w g W n G pr K) (hc : Core w g W n E) : LX (w.setCell ⟨W, 2, none⟩ (ptr x)) { g with b := x } W n G pr K := by
  obtain ⟨c, T, h1, h2, h3, h4⟩ := h
  have bs := But.setCell w ⟨W, 2, none⟩ (ptr x)
  refine ⟨c, T, h1, ⟨?_, fun u hu => row_but (h2.rows u hu) bs (fun q => (rowIs_ty (h2.rows u hu)).ne hc.tW (by decide) q)⟩, h3, h4⟩
  rw [World.cell?_setCell_other (h := fun e => by have := congrArg Addr.off e; simp at this)]
  exact h2.c5

end Go.Proofs.Ytckallochdegiab
