import Derived.Test.YtckallochdegiaaGreatWithout
namespace Go.Proofs.YtckallochdegiaaGreat
set_option linter.unusedVariables false
set_option linter.unusedSimpArgs false
open Go.RowKit

/-- Of the blocks that were there none has turned but those of S. -/
structure But (S : Nat → Prop) (w w' : World) : Prop where
  os : w'.os = w.os
  tape : w'.tape = w.tape
  output : w'.output = w.output
  size : w.heap.size ≤ w'.heap.size
  block : ∀ k, k < w.heap.size → ¬ S k → w'.heap[k]? = w.heap[k]?

section
variable {S S' : Nat → Prop} {w w1 w2 : World} {B : Nat}

theorem But.refl (S : Nat → Prop) (w : World) : But S w w := ⟨rfl, rfl, rfl, Nat.le_refl _, fun _ _ _ => rfl⟩
theorem But.of (h : Below w.heap.size w w1) : But S w w1 := ⟨h.os, h.tape, h.output, h.size, fun k hk _ => h.block k hk⟩
theorem But.trans (h : But S w w1) (k : But S' w1 w2) (hs : ∀ i, i < w.heap.size → S' i → S i) : But S w w2 :=
  ⟨k.os.trans h.os, k.tape.trans h.tape, k.output.trans h.output, Nat.le_trans h.size k.size, fun i hi hn => (k.block i (Nat.lt_of_lt_of_le hi h.size) (fun q => hn (hs i hi q))).trans (h.block i hi hn)⟩
theorem But.same (h : But S w w1) (k : But S w1 w2) : But S w w2 := h.trans k (fun _ _ q => q)
theorem But.wide (h : But S w w1) (hs : ∀ i, i < w.heap.size → S i → S' i) : But S' w w1 := ⟨h.os, h.tape, h.output, h.size, fun k hk hn => h.block k hk (fun q => hn (hs k hk q))⟩
theorem But.below (h : But S w w1) (hs : ∀ k, S k → B ≤ k) (hB : B ≤ w.heap.size) : Below B w w1 :=
  ⟨h.os, h.tape, h.output, h.size, fun k hk => h.block k (by omega) (fun q => by have := hs k q; omega)⟩
theorem But.setCell (w : World) (a : Addr) (v : Value) : But (fun k => k = a.block) w (w.setCell a v) :=
  ⟨rfl, rfl, rfl, by simp [World.setCell], fun k _ hn => Below.heap_setCell _ _ _ _ hn⟩
theorem But.grown {row : Option Nat} (g : w.grownBy w1 row) : But (fun k => some k = row) w w1 := ⟨g.os, g.tape, g.output, g.size, fun k hk hn => g.block k hk hn⟩
theorem But.drew (h : But S w w1) : But S w w1.drew := ⟨h.os, h.tape, h.output, h.size, h.block⟩
theorem But.alloc (h : But S w w1) (o : Obj) : But S w (w1.alloc o) := h.trans (S' := S) (But.of ((Below.refl _ _).alloc (Nat.le_refl _) o)) (fun _ _ q => q)

/-- The type of a block. -/
def TyAt (w : World) (b t : Nat) : Prop := ∃ c, w.heap[b]? = some (.cells c t (0, 0))
theorem TyAt.ne {b b' t t' : Nat} (h : TyAt w b t) (k : TyAt w b' t') (e : t ≠ t') : b ≠ b' := by
  rintro rfl
  obtain ⟨c, hc⟩ := h
  obtain ⟨d, hd⟩ := k
  rw [hc] at hd
  simp only [Option.some.injEq, Obj.cells.injEq] at hd
  exact e hd.2.1
theorem TyAt.lt {b t : Nat} (h : TyAt w b t) : b < w.heap.size := by
  obtain ⟨c, hc⟩ := h
  exact (Array.getElem?_eq_some_iff.1 hc).1
theorem rowIs_ty {b t n : Nat} {f : Nat → Value} (h : w.rowIs b t n f) : TyAt w b t := ⟨_, h.choose_spec.1⟩

/-- S holds no block of items or of tours. -/
def NoTour (S : Nat → Prop) (w : World) : Prop := ∀ k, S k → k < w.heap.size → ¬ TyAt w k 71 ∧ ¬ TyAt w k 68

theorem Items.but {v : Value} {l : List Itm} (h : Items w v l) (b : But S w w1) (hS : NoTour S w) : Items w1 v l := by
  obtain ⟨x, o, cap, h⟩ := h
  refine ⟨x, o, cap, h.block (b.block x h.lt (fun q => ?_))⟩
  exact (hS x q h.lt).1 h.ty

theorem ListAt.but {v : Value} {ts : List (List Itm)} {b cap : Nat} {f : Nat → Value} (h : ListAt w v ts b cap f) (k : But S w w1) (hS : NoTour S w) : ListAt w1 v ts b cap f := by
  have lt : b < w.heap.size := TyAt.lt h.ty
  have e : w1.heap[b]? = w.heap[b]? := k.block b lt (fun q => (hS b q lt).2 h.ty)
  refine ⟨h.hv, h.le, h.mx, fun i hi => ?_, fun i hi => (h.it i hi).but k hS, by rw [e]; exact h.ty⟩
  rw [World.cell?_of_block (w := w) (a := ⟨b, i, none⟩) e]; exact h.c0 i hi

theorem Lists.but {v : Value} {ts : List (List Itm)} (h : Lists w v ts) (k : But S w w1) (hS : NoTour S w) : Lists w1 v ts := by
  obtain ⟨b, cap, f, h⟩ := h
  exact ⟨b, cap, f, h.but k hS⟩

theorem noTour_one {b t : Nat} (h : TyAt w b t) (h1 : t ≠ 71) (h2 : t ≠ 68) : NoTour (fun k => k = b) w := by
  rintro k rfl _
  exact ⟨fun q => q.ne h (fun e => h1 e.symm) rfl, fun q => q.ne h (fun e => h2 e.symm) rfl⟩
end

/-- A call of a Go function, as one step of a region that draws its order. -/
theorem step_call_mine {P : Program} {ops : Array Oper} {o : Oper} {a : Act} {w : World} {K : Act → World → Prop} {Q : Exit → Act → World → Prop} {E : Prop}
    (hg : o.guard = none) (F : FuncId) (args : Array Value) (hrun : (execOp a.eval o).run P w = .ok (.enter F args) w) {R : Ending → World → Prop} (hC : Calls P F args w R)
    (hK : ∀ e w', R e w' → ∃ v, e = .returned v ∧ K (a.put o.dst v) w') :
    if Region.wanted o (yielded ops a.tmps) = true then Oper.wp P o a w K Q else E := by
  have hw : Region.wanted o (yielded ops a.tmps) = true := by simp [Region.wanted, hg]
  rw [if_pos hw]
  unfold Oper.wp
  rw [hrun, Oper.upon_enter]
  refine hC.mono ?_
  intro e w' h
  obtain ⟨v, rfl, hk⟩ := hK e w' h
  exact hk

end Go.Proofs.YtckallochdegiaaGreat
