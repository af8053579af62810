import Derived.Test.YtckallochdegiaaGreatNum
import Derived.Test.YtckallochdegiaaGreatGrow
import Derived.Deep.RegionLawGrows
namespace Go.Proofs.YtckallochdegiaaGreat
set_option linter.unusedVariables false
set_option linter.unusedSimpArgs false
open Go.RowKit

/-- 'append' of nothing to an own row, as a step. -/
theorem step_append_none {P : Program} {ops : Array Oper} {o : Oper} {a : Act} {w : World} {K : Act → World → Prop} {Q : Exit → Act → World → Prop} {E : Prop}
    (hg : o.guard = none) (s x : Operand) (t : TypeId) (hop : o.op = Op.call { callee := Callee.builtin Builtin.append, args := #[s, x], argTypes := #[t, t] })
    (base : Nat) (e : TypeId) (i : TypeInfo) (size : Nat) (h1 : P.underlying t = some (.slice e)) (h2 : P.info? e = some i)
    (v : Value) (n : Nat) (xs : List Value) (hs : a.eval s = v) (hown : w.ownsRow base e size v n xs) (hx : a.eval x = .slice none 0 0)
    (hK : K (a.put o.dst v) w) :
    if Region.wanted o (yielded ops a.tmps) = true then Oper.wp P o a w K Q else E := by
  have hw : Region.wanted o (yielded ops a.tmps) = true := by simp [Region.wanted, hg]
  rw [if_pos hw]
  have hrun := run_append_owned_none (P := P) w base t o.type e i size h1 h2 v n xs hown
  unfold Oper.wp
  simp [execOp, hop, resolve, invoke, builtin, hs, hx, hrun, Result.andThen]
  exact hK

theorem owns_form1 {w : World} {B e size n : Nat} {v : Value} {xs : List Value} (h : w.ownsRow B e size v n xs) (hn : 0 < n) : ∃ g c, v = .slice (some ⟨g, 0, none⟩) n c := by
  rcases h.2 with ⟨_, h0⟩ | ⟨g, cap, cur, hv, _⟩
  · omega
  · exact ⟨g, cap, hv⟩
theorem sort_keep {w w4 : World} {o : Obj} {v : Value} {out : List Edg} {ob ocap n c : Nat} (h : EAt w v out ob ocap) (hg : (w.alloc o).drew.grownBy w4 (Value.slice (some ⟨w.heap.size, 0, none⟩) n c).ownBlock) : EAt w4 v out ob ocap :=
  (h.below ((Below.refl _ _).alloc (Nat.le_refl _) o).drew (Nat.le_refl _)).grown hg (fun q => by have := h.lt; simp [Value.ownBlock] at q; omega)
theorem sort_len {out : List Edg} {k : Nat} (e : Edg) (h : k ≤ out.length) : (out.take k ++ ([e] ++ out.drop k)).length = out.length + 1 := by
  simp; omega

/-- What sorted has so far. -/
def SortAt (w : World) (B : Nat) (v : Value) (out es : List Edg) : Prop := w.ownsRow B 89 4 v out.length (eCells out) ∧ (∀ e, e ∈ out → e ∈ es) ∧ (out = [] → v = .slice none 0 0)

theorem SortAt.eat {w : World} {B : Nat} {v : Value} {out es : List Edg} (h : SortAt w B v out es) (hne : out ≠ []) : ∃ b cap, EAt w v out b cap ∧ B ≤ b := eat_of_owns h.1 hne
theorem SortAt.below {w w' : World} {B C : Nat} {v : Value} {out es : List Edg} (h : SortAt w B v out es) (b : Below C w w') (hC : w.heap.size ≤ C) : SortAt w' B v out es := ⟨owns_below h.1 b hC, h.2⟩

theorem sort_done {w wc w4 w5 : World} {ty : Obj} {v2 : Value} {out es : List Edg} {e : Edg} {k : Nat} {row : Option Nat} (h : w5.ownsRow w4.heap.size 89 4 v2 (k + (1 + (out.length - k))) (eCells (out.take k) ++ (eCells [e] ++ eCells (out.drop k)))) (hk : k ≤ out.length) (hw : w.heap.size ≤ wc.heap.size) (hg : (wc.alloc ty).drew.grownBy w4 row)
    (ho : ∀ e, e ∈ out → e ∈ es) (he : e ∈ es) : SortAt w5 w.heap.size v2 (out.take k ++ ([e] ++ out.drop k)) es := by
  have hs : (wc.alloc ty).heap.size ≤ w4.heap.size := hg.size
  simp at hs
  refine ⟨?_, fun f hf => ?_, fun q => by simp at q⟩
  · rw [sort_len e hk, eCells_append, eCells_append, show out.length + 1 = k + (1 + (out.length - k)) by omega]
    exact owns_mono h (by omega)
  · rcases List.mem_append.1 hf with q | q
    · exact ho f (List.mem_of_mem_take q)
    · rcases List.mem_append.1 q with q | q
      · simp at q; subst q; exact he
      · exact ho f (List.mem_of_mem_drop q)

theorem sort_done2 {w wc w5 : World} {ty : Obj} {v2 : Value} {out es : List Edg} {e : Edg} {k : Nat} (h : w5.ownsRow (wc.alloc ty).drew.heap.size 89 4 v2 (k + 1) (eCells (out.take k) ++ eCells [e])) (hk : k ≤ out.length) (hw : w.heap.size ≤ wc.heap.size)
    (ho : ∀ e, e ∈ out → e ∈ es) (he : e ∈ es) (hd : out.drop k = []) : SortAt w5 w.heap.size v2 (out.take k ++ ([e] ++ out.drop k)) es := by
  have hs : (wc.alloc ty).drew.heap.size = (wc.alloc ty).heap.size := rfl
  simp only [World.alloc, Array.size_push] at hs
  have hl : out.length = k := by have := congrArg List.length hd; simp at this; omega
  refine ⟨?_, fun f hf => ?_, fun q => by simp at q⟩
  · rw [sort_len e hk, eCells_append, eCells_append, hd, hl]
    have e0 : eCells ([] : List Edg) = [] := rfl
    rw [e0, List.append_nil]
    exact owns_mono h (by show w.heap.size ≤ (wc.alloc ty).heap.size; simp; omega)
  · rcases List.mem_append.1 hf with q | q
    · exact ho f (List.mem_of_mem_take q)
    · rw [hd] at q; simp at q; subst q; exact he

/-- What sorted answers. -/
def SortedR (es : List Edg) (w : World) (e : Ending) (w' : World) : Prop := ∃ v' out, e = .returned v' ∧ SortAt w' w.heap.size v' out es ∧ out.length = es.length ∧ Below w.heap.size w w'

end Go.Proofs.YtckallochdegiaaGreat
