import Derived.Test.YtnmdcogckkkfaaaRep
namespace Go.Proofs.Ytnmdcogckkkfaaa
set_option linter.unusedVariables false
set_option linter.unusedSimpArgs false
open Go.RowKit

def itemCells (l : List Itm) : List Value := l.flatMap fun x => [.int .i64 x.1, .int .i64 x.2]

theorem itemCells_length (l : List Itm) : (itemCells l).length = l.length * 2 := by
  induction l with
  | nil => rfl
  | cons a l ih => simp only [itemCells, List.flatMap_cons, List.length_append, List.length_cons, List.length_nil] at *; omega

theorem itemCells_append (l m : List Itm) : itemCells (l ++ m) = itemCells l ++ itemCells m := by simp [itemCells]

theorem itemCells_get (l : List Itm) (i : Nat) (hi : i < l.length) : (itemCells l)[i * 2]? = some (.int .i64 (l[i]?.getD (0, 0)).1) ∧ (itemCells l)[i * 2 + 1]? = some (.int .i64 (l[i]?.getD (0, 0)).2) := by
  induction l generalizing i with
  | nil => simp at hi
  | cons a l ih =>
    have e : itemCells (a :: l) = [.int .i64 a.1, .int .i64 a.2] ++ itemCells l := by simp [itemCells]
    rw [e]
    cases i with
    | zero => simp
    | succ i =>
      have := ih i (by simpa using hi)
      rw [List.getElem?_append_right (by simp; omega), List.getElem?_append_right (by simp; omega)]
      simp only [List.length_cons, List.length_nil, List.getElem?_cons_succ]
      rw [show (i + 1) * 2 - (0 + 1 + 1) = i * 2 by omega, show (i + 1) * 2 + 1 - (0 + 1 + 1) = i * 2 + 1 by omega]
      exact this

theorem addr_add (b o j : Nat) : (⟨b, o, none⟩ : Addr).add j = ⟨b, o + j, none⟩ := by
  simp only [Addr.add]
  by_cases h : j = 0
  · subst h; simp
  · simp [h]

theorem items_one (l : List Itm) (u : Value) (h : u ∈ itemCells l) : u.oneCell' = true := by
  simp only [itemCells, List.mem_flatMap] at h
  obtain ⟨x, _, hx⟩ := h
  simp only [List.mem_cons, List.not_mem_nil, or_false] at hx
  rcases hx with rfl | rfl <;> rfl

section
variable {w w' : World} {v : Value} {l : List Itm} {b o cap : Nat}

theorem ItemsAt.cells (h : ItemsAt w v l b o cap) (j : Nat) (u : Value) (hj : (itemCells l)[j]? = some u) : w.cell? ((⟨b, o, none⟩ : Addr).add j) = some u := by
  rw [addr_add]
  have hlt : j < l.length * 2 := by
    have := (List.getElem?_eq_some_iff.1 hj).1
    rw [itemCells_length] at this; exact this
  obtain ⟨i, r, rfl, hr⟩ : ∃ i r, j = i * 2 + r ∧ (r = 0 ∨ r = 1) := ⟨j / 2, j % 2, by omega, by omega⟩
  have hi : i < l.length := by omega
  have k := itemCells_get l i hi
  rcases hr with rfl | rfl
  · rw [Nat.add_zero] at hj ⊢
    rw [k.1] at hj; rw [h.c0 i hi]; exact hj
  · rw [k.2] at hj; rw [← Nat.add_assoc, h.c1 i hi]; exact hj

theorem ItemsAt.drop (h : ItemsAt w v l b o cap) (k : Nat) (hk : k ≤ l.length) : ItemsAt w (.slice (some ⟨b, o + k * 2, none⟩) (l.length - k) (cap - k)) (l.drop k) b (o + k * 2) (cap - k) := by
  have hl : (l.drop k).length = l.length - k := List.length_drop
  refine ⟨by rw [hl], by have := h.le; omega, by have := h.mx; omega, fun i hi => ?_, fun i hi => ?_, h.ty⟩
  · rw [List.getElem?_drop, show o + k * 2 + i * 2 = o + (k + i) * 2 by omega]; exact h.c0 (k + i) (by omega)
  · rw [List.getElem?_drop, show o + k * 2 + i * 2 + 1 = o + (k + i) * 2 + 1 by omega]; exact h.c1 (k + i) (by omega)

theorem ItemsAt.take (h : ItemsAt w v l b o cap) (k c : Nat) (hk : k ≤ l.length) (hc : k ≤ c) (hm : c ≤ cap) : ItemsAt w (.slice (some ⟨b, o, none⟩) k c) (l.take k) b o c := by
  have hl : (l.take k).length = k := by rw [List.length_take]; omega
  refine ⟨by rw [hl], by omega, by have := h.mx; omega, fun i hi => ?_, fun i hi => ?_, h.ty⟩
  · rw [List.getElem?_take, if_pos (by omega)]; exact h.c0 i (by omega)
  · rw [List.getElem?_take, if_pos (by omega)]; exact h.c1 i (by omega)

theorem ItemsAt.lt (h : ItemsAt w v l b o cap) : b < w.heap.size := by
  obtain ⟨c, hc⟩ := h.ty
  exact (Array.getElem?_eq_some_iff.1 hc).1

theorem ItemsAt.block (h : ItemsAt w v l b o cap) (e : w'.heap[b]? = w.heap[b]?) : ItemsAt w' v l b o cap := by
  have k : ∀ o, w'.cell? ⟨b, o, none⟩ = w.cell? ⟨b, o, none⟩ := fun o => World.cell?_of_block (w := w) (a := ⟨b, o, none⟩) e
  exact ⟨h.hv, h.le, h.mx, fun i hi => by rw [k]; exact h.c0 i hi, fun i hi => by rw [k]; exact h.c1 i hi, by rw [e]; exact h.ty⟩

theorem ItemsAt.below {B : Nat} (h : ItemsAt w v l b o cap) (hb : Below B w w') (hB : w.heap.size ≤ B) : ItemsAt w' v l b o cap :=
  h.block (hb.block b (by have := h.lt; omega))

theorem items_of_owns {B : Nat} (h : w.ownsRow B 74 2 v l.length (itemCells l)) (hne : l ≠ []) : ∃ b cap, ItemsAt w v l b 0 cap ∧ B ≤ b := by
  have hc := fun g hg => h.cells (g := g) hg
  rcases h.2 with ⟨_, h0⟩ | ⟨g, cap, cur, hv, hB, hg, hle, hmx, _⟩
  · exact absurd (List.eq_nil_of_length_eq_zero h0) hne
  · refine ⟨g, cap, ⟨hv, hle, hmx, fun i hi => ?_, fun i hi => ?_, cur, hg⟩, hB⟩
    · have := hc g (by rw [hv]; rfl) (i * 2) _ (itemCells_get l i hi).1
      rw [addr_add] at this; exact this
    · have := hc g (by rw [hv]; rfl) (i * 2 + 1) _ (itemCells_get l i hi).2
      rw [addr_add] at this; exact this
end

/-- 'append' to a row that the call owns, as one step of a region that draws its order. -/
theorem step_append_mine {P : Program} {ops : Array Oper} {o : Oper} {a : Act} {w : World} {K : Act → World → Prop} {Q : Exit → Act → World → Prop} {E : Prop}
    (hg : o.guard = none) (s x : Operand) (t : TypeId) (hop : o.op = Op.call { callee := Callee.builtin Builtin.append, args := #[s, x], argTypes := #[t, t] })
    (base : Nat) (e : TypeId) (i : TypeInfo) (z : Value) (size bytes : Nat) (h1 : P.underlying t = some (.slice e)) (h2 : P.info? e = some i) (h3 : i.zero = some z) (h4 : i.size = size) (h5 : i.bytes = bytes) (h6 : z.cells.size = size) (h7 : 0 < size)
    (v : Value) (n : Nat) (xs : List Value) (hs : a.eval s = v) (hown : w.ownsRow base e size v n xs)
    (ad : Addr) (m c : Nat) (news : List Value) (hx : a.eval x = .slice (some ad) m c) (hn : news.length = m * size) (hc : ∀ j u, news[j]? = some u → w.cell? (ad.add j) = some u) (h1c : ∀ u ∈ news, u.oneCell' = true)
    (b1 : n + m ≤ maxLen) (b2 : (n + m) * bytes ≤ 140737488355328) (hbase : base ≤ w.heap.size)
    (hK : ∀ v' w', w'.ownsRow base e size v' (n + m) (xs ++ news) → w.grownBy w' v.ownBlock → K (a.put o.dst v') w') :
    if Region.wanted o (yielded ops a.tmps) = true then Oper.wp P o a w K Q else E := by
  have hw : Region.wanted o (yielded ops a.tmps) = true := by simp [Region.wanted, hg]
  rw [if_pos hw]
  obtain ⟨v', w', hrun, r1, r2, _⟩ := run_append_own (P := P) w base t o.type e i z size bytes h1 h2 h3 h4 h5 h6 h7 v n xs hown ad m c news hn hc h1c b1 b2 hbase
  unfold Oper.wp
  simp [execOp, hop, resolve, invoke, builtin, hs, hx, hrun, Result.andThen]
  exact hK v' w' r1 r2

end Go.Proofs.Ytnmdcogckkkfaaa
