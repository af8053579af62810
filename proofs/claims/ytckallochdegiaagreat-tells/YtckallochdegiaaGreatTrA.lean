import Derived.Test.YtckallochdegiaaGreatNum
import Derived.Test.YtckallochdegiaaGreatPgP

namespace Go.Proofs.YtckallochdegiaaGreat
set_option linter.unusedVariables false
set_option linter.unusedSimpArgs false
open Go.RowKit

/-- The slice value v holds the program's items l. -/
structure PAt (w : World) (v : Value) (l : List Itm) (b o cap : Nat) : Prop where
  hv : v = .slice (some ⟨b, o, none⟩) l.length cap
  le : l.length ≤ cap
  mx : cap ≤ maxLen
  c0 : ∀ i, i < l.length → w.cell? ⟨b, o + i * 2, none⟩ = some (.int .i64 (l[i]?.getD (0, 0)).1)
  c1 : ∀ i, i < l.length → w.cell? ⟨b, o + i * 2 + 1, none⟩ = some (.int .i64 (l[i]?.getD (0, 0)).2)
  ty : ∃ c, w.heap[b]? = some (.cells c 146 (0, 0))

def PIt (w : World) (v : Value) (l : List Itm) : Prop := (v = .slice none 0 0 ∧ l = []) ∨ ∃ b o cap, PAt w v l b o cap

/-- S holds no block of the program's items. -/
def NoIt (S : Nat → Prop) (w : World) : Prop := ∀ k, S k → k < w.heap.size → ¬ TyAt w k 146

section
variable {w w' : World} {v : Value} {l : List Itm} {b o cap : Nat} {S : Nat → Prop}

theorem PAt.lt (h : PAt w v l b o cap) : b < w.heap.size := by
  obtain ⟨c, hc⟩ := h.ty
  exact (Array.getElem?_eq_some_iff.1 hc).1
theorem PAt.block (h : PAt w v l b o cap) (e : w'.heap[b]? = w.heap[b]?) : PAt w' v l b o cap := by
  have k : ∀ o, w'.cell? ⟨b, o, none⟩ = w.cell? ⟨b, o, none⟩ := fun o => World.cell?_of_block (w := w) (a := ⟨b, o, none⟩) e
  exact ⟨h.hv, h.le, h.mx, fun i hi => by rw [k]; exact h.c0 i hi, fun i hi => by rw [k]; exact h.c1 i hi, by rw [e]; exact h.ty⟩
theorem PAt.below {B : Nat} (h : PAt w v l b o cap) (hb : Below B w w') (hB : w.heap.size ≤ B) : PAt w' v l b o cap :=
  h.block (hb.block b (by have := h.lt; omega))
theorem PAt.grown {row : Option Nat} (h : PAt w v l b o cap) (g : w.grownBy w' row) (hne : some b ≠ row) : PAt w' v l b o cap := h.block (g.block b h.lt hne)
theorem PAt.alloc (h : PAt w v l b o cap) (x : Obj) : PAt (w.alloc x) v l b o cap := h.block (Below.heap_alloc _ _ _ h.lt)
theorem PAt.cells (h : PAt w v l b o cap) (j : Nat) (u : Value) (hj : (itemCells l)[j]? = some u) : w.cell? ((⟨b, o, none⟩ : Addr).add j) = some u := by
  rw [addr_add]
  have hlt : j < l.length * 2 := by
    have := (List.getElem?_eq_some_iff.1 hj).1
    rw [itemCells_length] at this; exact this
  obtain ⟨i, r, rfl, hr⟩ : ∃ i r, j = i * 2 + r ∧ (r = 0 ∨ r = 1) := ⟨j / 2, j % 2, by omega, by omega⟩
  have hi : i < l.length := by omega
  have k := itemCells_get l i hi
  rcases hr with rfl | rfl
  · rw [Nat.add_zero] at hj ⊢
    rw [k.1] at hj; rw [h.c0 i hi]; exact hj
  · rw [k.2] at hj; rw [← Nat.add_assoc, h.c1 i hi]; exact hj
theorem PAt.drop (h : PAt w v l b o cap) (k : Nat) (hk : k ≤ l.length) : PAt w (.slice (some ⟨b, o + k * 2, none⟩) (l.length - k) (cap - k)) (l.drop k) b (o + k * 2) (cap - k) := by
  have hl : (l.drop k).length = l.length - k := List.length_drop
  refine ⟨by rw [hl], by have := h.le; omega, by have := h.mx; omega, fun i hi => ?_, fun i hi => ?_, h.ty⟩
  · rw [List.getElem?_drop, show o + k * 2 + i * 2 = o + (k + i) * 2 by omega]; exact h.c0 (k + i) (by omega)
  · rw [List.getElem?_drop, show o + k * 2 + i * 2 + 1 = o + (k + i) * 2 + 1 by omega]; exact h.c1 (k + i) (by omega)
theorem PAt.take (h : PAt w v l b o cap) (k c : Nat) (hk : k ≤ l.length) (hc : k ≤ c) (hm : c ≤ cap) : PAt w (.slice (some ⟨b, o, none⟩) k c) (l.take k) b o c := by
  have hl : (l.take k).length = k := by rw [List.length_take]; omega
  refine ⟨by rw [hl], by omega, by have := h.mx; omega, fun i hi => ?_, fun i hi => ?_, h.ty⟩
  · rw [List.getElem?_take, if_pos (by omega)]; exact h.c0 i (by omega)
  · rw [List.getElem?_take, if_pos (by omega)]; exact h.c1 i (by omega)
theorem pat_of_owns {B : Nat} (h : w.ownsRow B 146 2 v l.length (itemCells l)) (hne : l ≠ []) : ∃ b cap, PAt w v l b 0 cap ∧ B ≤ b := by
  have hc := fun g hg => h.cells (g := g) hg
  rcases h.2 with ⟨_, h0⟩ | ⟨g, cap, cur, hv, hB, hg, hle, hmx, _⟩
  · exact absurd (List.eq_nil_of_length_eq_zero h0) hne
  · refine ⟨g, cap, ⟨hv, hle, hmx, fun i hi => ?_, fun i hi => ?_, cur, hg⟩, hB⟩
    · have := hc g (by rw [hv]; rfl) (i * 2) _ (itemCells_get l i hi).1
      rw [addr_add] at this; exact this
    · have := hc g (by rw [hv]; rfl) (i * 2 + 1) _ (itemCells_get l i hi).2
      rw [addr_add] at this; exact this
theorem PIt.below {B : Nat} (h : PIt w v l) (hb : Below B w w') (hB : w.heap.size ≤ B) : PIt w' v l := by
  rcases h with h | ⟨b, o, cap, h⟩
  · exact Or.inl h
  · exact Or.inr ⟨b, o, cap, h.below hb hB⟩
theorem PIt.but (h : PIt w v l) (k : But S w w') (hS : NoIt S w) : PIt w' v l := by
  rcases h with h | ⟨b, o, cap, h⟩
  · exact Or.inl h
  · exact Or.inr ⟨b, o, cap, h.block (k.block b h.lt (fun q => hS b q h.lt h.ty))⟩
theorem noIt_one {t : Nat} (h : TyAt w b t) (h1 : t ≠ 146) : NoIt (fun k => k = b) w := by
  rintro k rfl _
  exact fun q => q.ne h (fun e => h1 e.symm) rfl
end

/-- The place of an item. -/
def posX (l : List Itm) (x : Itm) : Int := match l.findIdx? (fun y => x == y) with | some k => k | none => -1
theorem posX_some {l : List Itm} {x : Itm} {k : Nat} (hk : k < l.length) (h : l[k]?.getD (0, 0) = x) (hno : ∀ j, j < k → ¬ x = l[j]?.getD (0, 0)) : posX l x = k := by
  have : l.findIdx? (fun y => x == y) = some k := by
    rw [List.findIdx?_eq_some_iff_getElem]
    refine ⟨hk, by rw [get_eq hk] at h; simp [h], fun j hj => ?_⟩
    have := hno j hj
    rw [get_eq (by omega)] at this
    simpa using this
  simp [posX, this]
theorem posX_none {l : List Itm} {x : Itm} (hno : ∀ j, j < l.length → ¬ x = l[j]?.getD (0, 0)) : posX l x = -1 := by
  have : l.findIdx? (fun y => x == y) = none := by
    rw [List.findIdx?_eq_none_iff]
    intro y hy
    obtain ⟨j, hj, rfl⟩ := List.mem_iff_getElem.1 hy
    have := hno j hj
    rw [get_eq hj] at this
    simpa using this
  simp [posX, this]
theorem posX_mem {l : List Itm} {x : Itm} (h : x ∈ l) : ∃ k : Nat, k < l.length ∧ posX l x = k ∧ l[k]?.getD (0, 0) = x ∧ fromX l x = l.drop k ++ l.take k := by
  obtain ⟨a, b, h1, h2, h3⟩ := fromX_split h
  refine ⟨a.length, by rw [h1]; simp, posX_some (by rw [h1]; simp) ?_ ?_, ?_, ?_⟩
  · rw [h1, List.getElem?_append_right (Nat.le_refl _)]; simp
  · intro j hj e
    rw [h1, List.getElem?_append_left hj, get_eq hj] at e
    exact h2 (e ▸ List.getElem_mem hj)
  · rw [h1, List.getElem?_append_right (Nat.le_refl _)]; simp
  · rw [h3, h1]; simp
theorem posX_not {l : List Itm} {x : Itm} (h : x ∉ l) : posX l x = -1 :=
  posX_none (fun j hj e => h (by rw [e, get_eq hj]; exact List.getElem_mem hj))

theorem Tryz.info146 : (Tryz.prog.info? 146).map (fun i => (i.zero, i.size, i.bytes)) = some (some (.agg #[.int .i64 0, .int .i64 0]), 2, 16) := by kernel_rfl

set_option maxRecDepth 100000 in
set_option maxHeartbeats 2000000 in
theorem position_at (b o cap : Nat) (x1 x2 : Int) (l : List Itm) (w : World) (hI : PAt w (.slice (some ⟨b, o, none⟩) l.length cap) l b o cap) :
    Calls Tryz.prog 126 #[.slice (some ⟨b, o, none⟩) l.length cap, .agg #[.int .i64 x1, .int .i64 x2]] w fun e w' => e = .returned (.int .i64 (posX l (x1, x2))) ∧ Below w.heap.size w w' := by
  have HI : Hid (PAt w (.slice (some ⟨b, o, none⟩) l.length cap) l b o cap) := hI
  have h1 := hI.le
  have h2 := hI.mx
  unfold maxLen at h2
  clear hI
  go_enter Tryz.func126, Tryz.ntmps126
  go_wp2_with fail
  go_loopw [8] (fun i wr => ∃ k : Nat, k ≤ l.length ∧ i = .int .i64 k ∧ Hid (∀ j, j < k → ¬ (x1, x2) = l[j]?.getD (0, 0)) ∧ Hid (Below (w.heap.size + 1) (w.alloc (.cells #[.int .i64 x1, .int .i64 x2] 146)) wr)) (fun i _ => l.length - (intOf i).toNat)
  case atStart => exact ⟨0, by omega, rfl, fun j hj => by omega, Below.refl _ _⟩
  case round =>
    obtain ⟨k, hk, rfl, hno, hL0⟩ := hrel
    have hL1 := hL0.out
    have hL : Below w.heap.size w wr := ((Below.refl _ _).alloc (Nat.le_refl _) _).trans (hL1.mono (by omega))
    by_cases hlt : k < l.length
    · have hlt' : (k : Int) < (l.length : Int) := by omega
      have I2 := HI.out.below hL (Nat.le_refl _)
      have d0 := I2.c0 k hlt
      have d1 := I2.c1 k hlt
      have y0 : wr.cell? ⟨w.heap.size, 0, none⟩ = some (.int .i64 x1) := by
        rw [hL1.cell (p := ⟨w.heap.size, 0, none⟩) (by simp), new_cell]; rfl
      have y1 : wr.cell? ⟨w.heap.size, 1, none⟩ = some (.int .i64 x2) := by
        rw [hL1.cell (p := ⟨w.heap.size, 1, none⟩) (by simp), new_cell]; rfl
      obtain ⟨x, hx⟩ : ∃ x, x = l[k]?.getD (0, 0) := ⟨_, rfl⟩
      rw [← hx] at d0 d1
      have Hx : Hid (x = l[k]?.getD (0, 0)) := hx
      clear hx
      have HL := hid hL
      have HL1 := hid hL1
      clear I2 hL0 hL hL1
      obtain ⟨z1, z2⟩ := x
      by_cases e1 : z1 = x1
      · by_cases e2 : z2 = x2
        · subst e1 e2
          go_wp2_with fail
          go_quiet (fail)
          go_wp2
          go_ret
          exact ⟨ret_int (posX_some hlt Hx.out.symm hno.out).symm, Below.drewN' _ HL.out⟩
        · have e3 : (z2 == x2) = false := by simpa using e2
          go_wp2_with fail
          go_quiet (fail)
          go_wp2
          exact ⟨⟨k + 1, by omega, by go_num, fun j hj => by
            by_cases e : j = k
            · subst e; rw [← Hx.out]; intro q; simp at q; exact e2 q.2.symm
            · exact hno.out j (by omega), Below.drewN' _ HL1.out⟩, by simp [intOf]; omega⟩
      · have e3 : (z1 == x1) = false := by simpa using e1
        go_wp2_with fail
        go_quiet (fail)
        go_wp2
        exact ⟨⟨k + 1, by omega, by go_num, fun j hj => by
          by_cases e : j = k
          · subst e; rw [← Hx.out]; intro q; simp at q; exact e1 q.1.symm
          · exact hno.out j (by omega), Below.drewN' _ HL1.out⟩, by simp [intOf]; omega⟩
    · go_wp2
      go_ret
      exact ⟨ret_int (posX_none (fun j hj => hno.out j (by omega))).symm, hL⟩

set_option maxRecDepth 100000 in
set_option maxHeartbeats 2000000 in
theorem position_nil (x1 x2 : Int) (w : World) :
    Calls Tryz.prog 126 #[.slice none 0 0, .agg #[.int .i64 x1, .int .i64 x2]] w fun e w' => e = .returned (.int .i64 (-1)) ∧ Below w.heap.size w w' := by
  go_enter Tryz.func126, Tryz.ntmps126
  go_wp2_with fail
  go_loopw [8] (fun i wr => i = .int .i64 0 ∧ Hid (Below w.heap.size w wr)) (fun _ _ => 0)
  case atStart => exact ⟨rfl, (Below.refl _ _).alloc (Nat.le_refl _) _⟩
  case round =>
    obtain ⟨rfl, hL⟩ := hrel
    go_wp2
    go_ret
    exact ⟨rfl, hL.out⟩

theorem position_any (x1 x2 : Int) (v : Value) (l : List Itm) (w : World) (h : PIt w v l) :
    Calls Tryz.prog 126 #[v, .agg #[.int .i64 x1, .int .i64 x2]] w fun e w' => e = .returned (.int .i64 (posX l (x1, x2))) ∧ Below w.heap.size w w' := by
  rcases h with ⟨rfl, rfl⟩ | ⟨b, o, cap, h⟩
  · exact position_nil x1 x2 w
  · have hv := h.hv
    subst hv
    exact position_at b o cap x1 x2 l w h

end Go.Proofs.YtckallochdegiaaGreat
namespace Go.Proofs.YtckallochdegiaaGreat
set_option linter.unusedVariables false
set_option linter.unusedSimpArgs false
open Go.RowKit

/-- A forest of an index: the rounds R, as F lays them from the cell o on. -/
structure Fo (w : World) (b o : Nat) (F : Nat → Value) (R : Nat → List Itm) : Prop where
  row : w.rowIs b 104 7202 F
  le : o + 48 ≤ 7202
  it : ∀ v, v < 48 → PIt w (F (o + v)) (R v)

/-- The pointer to the cell o of block b. -/
abbrev ptrA (b o : Nat) : Value := .pointer (some ⟨b, o, none⟩)

section
variable {w w' : World} {b o : Nat} {F : Nat → Value} {R : Nat → List Itm} {S : Nat → Prop}
theorem Fo.below (h : Fo w b o F R) (k : Below w.heap.size w w') : Fo w' b o F R :=
  ⟨row_but (S := fun _ => False) h.row (But.of k) (fun q => q), h.le, fun v hv => (h.it v hv).below k (Nat.le_refl _)⟩
theorem Fo.cell (h : Fo w b o F R) {v : Nat} (hv : v < 48) : w.cell? ⟨b, o + v, none⟩ = some (F (o + v)) := h.row.cell (by have := h.le; omega)
end

/-- In which of the rounds an item stands. -/
def holdX (R : Nat → List Itm) (x : Itm) : Int := match (List.range 48).find? (fun v => decide (x ∈ R v)) with | some v => v | none => -1

theorem holdX_some {R : Nat → List Itm} {x : Itm} {v : Nat} (hv : v < 48) (h : x ∈ R v) (hno : ∀ u, u < v → x ∉ R u) : holdX R x = v := by
  have : (List.range 48).find? (fun v => decide (x ∈ R v)) = some v := by
    rw [List.find?_range_eq_some]
    exact ⟨by simpa using h, by simpa using hv, fun j hj => by simpa using hno j hj⟩
  rw [holdX, this]
theorem holdX_none {R : Nat → List Itm} {x : Itm} (hno : ∀ u, u < 48 → x ∉ R u) : holdX R x = -1 := by
  have : (List.range 48).find? (fun v => decide (x ∈ R v)) = none := by
    rw [List.find?_eq_none]
    intro j hj
    simpa using hno j (by simpa using hj)
  rw [holdX, this]

theorem posX_neg {l : List Itm} {x : Itm} (h : posX l x < 0) : x ∉ l := fun q => by
  obtain ⟨k, _, e, _⟩ := posX_mem q
  omega
theorem posX_pos {l : List Itm} {x : Itm} (h : ¬ posX l x < 0) : x ∈ l := by
  by_cases c : x ∈ l
  · exact c
  · rw [posX_not c] at h; omega

set_option maxRecDepth 100000 in
set_option maxHeartbeats 2000000 in
theorem holder_any (w : World) (b o : Nat) (F : Nat → Value) (R : Nat → List Itm) (x1 x2 : Int) (h : Fo w b o F R) :
    Calls Tryz.prog 121 #[ptrA b o, .agg #[.int .i64 x1, .int .i64 x2]] w fun e w' => e = .returned (.int .i64 (holdX R (x1, x2))) ∧ Below w.heap.size w w' := by
  have HF := hid h
  have hlt := h.row.lt
  clear h
  go_enter Tryz.func121, Tryz.ntmps121
  go_wp2_with fail
  go_loopw [6] (fun i wr => ∃ k : Nat, k ≤ 48 ∧ i = .int .i64 k ∧ Hid (∀ j, j < k → (x1, x2) ∉ R j) ∧ Hid (Below (w.heap.size + 1) (w.alloc (.cells #[.int .i64 x1, .int .i64 x2] 146)) wr)) (fun i _ => 48 - (intOf i).toNat)
  case atStart => exact ⟨0, by omega, rfl, fun j hj => by omega, Below.refl _ _⟩
  case round =>
    obtain ⟨k, hk, rfl, hno, hL0⟩ := hrel
    have hL1 := hL0.out
    have hL : Below w.heap.size w wr := ((Below.refl _ _).alloc (Nat.le_refl _) _).trans (hL1.mono (by omega))
    by_cases hlt : k < 48
    · have hlt' : (k : Int) < 48 := by omega
      have HF2 := hid (HF.out.below hL)
      have d := HF2.out.cell hlt
      have y0 : wr.cell? ⟨w.heap.size, 0, none⟩ = some (.int .i64 x1) := by
        rw [hL1.cell (p := ⟨w.heap.size, 0, none⟩) (by simp), new_cell]; rfl
      have y1 : wr.cell? ⟨w.heap.size, 1, none⟩ = some (.int .i64 x2) := by
        rw [hL1.cell (p := ⟨w.heap.size, 1, none⟩) (by simp), new_cell]; rfl
      have HL := hid hL
      have HL1 := hid hL1
      clear hL0 hL hL1
      have HP := hid (position_any x1 x2 _ (R k) _ ((HF2.out.it k hlt).below ((Below.refl _ _).drew) (Nat.le_refl _)))
      have Hp : Hid (∃ p, p = posX (R k) (x1, x2)) := ⟨_, rfl⟩
      obtain ⟨p, hp⟩ := Hp.out
      rw [← hp] at HP
      have HPe := hid hp
      clear hp Hp
      by_cases c : 0 ≤ p
      · go_wp2_with fail
        go_region_with (go_at_call 126; refine HP.out.mono ?_; rintro e w2 ⟨rfl, hb2⟩; have HB2 := hid (below_drew hb2); clear hb2)
        all_goals
          go_wp2
          go_ret
          exact ⟨ret_int (holdX_some hlt (posX_pos (by rw [← HPe.out]; omega)) hno.out).symm, HL.out.trans (HB2.out.mono HL.out.size)⟩
      · go_wp2_with fail
        go_region_with (go_at_call 126; refine HP.out.mono ?_; rintro e w2 ⟨rfl, hb2⟩; have HB2 := hid (below_drew hb2); clear hb2)
        all_goals
          go_wp2
          exact ⟨⟨k + 1, by omega, by go_num, fun j hj => by
            by_cases e : j = k
            · subst e; exact posX_neg (by rw [← HPe.out]; omega)
            · exact hno.out j (by omega), HL1.out.trans (HB2.out.mono (Nat.le_trans (by simp) HL1.out.size))⟩, by simp [intOf]; omega⟩
    · go_wp2
      go_ret
      exact ⟨ret_int (holdX_none (fun j hj => hno.out j (by omega))).symm, hL⟩

/-- A row of items that the call owns. -/
theorem turned_done {w : World} {v : Value} {l : List Itm} {k B : Nat} (h : w.ownsRow B 146 2 v (0 + (l.length - k) + k) ([] ++ itemCells (l.drop k) ++ itemCells (l.take k))) (hk : k < l.length) : ∃ zb zc, PAt w v (l.drop k ++ l.take k) zb 0 zc ∧ B ≤ zb ∧ w.ownsRow B 146 2 v (l.drop k ++ l.take k).length (itemCells (l.drop k ++ l.take k)) := by
  rw [List.nil_append, ← itemCells_append] at h
  have hl : (l.drop k ++ l.take k).length = 0 + (l.length - k) + k := by rw [List.length_append, List.length_drop, List.length_take]; omega
  rw [← hl] at h
  obtain ⟨zb, zc, h1, h2⟩ := pat_of_owns h (by intro e; have := congrArg List.length e; rw [hl] at this; simp at this; omega)
  exact ⟨zb, zc, h1, h2, h⟩

set_option maxRecDepth 100000 in
set_option maxHeartbeats 2000000 in
theorem turned_any (w : World) (b o cap : Nat) (l : List Itm) (k : Nat) (h : PAt w (.slice (some ⟨b, o, none⟩) l.length cap) l b o cap) (hk : k < l.length) (hl : l.length ≤ 9000) :
    Calls Tryz.prog 128 #[.slice (some ⟨b, o, none⟩) l.length cap, .int .i64 k] w fun e w' => ∃ v zb zc, e = .returned v ∧ PAt w' v (l.drop k ++ l.take k) zb 0 zc ∧ w.heap.size ≤ zb ∧ w'.ownsRow w.heap.size 146 2 v (l.drop k ++ l.take k).length (itemCells (l.drop k ++ l.take k)) ∧ Below w.heap.size w w' := by
  have HI := hid h
  have h1 := h.le
  have h2 := h.mx
  unfold maxLen at h2
  clear h
  have hk' : (k : Int) ≤ (l.length : Int) := by omega
  have hkc : k ≤ cap := by omega
  have hcap : ¬ cap = k := by omega
  have HN1 : Hid ((itemCells (l.drop k)).length = (l.length - k) * 2) := by show _ = _; rw [itemCells_length, List.length_drop]
  have HN2 : Hid ((itemCells (l.take k)).length = k * 2) := by show _ = _; rw [itemCells_length, List.length_take]; omega
  have HM : Hid (∀ m : Nat, m ≤ 20000 → m ≤ maxLen) := fun m hm => by unfold maxLen; omega
  obtain ⟨i74, q0, q1, q2, q3⟩ := info_parts Tryz.info146
  obtain ⟨mc, hmc⟩ : ∃ mc : Array Value, mc = madeCells (Value.agg #[.int .i64 0, .int .i64 0]).cells (l.length * 2) := ⟨_, rfl⟩
  have hmk : (Instr.makeSlice 98 (.int .i64 0) (.int .i64 (l.length : Int))).run Tryz.prog w = .ok (.slice (some ⟨w.heap.size, 0, none⟩) 0 l.length) (w.alloc (.cells mc 146)) := by
    have := run_make (P := Tryz.prog) w 98 146 i74 _ Tryz.underlying98 q0 q1 .i64 .i64 0 l.length (by omega) (by omega) (by rw [q3]; omega) (by omega)
    rw [q2, Int.toNat_natCast, Int.toNat_zero, ← hmc] at this
    exact this
  have HO1 : Hid ((w.alloc (.cells mc 146)).ownsRow w.heap.size 146 2 (.slice (some ⟨w.heap.size, 0, none⟩) 0 l.length) 0 []) :=
    World.ownsRow_made w mc l.length (Nat.le_refl _) (HM.out _ (by omega)) (by rw [hmc, size_madeCells])
  have HI1 := hid (HI.out.alloc (.cells mc 146))
  clear hmc
  go_enter Tryz.func128, Tryz.ntmps128
  go_wp2_with (first
    | (at_builtin; refine wpList_append_own _ rfl (.tmp 9) (.tmp 12) 98 rfl w.heap.size 146 i74 _ 2 16 Tryz.underlying98 q0 q1 q2 q3 rfl (by decide) _ 0 [] rfl HO1.out ⟨b, o + k * 2, none⟩ (l.length - k) (cap - k) (itemCells (l.drop k)) rfl HN1.out (HI1.out.drop k (by omega)).cells (items_one _) (HM.out _ (by omega)) (by omega) (by simp) ?_; intro v2 w2 ho2 hg2 _; have HO2 := hid ho2; have HG2 := hid hg2; have hs2 := hg2.size; simp only [World.size_alloc] at hs2; clear ho2 hg2)
    | (at_builtin; refine wpList_append_own _ rfl (.tmp 14) (.tmp 17) 98 rfl w.heap.size 146 i74 _ 2 16 Tryz.underlying98 q0 q1 q2 q3 rfl (by decide) v2 (0 + (l.length - k)) _ rfl HO2.out ⟨b, o, none⟩ k cap (itemCells (l.take k)) rfl HN2.out ((HI1.out.grown HG2.out (fun q => by have := (HO1.out.lt b q.symm).1; have := HI.out.lt; omega)).take k cap (by omega) (by omega) (Nat.le_refl _)).cells (items_one _) (HM.out _ (by omega)) (by omega) (by omega) ?_; intro v3 w3 ho3 hg3 _; have HO3 := hid ho3; have HG3 := hid hg3; have hs3 := hg3.size; clear ho3 hg3))
  go_ret
  obtain ⟨zb, zc, hz, hzb, hzo⟩ := turned_done HO3.out hk
  exact ⟨v3, zb, zc, rfl, hz, hzb, hzo, (((Below.refl _ _).alloc (Nat.le_refl _) _).grown HG2.out (by simp) (fun k hk => (HO1.out.lt k hk).1)).grown HG3.out (by omega) (fun k hk => (HO2.out.lt k hk).1)⟩

/-- Where the least vertex stands. -/
structure LAt (l : List Itm) (m : Nat) (a : Int) : Prop where
  no : a = -1 → ∀ j, j < m → ¬ (l[j]?.getD (0, 0)).1 = (l[j]?.getD (0, 0)).2
  at_ : ∀ k : Nat, a = k → k < m ∧ (l[k]?.getD (0, 0)).1 = (l[k]?.getD (0, 0)).2 ∧ (∀ j, j < m → (l[j]?.getD (0, 0)).1 = (l[j]?.getD (0, 0)).2 → (l[k]?.getD (0, 0)).1 ≤ (l[j]?.getD (0, 0)).1) ∧ ∀ j, j < k → (l[j]?.getD (0, 0)).1 = (l[j]?.getD (0, 0)).2 → (l[k]?.getD (0, 0)).1 < (l[j]?.getD (0, 0)).1

theorem LAt.zero (l : List Itm) : LAt l 0 (-1) := ⟨fun _ j hj => by omega, fun k hk => by omega⟩
theorem LAt.skip {l : List Itm} {m : Nat} {a : Int} (h : LAt l m a) (hn : ¬ (l[m]?.getD (0, 0)).1 = (l[m]?.getD (0, 0)).2) : LAt l (m + 1) a := by
  refine ⟨fun ha j hj => ?_, fun k hk => ?_⟩
  · by_cases e : j = m
    · subst e; exact hn
    · exact h.no ha j (by omega)
  · obtain ⟨h1, h2, h3, h4⟩ := h.at_ k hk
    refine ⟨by omega, h2, fun j hj q => ?_, h4⟩
    by_cases e : j = m
    · subst e; exact absurd q hn
    · exact h3 j (by omega) q
theorem LAt.keep {l : List Itm} {m k : Nat} (h : LAt l m k) (hn : ¬ (l[m]?.getD (0, 0)).1 < (l[k]?.getD (0, 0)).1) : LAt l (m + 1) k := by
  refine ⟨fun ha => by omega, fun k' hk => ?_⟩
  have e : k' = k := by omega
  subst e
  obtain ⟨h1, h2, h3, h4⟩ := h.at_ k' rfl
  refine ⟨by omega, h2, fun j hj q => ?_, h4⟩
  by_cases e : j = m
  · subst e; omega
  · exact h3 j (by omega) q
theorem LAt.first {l : List Itm} {m : Nat} (h : LAt l m (-1)) (hn : (l[m]?.getD (0, 0)).1 = (l[m]?.getD (0, 0)).2) : LAt l (m + 1) m := by
  refine ⟨fun ha => by omega, fun k' hk => ?_⟩
  have e : k' = m := by omega
  subst e
  refine ⟨by omega, hn, fun j hj q => ?_, fun j hj q => absurd q (h.no rfl j hj)⟩
  by_cases e : j = k'
  · subst e; omega
  · exact absurd q (h.no rfl j (by omega))
theorem LAt.less {l : List Itm} {m k : Nat} (h : LAt l m k) (hn : (l[m]?.getD (0, 0)).1 = (l[m]?.getD (0, 0)).2) (hlt : (l[m]?.getD (0, 0)).1 < (l[k]?.getD (0, 0)).1) : LAt l (m + 1) m := by
  obtain ⟨h1, h2, h3, h4⟩ := h.at_ k rfl
  refine ⟨fun ha => by omega, fun k' hk => ?_⟩
  have e : k' = m := by omega
  subst e
  refine ⟨by omega, hn, fun j hj q => ?_, fun j hj q => ?_⟩
  · by_cases e : j = k'
    · subst e; omega
    · have := h3 j (by omega) q; omega
  · have := h3 j hj q; omega

/-- The least vertex's place, where there is one. -/
theorem LAt.done {l : List Itm} {a v : Int} (h : LAt l l.length a) (ha : a = -1 ∨ ∃ k : Nat, a = k) (hp : PLeast l v) : ∃ k : Nat, a = k ∧ k < l.length ∧ l[k]?.getD (0, 0) = (v, v) ∧ fromX l (v, v) = l.drop k ++ l.take k := by
  obtain ⟨j, hj, e⟩ := List.mem_iff_getElem.1 hp.1
  have ge : l[j]?.getD (0, 0) = (v, v) := by rw [get_eq hj, e]
  rcases ha with ha | ⟨k, ha⟩
  · exact absurd (by rw [ge]) (h.no ha j hj)
  · obtain ⟨h1, h2, h3, h4⟩ := h.at_ k ha
    have m1 := hp.2 (l[k]?.getD (0, 0)) (by rw [get_eq h1]; exact List.getElem_mem h1) h2
    have m2 := h3 j hj (by rw [ge])
    rw [ge] at m2
    simp only at m2
    have ev : l[k]?.getD (0, 0) = (v, v) := Prod.ext (by show (l[k]?.getD (0, 0)).1 = v; omega) (by show (l[k]?.getD (0, 0)).2 = v; omega)
    refine ⟨k, ha, h1, ev, fromX_some h1 ev (fun i hi q => ?_)⟩
    have := h4 i hi (by rw [← q])
    rw [← q, ev] at this
    simp only at this
    omega

set_option maxRecDepth 100000 in
set_option maxHeartbeats 2000000 in
theorem leastAt_any (w : World) (b o cap : Nat) (l : List Itm) (v : Int) (h : PAt w (.slice (some ⟨b, o, none⟩) l.length cap) l b o cap) (hp : PLeast l v) :
    Calls Tryz.prog 129 #[.slice (some ⟨b, o, none⟩) l.length cap] w fun e w' => (∃ k : Nat, e = .returned (.int .i64 k) ∧ k < l.length ∧ l[k]?.getD (0, 0) = (v, v) ∧ fromX l (v, v) = l.drop k ++ l.take k) ∧ Below w.heap.size w w' := by
  have HI := hid h
  have h1 := h.le
  have h2 := h.mx
  unfold maxLen at h2
  have HP := hid hp
  clear h hp
  go_enter Tryz.func129, Tryz.ntmps129
  go_wp2_with fail
  go_loopw [3, 8] (fun a i wr => ∃ (m : Nat) (z : Int), m ≤ l.length ∧ i = .int .i64 m ∧ a = .int .i64 z ∧ Hid (z = -1 ∨ ∃ k : Nat, z = k) ∧ Hid (LAt l m z) ∧ Hid (Below w.heap.size w wr)) (fun _ i _ => l.length - (intOf i).toNat)
  case atStart => exact ⟨0, -1, by omega, rfl, rfl, Or.inl rfl, LAt.zero l, Below.refl _ _⟩
  case round =>
    obtain ⟨m, z, hm, rfl, rfl, hz, hA, hL⟩ := hrel
    have hLs := hL.out.size
    by_cases hlt : m < l.length
    · have hlt' : (m : Int) < (l.length : Int) := by omega
      have I2 := HI.out.below hL.out (Nat.le_refl _)
      have d0 := I2.c0 m hlt
      have d1 := I2.c1 m hlt
      have bl := I2.lt
      obtain ⟨x, hx⟩ : ∃ x, x = l[m]?.getD (0, 0) := ⟨_, rfl⟩
      rw [← hx] at d0 d1
      have Hx : Hid (x = l[m]?.getD (0, 0)) := hx
      clear hx
      obtain ⟨x1, x2⟩ := x
      simp only at d0 d1
      have HBx : Hid (∀ ob, Below w.heap.size w (wr.alloc ob)) := fun ob => hL.out.alloc hLs ob
      by_cases e1 : x1 = x2
      · have HE := hid e1
        have e2 : (x1 != x2) = false := by simpa using e1
        rcases hz.out with rfl | ⟨k, rfl⟩
        · clear I2
          subst e1
          go_wp2_with fail
          go_quiet (fail)
          go_wp2
          exact ⟨⟨m + 1, m, by omega, by go_num, rfl, Or.inr ⟨m, rfl⟩, hA.out.first (by rw [← Hx.out]), Below.drewN' _ (HBx.out _)⟩, by simp [intOf]; omega⟩
        · obtain ⟨k1, _⟩ := hA.out.at_ k rfl
          have f0 := fun ob => (I2.alloc ob).c0 k (by omega)
          have hkl : (k : Int) < (l.length : Int) := by omega
          obtain ⟨y, hy⟩ : ∃ y, y = l[k]?.getD (0, 0) := ⟨_, rfl⟩
          have Hy := hid hy
          rw [← hy] at f0
          clear hy I2
          subst e1
          by_cases c : x1 < y.1
          · have HC : Hid (x1 < y.1) := c
            go_wp2_with fail
            go_quiet (fail)
            go_wp2
            exact ⟨⟨m + 1, m, by omega, by go_num, rfl, Or.inr ⟨m, rfl⟩, hA.out.less (by rw [← Hx.out]) (by rw [← Hx.out, ← Hy.out]; exact HC.out), Below.drewN' _ (HBx.out _)⟩, by simp [intOf]; omega⟩
          · have HC : Hid (¬ x1 < y.1) := c
            go_wp2_with fail
            go_quiet (fail)
            go_wp2
            exact ⟨⟨m + 1, k, by omega, by go_num, rfl, Or.inr ⟨k, rfl⟩, hA.out.keep (by rw [← Hx.out, ← Hy.out]; exact Int.not_lt.2 HC.out), Below.drewN' _ (HBx.out _)⟩, by simp [intOf]; omega⟩
      · have e2 : (x1 != x2) = true := by simpa using e1
        have HE := hid e1
        clear I2 e1
        go_wp2
        exact ⟨⟨m + 1, z, by omega, by go_num, rfl, hz, hA.out.skip (by rw [← Hx.out]; exact HE.out), HBx.out _⟩, by simp [intOf]; omega⟩
    · go_wp2
      go_ret
      have hme : m = l.length := by omega
      subst hme
      obtain ⟨k, rfl, r1, r2, r3⟩ := hA.out.done hz.out HP.out
      exact ⟨⟨k, rfl, r1, r2, r3⟩, hL.out⟩

end Go.Proofs.YtckallochdegiaaGreat
