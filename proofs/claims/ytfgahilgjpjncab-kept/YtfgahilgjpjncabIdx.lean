import Derived.Test.YtfgahilgjpjncabRows
import Derived.WalkKit
import Derived.WalkSpells
import Derived.WalkLawsBesides
import Derived.BigQuiet
import Derived.Deep.QuietTactic
namespace Go.Proofs.Ytfgahilgjpjncab
open Go.RowKit

/-- The pointer to block b. -/
abbrev ptr (b : Nat) : Value := .pointer (some ⟨b, 0, none⟩)

/-- Block b is an index of n vertices whose edges are E. -/
structure IdxAt (w : World) (b : Nat) (n : Int) (E : Nat → Nat → Bool) : Prop where
  n0 : 1 ≤ n
  n1 : n ≤ 48
  cn : w.cell? ⟨b, 0, none⟩ = some (.int .i64 n)
  ce : ∀ u v, u < 48 → v < 48 → w.cell? ⟨b, 1 + u * 48 + v, none⟩ = some (.bool (E u v))
  fz : ∀ o, w.frozen? ⟨b, o, none⟩ = false

def vtx (n v : Int) : Bool := decide (0 ≤ v) && decide (v < n)

set_option maxHeartbeats 400000 in
theorem isVertex_any (b : Nat) (n v : Int) (w : World) (hn : w.cell? ⟨b, 0, none⟩ = some (.int .i64 n)) :
    Calls Try.prog 16 #[ptr b, .int .i64 v] w fun e w' => e = .returned (.bool (vtx n v)) ∧ w' = w := by
  by_cases h0 : 0 ≤ v
  · by_cases h1 : v < n
    · go_enter Try.func16, Try.ntmps16
      go_wp2
      go_ret
      exact ⟨by simp [vtx, h0, h1], rfl⟩
    · go_enter Try.func16, Try.ntmps16
      go_wp2
      go_ret
      exact ⟨by simp [vtx, h0, h1], rfl⟩
  · go_enter Try.func16, Try.ntmps16
    go_wp2
    go_ret
    exact ⟨by rw [show vtx n v = false from by simp [vtx]; omega]; rfl, rfl⟩


/-- What is wrong with two ends. -/
def ends (n u v : Int) : Int := if vtx n u = true ∧ vtx n v = true then (if u = v then 2 else 0) else 1

set_option maxHeartbeats 400000 in
theorem checkEnds_any (b : Nat) (n u v : Int) (w : World) (hn : w.cell? ⟨b, 0, none⟩ = some (.int .i64 n)) :
    Calls Try.prog 14 #[ptr b, .int .i64 u, .int .i64 v] w fun e w' => e = .returned (.int .i64 (ends n u v)) ∧ w' = w := by
  have hu := fun W h => isVertex_any b n u W h
  have hv := fun W h => isVertex_any b n v W h
  cases h0 : vtx n u
  · go_enter Try.func14, Try.ntmps14
    go_wp2_with fail
    refine (isVertex_any b n u _ hn).mono ?_
    rintro e w' ⟨rfl, rfl⟩
    rw [h0]
    go_wp2_with fail
    go_ret
    exact ⟨by simp [ends, h0], rfl⟩
  · cases h1 : vtx n v
    · go_enter Try.func14, Try.ntmps14
      go_wp2_with fail
      refine (isVertex_any b n u _ hn).mono ?_
      rintro e w' ⟨rfl, rfl⟩
      rw [h0]
      go_wp2_with fail
      refine (isVertex_any b n v _ hn).mono ?_
      rintro e w' ⟨rfl, rfl⟩
      rw [h1]
      go_wp2_with fail
      go_ret
      exact ⟨by simp [ends, h1], rfl⟩
    · by_cases h2 : u = v
      · subst h2
        go_enter Try.func14, Try.ntmps14
        go_wp2_with fail
        refine (isVertex_any b n u _ hn).mono ?_
        rintro e w' ⟨rfl, rfl⟩
        rw [h0]
        go_wp2_with fail
        refine (isVertex_any b n u _ hn).mono ?_
        rintro e w' ⟨rfl, rfl⟩
        rw [h0]
        go_wp2_with fail
        go_ret
        exact ⟨by simp [ends, h0], rfl⟩
      · have h3 : (u == v) = false := by simpa using h2
        go_enter Try.func14, Try.ntmps14
        go_wp2_with fail
        refine (isVertex_any b n u _ hn).mono ?_
        rintro e w' ⟨rfl, rfl⟩
        rw [h0]
        go_wp2_with fail
        refine (isVertex_any b n v _ hn).mono ?_
        rintro e w' ⟨rfl, rfl⟩
        rw [h1]
        go_wp2_with fail
        go_ret
        exact ⟨by simp [ends, h0, h1, h2], rfl⟩

/-- Nothing but block b has turned. -/
structure Only (b : Nat) (w w' : World) : Prop where
  os : w'.os = w.os
  tape : w'.tape = w.tape
  output : w'.output = w.output
  size : w'.heap.size = w.heap.size
  block : ∀ k, k ≠ b → w'.heap[k]? = w.heap[k]?

theorem Only.refl (b : Nat) (w : World) : Only b w w := ⟨rfl, rfl, rfl, rfl, fun _ _ => rfl⟩
theorem Only.trans {b : Nat} {u v w : World} (h : Only b u v) (k : Only b v w) : Only b u w :=
  ⟨k.os.trans h.os, k.tape.trans h.tape, k.output.trans h.output, k.size.trans h.size, fun i hi => (k.block i hi).trans (h.block i hi)⟩
theorem Only.setCell (w : World) (a : Addr) (u : Value) : Only a.block w (w.setCell a u) :=
  ⟨rfl, rfl, rfl, by simp [World.setCell], fun k hk => Below.heap_setCell _ _ _ _ hk⟩
theorem Only.cell {b : Nat} {w w' : World} (h : Only b w w') {p : Addr} (hp : p.block ≠ b) : w'.cell? p = w.cell? p := World.cell?_of_block (w := w) (h.block p.block hp)
theorem Only.frozen {b : Nat} {w w' : World} (h : Only b w w') {p : Addr} (hp : p.block ≠ b) : w'.frozen? p = w.frozen? p := World.frozen?_of_block (w := w) (h.block p.block hp)

/-- The edges behind a change. -/
def upd (E : Nat → Nat → Bool) (u v : Nat) (t : Bool) : Nat → Nat → Bool := fun x y => if (x = u ∧ y = v) ∨ (x = v ∧ y = u) then t else E x y

theorem cell_put (w : World) (p q : Addr) (x y : Value) (h : w.cell? q = some y) : (w.setCell p x).cell? q = some (if q = p then x else y) := by
  by_cases e : q = p
  · subst e; rw [if_pos rfl]; exact World.cell?_setCell_same _ _ _ h
  · rw [if_neg e, World.cell?_setCell_other (h := fun k => e k.symm)]; exact h

theorem idx_put {w : World} {b : Nat} {n : Int} {E : Nat → Nat → Bool} (h : IdxAt w b n E) {u v : Nat} (hu : u < 48) (hv : v < 48) (t : Bool) :
    IdxAt (w.setCell ⟨b, 1 + u * 48 + v, none⟩ (.bool t)) b n (fun x y => if x = u ∧ y = v then t else E x y) := by
  refine ⟨h.n0, h.n1, ?_, ?_, fun o => by rw [World.frozen?_setCell]; exact h.fz o⟩
  · rw [cell_put _ _ _ _ _ h.cn, if_neg (by intro e; have := congrArg Addr.off e; simp at this; omega)]
  · intro x y hx hy
    rw [cell_put _ _ _ _ _ (h.ce x y hx hy)]
    by_cases e : x = u ∧ y = v
    · obtain ⟨rfl, rfl⟩ := e; simp
    · rw [if_neg, if_neg e]
      intro k; have := congrArg Addr.off k; simp at this; omega

theorem idx_congr {w : World} {b : Nat} {n : Int} {E F : Nat → Nat → Bool} (h : IdxAt w b n E) (e : ∀ x y, E x y = F x y) : IdxAt w b n F := by
  have : E = F := by funext x y; exact e x y
  subst this; exact h

set_option maxHeartbeats 400000 in
theorem setEdge_any (b : Nat) (n : Int) (E : Nat → Nat → Bool) (u v : Nat) (t : Bool) (w : World) (h : IdxAt w b n E) (hu : u < 48) (hv : v < 48) :
    Calls Try.prog 15 #[ptr b, .int .i64 u, .int .i64 v, .bool t] w fun e w' => e = .returned (.tuple #[]) ∧ IdxAt w' b n (upd E u v t) ∧ Only b w w' := by
  have c1 := h.ce u v hu hv
  have c2 := (idx_put h hu hv t).ce v u hv hu
  have H2 : Hid (IdxAt ((w.setCell ⟨b, 1 + u * 48 + v, none⟩ (.bool t)).setCell ⟨b, 1 + v * 48 + u, none⟩ (.bool t)) b n (upd E u v t)) :=
    idx_congr (idx_put (idx_put h hu hv t) hv hu t) (fun x y => by simp only [upd]; by_cases e1 : x = v ∧ y = u <;> by_cases e2 : x = u ∧ y = v <;> simp [e1, e2])
  have f := h.fz
  clear h
  go_enter Try.func15, Try.ntmps15
  go_wp2
  go_end0
  exact ⟨rfl, H2.out, (Only.setCell w ⟨b, 1 + u * 48 + v, none⟩ (.bool t)).trans (Only.setCell _ ⟨b, 1 + v * 48 + u, none⟩ (.bool t))⟩

theorem ends_ok {n u v : Int} (hu : vtx n u = true) (hv : vtx n v = true) (h : u ≠ v) : ends n u v = 0 := by simp [ends, hu, hv, h]

theorem ends_bad {n u v : Int} (h : ¬ (vtx n u = true ∧ vtx n v = true ∧ u ≠ v)) : ends n u v = 1 ∨ ends n u v = 2 := by
  unfold ends
  split
  · rename_i k
    split
    · exact Or.inr rfl
    · rename_i k2; exact absurd ⟨k.1, k.2, k2⟩ h
  · exact Or.inl rfl

set_option maxHeartbeats 400000 in
/-- Insert, refused: nothing turns. -/
theorem Insert_bad (b : Nat) (n u v : Int) (w : World) (hn : w.cell? ⟨b, 0, none⟩ = some (.int .i64 n)) (h : ends n u v ≠ 0) :
    Calls Try.prog 12 #[ptr b, .int .i64 u, .int .i64 v] w fun e w' => e = .returned (.int .i64 (ends n u v)) ∧ w' = w := by
  generalize he : ends n u v = r at h ⊢
  have He : Hid (ends n u v = r) := he
  clear he
  have hr : (r != 0) = true := by simpa using h
  go_enter Try.func12, Try.ntmps12
  go_wp2_with fail
  refine (checkEnds_any b n u v _ hn).mono ?_
  rintro e w' ⟨rfl, rfl⟩
  rw [He.out]
  go_wp2_with fail
  go_ret
  exact ⟨rfl, rfl⟩

set_option maxHeartbeats 400000 in
/-- Insert of an edge that is there: nothing turns. -/
theorem Insert_there (b : Nat) (n : Int) (E : Nat → Nat → Bool) (u v : Nat) (w : World) (h : IdxAt w b n E) (hu : (u : Int) < n) (hv : (v : Int) < n) (huv : u ≠ v) (ht : E u v = true) :
    Calls Try.prog 12 #[ptr b, .int .i64 u, .int .i64 v] w fun e w' => e = .returned (.int .i64 3) ∧ w' = w := by
  have hok : ends n u v = 0 := ends_ok (by simp [vtx]; omega) (by simp [vtx]; omega) (by omega)
  have Hok : Hid (ends n u v = 0) := hok
  have n1 := h.n1
  have c1 := h.ce u v (by omega) (by omega)
  have cn := h.cn
  rw [ht] at c1
  clear h hok ht
  go_enter Try.func12, Try.ntmps12
  go_wp2_with fail
  refine (checkEnds_any b n u v _ cn).mono ?_
  rintro e w' ⟨rfl, rfl⟩
  rw [Hok.out]
  go_wp2_with fail
  go_ret
  exact ⟨rfl, rfl⟩

set_option maxHeartbeats 400000 in
/-- Insert of an edge that is not there. -/
theorem Insert_new (b : Nat) (n : Int) (E : Nat → Nat → Bool) (u v : Nat) (w : World) (h : IdxAt w b n E) (hu : (u : Int) < n) (hv : (v : Int) < n) (huv : u ≠ v) (ht : E u v = false) :
    Calls Try.prog 12 #[ptr b, .int .i64 u, .int .i64 v] w fun e w' => e = .returned (.int .i64 0) ∧ IdxAt w' b n (upd E u v true) ∧ Only b w w' := by
  have hok : ends n u v = 0 := ends_ok (by simp [vtx]; omega) (by simp [vtx]; omega) (by omega)
  have Hok : Hid (ends n u v = 0) := hok
  have n1 := h.n1
  have c1 := h.ce u v (by omega) (by omega)
  have cn := h.cn
  rw [ht] at c1
  clear hok ht
  go_enter Try.func12, Try.ntmps12
  go_wp2_with fail
  refine (checkEnds_any b n u v _ cn).mono ?_
  rintro e w' ⟨rfl, rfl⟩
  rw [Hok.out]
  go_wp2_with fail
  refine (setEdge_any b n E u v true _ h (by omega) (by omega)).mono ?_
  rintro e w1 ⟨rfl, h1, h2⟩
  go_wp2_with fail
  go_ret
  exact ⟨rfl, h1, h2⟩

set_option maxHeartbeats 400000 in
/-- Delete, refused: nothing turns. -/
theorem Delete_bad (b : Nat) (n u v : Int) (w : World) (hn : w.cell? ⟨b, 0, none⟩ = some (.int .i64 n)) (h : ends n u v ≠ 0) :
    Calls Try.prog 13 #[ptr b, .int .i64 u, .int .i64 v] w fun e w' => e = .returned (.int .i64 (ends n u v)) ∧ w' = w := by
  generalize he : ends n u v = r at h ⊢
  have He : Hid (ends n u v = r) := he
  clear he
  have hr : (r != 0) = true := by simpa using h
  go_enter Try.func13, Try.ntmps13
  go_wp2_with fail
  refine (checkEnds_any b n u v _ hn).mono ?_
  rintro e w' ⟨rfl, rfl⟩
  rw [He.out]
  go_wp2_with fail
  go_ret
  exact ⟨rfl, rfl⟩

set_option maxHeartbeats 400000 in
/-- Delete of an edge that is not there: nothing turns. -/
theorem Delete_none (b : Nat) (n : Int) (E : Nat → Nat → Bool) (u v : Nat) (w : World) (h : IdxAt w b n E) (hu : (u : Int) < n) (hv : (v : Int) < n) (huv : u ≠ v) (ht : E u v = false) :
    Calls Try.prog 13 #[ptr b, .int .i64 u, .int .i64 v] w fun e w' => e = .returned (.int .i64 4) ∧ w' = w := by
  have hok : ends n u v = 0 := ends_ok (by simp [vtx]; omega) (by simp [vtx]; omega) (by omega)
  have Hok : Hid (ends n u v = 0) := hok
  have n1 := h.n1
  have c1 := h.ce u v (by omega) (by omega)
  have cn := h.cn
  rw [ht] at c1
  clear h hok ht
  go_enter Try.func13, Try.ntmps13
  go_wp2_with fail
  refine (checkEnds_any b n u v _ cn).mono ?_
  rintro e w' ⟨rfl, rfl⟩
  rw [Hok.out]
  go_wp2_with fail
  go_ret
  exact ⟨rfl, rfl⟩

set_option maxHeartbeats 400000 in
/-- Delete of an edge that is there. -/
theorem Delete_old (b : Nat) (n : Int) (E : Nat → Nat → Bool) (u v : Nat) (w : World) (h : IdxAt w b n E) (hu : (u : Int) < n) (hv : (v : Int) < n) (huv : u ≠ v) (ht : E u v = true) :
    Calls Try.prog 13 #[ptr b, .int .i64 u, .int .i64 v] w fun e w' => e = .returned (.int .i64 0) ∧ IdxAt w' b n (upd E u v false) ∧ Only b w w' := by
  have hok : ends n u v = 0 := ends_ok (by simp [vtx]; omega) (by simp [vtx]; omega) (by omega)
  have Hok : Hid (ends n u v = 0) := hok
  have n1 := h.n1
  have c1 := h.ce u v (by omega) (by omega)
  have cn := h.cn
  rw [ht] at c1
  clear hok ht
  go_enter Try.func13, Try.ntmps13
  go_wp2_with fail
  refine (checkEnds_any b n u v _ cn).mono ?_
  rintro e w' ⟨rfl, rfl⟩
  rw [Hok.out]
  go_wp2_with fail
  refine (setEdge_any b n E u v false _ h (by omega) (by omega)).mono ?_
  rintro e w1 ⟨rfl, h1, h2⟩
  go_wp2_with fail
  go_ret
  exact ⟨rfl, h1, h2⟩

end Go.Proofs.Ytfgahilgjpjncab
