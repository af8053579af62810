import Derived.Test.YtfgahilgjpjncaaNums
import Derived.Test.YtfgahilgjpjncaaEuler
import Derived.Great.BuildSlice
namespace Go.Proofs.Ytfgahilgjpjncaa
set_option linter.unusedVariables false
set_option linter.unusedSimpArgs false
open Go.RowKit

def xf (n : Nat) (E : Nat → Nat → Bool) : Nat → Value := fun i => if i = 0 then .int .i64 n else .bool (E ((i - 1) / 48) ((i - 1) % 48))

/-- Block b is an index of n vertices whose edges are E. -/
structure IdxAt (w : World) (b n : Nat) (E : Nat → Nat → Bool) : Prop where
  n0 : 1 ≤ n
  n1 : n ≤ 48
  row : w.rowIs b 86 2305 (xf n E)

section
variable {w w' : World} {b n : Nat} {E : Nat → Nat → Bool}
theorem IdxAt.cn (h : IdxAt w b n E) : w.cell? ⟨b, 0, none⟩ = some (.int .i64 n) := h.row.cell (by omega)
theorem IdxAt.ce (h : IdxAt w b n E) (u v : Nat) (hu : u < 48) (hv : v < 48) : w.cell? ⟨b, 1 + u * 48 + v, none⟩ = some (.bool (E u v)) := by
  have := h.row.cell (i := 1 + u * 48 + v) (by omega)
  rw [this, xf, if_neg (by omega), show (1 + u * 48 + v - 1) / 48 = u by omega, show (1 + u * 48 + v - 1) % 48 = v by omega]
theorem IdxAt.fz (h : IdxAt w b n E) : ∀ o, w.frozen? ⟨b, o, none⟩ = false := h.row.frozen
theorem IdxAt.but {S : Nat → Prop} (h : IdxAt w b n E) (k : But S w w') (hS : ¬ S b) : IdxAt w' b n E := ⟨h.n0, h.n1, row_but h.row k hS⟩
theorem IdxAt.ty (h : IdxAt w b n E) : TyAt w b 86 := rowIs_ty h.row

theorem idx_put (h : IdxAt w b n E) {u v : Nat} (hu : u < 48) (hv : v < 48) (t : Bool) :
    IdxAt (w.setCell ⟨b, 1 + u * 48 + v, none⟩ (.bool t)) b n (fun x y => if x = u ∧ y = v then t else E x y) := by
  refine ⟨h.n0, h.n1, (h.row.set (1 + u * 48 + v) (.bool t)).congr ?_⟩
  intro i hi
  simp only [xf]
  by_cases e : i = 1 + u * 48 + v
  · subst e
    rw [if_pos rfl, if_neg (by omega), show (1 + u * 48 + v - 1) / 48 = u by omega, show (1 + u * 48 + v - 1) % 48 = v by omega, if_pos ⟨rfl, rfl⟩]
  · rw [if_neg e]
    by_cases z : i = 0
    · rw [if_pos z, if_pos z]
    · rw [if_neg z, if_neg z, if_neg]
      rintro ⟨q1, q2⟩
      omega
end

def vtx (n : Nat) (v : Int) : Bool := decide (0 ≤ v) && decide (v < n)

set_option maxHeartbeats 400000 in
theorem isVertex_any (b n : Nat) (v : Int) (w : World) (hn : w.cell? ⟨b, 0, none⟩ = some (.int .i64 n)) :
    Calls Try.prog 60 #[ptr b, .int .i64 v] w fun e w' => e = .returned (.bool (vtx n v)) ∧ w' = w := by
  by_cases h0 : 0 ≤ v
  · by_cases h1 : v < n
    · go_enter Try.func60, Try.ntmps60
      go_wp2
      go_ret
      exact ⟨by simp [vtx, h0, h1], rfl⟩
    · go_enter Try.func60, Try.ntmps60
      go_wp2
      go_ret
      exact ⟨by simp [vtx, h0, h1], rfl⟩
  · go_enter Try.func60, Try.ntmps60
    go_wp2
    go_ret
    exact ⟨by rw [show vtx n v = false from by simp [vtx]; omega]; rfl, rfl⟩


/-- What is wrong with two ends. -/
def ends (n : Nat) (u v : Int) : Int := if vtx n u = true ∧ vtx n v = true then (if u = v then 2 else 0) else 1

set_option maxHeartbeats 400000 in
theorem checkEnds_any (b n : Nat) (u v : Int) (w : World) (hn : w.cell? ⟨b, 0, none⟩ = some (.int .i64 n)) :
    Calls Try.prog 54 #[ptr b, .int .i64 u, .int .i64 v] w fun e w' => e = .returned (.int .i64 (ends n u v)) ∧ w' = w := by
  have hu := fun W h => isVertex_any b n u W h
  have hv := fun W h => isVertex_any b n v W h
  cases h0 : vtx n u
  · go_enter Try.func54, Try.ntmps54
    go_wp2_with fail
    refine (isVertex_any b n u _ hn).mono ?_
    rintro e w' ⟨rfl, rfl⟩
    rw [h0]
    go_wp2_with fail
    go_ret
    exact ⟨by simp [ends, h0], rfl⟩
  · cases h1 : vtx n v
    · go_enter Try.func54, Try.ntmps54
      go_wp2_with fail
      refine (isVertex_any b n u _ hn).mono ?_
      rintro e w' ⟨rfl, rfl⟩
      rw [h0]
      go_wp2_with fail
      refine (isVertex_any b n v _ hn).mono ?_
      rintro e w' ⟨rfl, rfl⟩
      rw [h1]
      go_wp2_with fail
      go_ret
      exact ⟨by simp [ends, h1], rfl⟩
    · by_cases h2 : u = v
      · subst h2
        go_enter Try.func54, Try.ntmps54
        go_wp2_with fail
        refine (isVertex_any b n u _ hn).mono ?_
        rintro e w' ⟨rfl, rfl⟩
        rw [h0]
        go_wp2_with fail
        refine (isVertex_any b n u _ hn).mono ?_
        rintro e w' ⟨rfl, rfl⟩
        rw [h0]
        go_wp2_with fail
        go_ret
        exact ⟨by simp [ends, h0], rfl⟩
      · have h3 : (u == v) = false := by simpa using h2
        go_enter Try.func54, Try.ntmps54
        go_wp2_with fail
        refine (isVertex_any b n u _ hn).mono ?_
        rintro e w' ⟨rfl, rfl⟩
        rw [h0]
        go_wp2_with fail
        refine (isVertex_any b n v _ hn).mono ?_
        rintro e w' ⟨rfl, rfl⟩
        rw [h1]
        go_wp2_with fail
        go_ret
        exact ⟨by simp [ends, h0, h1, h2], rfl⟩


theorem idx_congr {w : World} {b n : Nat} {E F : Nat → Nat → Bool} (h : IdxAt w b n E) (e : ∀ x y, E x y = F x y) : IdxAt w b n F := by
  have : E = F := by funext x y; exact e x y
  subst this; exact h

set_option maxHeartbeats 400000 in
theorem setEdge_any (b n : Nat) (E : Nat → Nat → Bool) (u v : Nat) (t : Bool) (w : World) (h : IdxAt w b n E) (hu : u < 48) (hv : v < 48) :
    Calls Try.prog 55 #[ptr b, .int .i64 u, .int .i64 v, .bool t] w fun e w' => e = .returned (.tuple #[]) ∧ IdxAt w' b n (upd E u v t) ∧ But (fun k => k = b) w w' := by
  have c1 := h.ce u v hu hv
  have c2 := (idx_put h hu hv t).ce v u hv hu
  have H2 : Hid (IdxAt ((w.setCell ⟨b, 1 + u * 48 + v, none⟩ (.bool t)).setCell ⟨b, 1 + v * 48 + u, none⟩ (.bool t)) b n (upd E u v t)) :=
    idx_congr (idx_put (idx_put h hu hv t) hv hu t) (fun x y => by simp only [upd]; by_cases e1 : x = v ∧ y = u <;> by_cases e2 : x = u ∧ y = v <;> simp [e1, e2])
  have f := h.fz
  clear h
  go_enter Try.func55, Try.ntmps55
  go_wp2
  go_end0
  exact ⟨rfl, H2.out, (But.setCell w ⟨b, 1 + u * 48 + v, none⟩ (.bool t)).same (But.setCell _ ⟨b, 1 + v * 48 + u, none⟩ (.bool t))⟩

theorem ends_ok {n : Nat} {u v : Int} (hu : vtx n u = true) (hv : vtx n v = true) (h : u ≠ v) : ends n u v = 0 := by simp [ends, hu, hv, h]

theorem ends_bad {n : Nat} {u v : Int} (h : ¬ (vtx n u = true ∧ vtx n v = true ∧ u ≠ v)) : ends n u v = 1 ∨ ends n u v = 2 := by
  unfold ends
  split
  · rename_i k
    split
    · exact Or.inr rfl
    · rename_i k2; exact absurd ⟨k.1, k.2, k2⟩ h
  · exact Or.inl rfl

set_option maxHeartbeats 400000 in
/-- Insert, refused: nothing turns. -/
theorem Insert_bad (b n : Nat) (u v : Int) (w : World) (hn : w.cell? ⟨b, 0, none⟩ = some (.int .i64 n)) (h : ends n u v ≠ 0) :
    Calls Try.prog 33 #[ptr b, .int .i64 u, .int .i64 v] w fun e w' => e = .returned (.int .i64 (ends n u v)) ∧ w' = w := by
  generalize he : ends n u v = r at h ⊢
  have He : Hid (ends n u v = r) := he
  clear he
  have hr : (r != 0) = true := by simpa using h
  go_enter Try.func33, Try.ntmps33
  go_wp2_with fail
  refine (checkEnds_any b n u v _ hn).mono ?_
  rintro e w' ⟨rfl, rfl⟩
  rw [He.out]
  go_wp2_with fail
  go_ret
  exact ⟨rfl, rfl⟩

set_option maxHeartbeats 400000 in
/-- Insert of an edge that is there: nothing turns. -/
theorem Insert_there (b n : Nat) (E : Nat → Nat → Bool) (u v : Nat) (w : World) (h : IdxAt w b n E) (hu : (u : Int) < n) (hv : (v : Int) < n) (huv : u ≠ v) (ht : E u v = true) :
    Calls Try.prog 33 #[ptr b, .int .i64 u, .int .i64 v] w fun e w' => e = .returned (.int .i64 3) ∧ w' = w := by
  have hok : ends n u v = 0 := ends_ok (by simp [vtx]; omega) (by simp [vtx]; omega) (by omega)
  have Hok : Hid (ends n u v = 0) := hok
  have n1 := h.n1
  have c1 := h.ce u v (by omega) (by omega)
  have cn := h.cn
  rw [ht] at c1
  clear h hok ht
  go_enter Try.func33, Try.ntmps33
  go_wp2_with fail
  refine (checkEnds_any b n u v _ cn).mono ?_
  rintro e w' ⟨rfl, rfl⟩
  rw [Hok.out]
  go_wp2_with fail
  go_ret
  exact ⟨rfl, rfl⟩

set_option maxHeartbeats 400000 in
/-- Insert of an edge that is not there. -/
theorem Insert_new (b n : Nat) (E : Nat → Nat → Bool) (u v : Nat) (w : World) (h : IdxAt w b n E) (hu : (u : Int) < n) (hv : (v : Int) < n) (huv : u ≠ v) (ht : E u v = false) :
    Calls Try.prog 33 #[ptr b, .int .i64 u, .int .i64 v] w fun e w' => e = .returned (.int .i64 0) ∧ IdxAt w' b n (upd E u v true) ∧ But (fun k => k = b) w w' := by
  have hok : ends n u v = 0 := ends_ok (by simp [vtx]; omega) (by simp [vtx]; omega) (by omega)
  have Hok : Hid (ends n u v = 0) := hok
  have n1 := h.n1
  have c1 := h.ce u v (by omega) (by omega)
  have cn := h.cn
  rw [ht] at c1
  clear hok ht
  go_enter Try.func33, Try.ntmps33
  go_wp2_with fail
  refine (checkEnds_any b n u v _ cn).mono ?_
  rintro e w' ⟨rfl, rfl⟩
  rw [Hok.out]
  go_wp2_with fail
  refine (setEdge_any b n E u v true _ h (by omega) (by omega)).mono ?_
  rintro e w1 ⟨rfl, h1, h2⟩
  go_wp2_with fail
  go_ret
  exact ⟨rfl, h1, h2⟩

set_option maxHeartbeats 400000 in
/-- Delete, refused: nothing turns. -/
theorem Delete_bad (b n : Nat) (u v : Int) (w : World) (hn : w.cell? ⟨b, 0, none⟩ = some (.int .i64 n)) (h : ends n u v ≠ 0) :
    Calls Try.prog 34 #[ptr b, .int .i64 u, .int .i64 v] w fun e w' => e = .returned (.int .i64 (ends n u v)) ∧ w' = w := by
  generalize he : ends n u v = r at h ⊢
  have He : Hid (ends n u v = r) := he
  clear he
  have hr : (r != 0) = true := by simpa using h
  go_enter Try.func34, Try.ntmps34
  go_wp2_with fail
  refine (checkEnds_any b n u v _ hn).mono ?_
  rintro e w' ⟨rfl, rfl⟩
  rw [He.out]
  go_wp2_with fail
  go_ret
  exact ⟨rfl, rfl⟩

set_option maxHeartbeats 400000 in
/-- Delete of an edge that is not there: nothing turns. -/
theorem Delete_none (b n : Nat) (E : Nat → Nat → Bool) (u v : Nat) (w : World) (h : IdxAt w b n E) (hu : (u : Int) < n) (hv : (v : Int) < n) (huv : u ≠ v) (ht : E u v = false) :
    Calls Try.prog 34 #[ptr b, .int .i64 u, .int .i64 v] w fun e w' => e = .returned (.int .i64 4) ∧ w' = w := by
  have hok : ends n u v = 0 := ends_ok (by simp [vtx]; omega) (by simp [vtx]; omega) (by omega)
  have Hok : Hid (ends n u v = 0) := hok
  have n1 := h.n1
  have c1 := h.ce u v (by omega) (by omega)
  have cn := h.cn
  rw [ht] at c1
  clear h hok ht
  go_enter Try.func34, Try.ntmps34
  go_wp2_with fail
  refine (checkEnds_any b n u v _ cn).mono ?_
  rintro e w' ⟨rfl, rfl⟩
  rw [Hok.out]
  go_wp2_with fail
  go_ret
  exact ⟨rfl, rfl⟩

set_option maxHeartbeats 400000 in
/-- Delete of an edge that is there. -/
theorem Delete_old (b n : Nat) (E : Nat → Nat → Bool) (u v : Nat) (w : World) (h : IdxAt w b n E) (hu : (u : Int) < n) (hv : (v : Int) < n) (huv : u ≠ v) (ht : E u v = true) :
    Calls Try.prog 34 #[ptr b, .int .i64 u, .int .i64 v] w fun e w' => e = .returned (.int .i64 0) ∧ IdxAt w' b n (upd E u v false) ∧ But (fun k => k = b) w w' := by
  have hok : ends n u v = 0 := ends_ok (by simp [vtx]; omega) (by simp [vtx]; omega) (by omega)
  have Hok : Hid (ends n u v = 0) := hok
  have n1 := h.n1
  have c1 := h.ce u v (by omega) (by omega)
  have cn := h.cn
  rw [ht] at c1
  clear hok ht
  go_enter Try.func34, Try.ntmps34
  go_wp2_with fail
  refine (checkEnds_any b n u v _ cn).mono ?_
  rintro e w' ⟨rfl, rfl⟩
  rw [Hok.out]
  go_wp2_with fail
  refine (setEdge_any b n E u v false _ h (by omega) (by omega)).mono ?_
  rintro e w1 ⟨rfl, h1, h2⟩
  go_wp2_with fail
  go_ret
  exact ⟨rfl, h1, h2⟩

set_option maxHeartbeats 400000 in
theorem New_bad (n s : Int) (w : World) (h : n < 1 ∨ 48 < n) :
    Calls Try.prog 26 #[.int .i64 n, .int .i64 s] w fun e w' => e = .returned (.tuple #[.pointer none, .int .i64 1]) ∧ w' = w := by
  by_cases h1 : n < 1
  · go_enter Try.func26, Try.ntmps26
    go_wp2
    go_ret2
    exact ⟨rfl, rfl⟩
  · have h2 : 48 < n := by omega
    go_enter Try.func26, Try.ntmps26
    go_wp2
    go_ret2
    exact ⟨rfl, rfl⟩

def z45 : Array Value := (Value.int .i64 0 :: List.replicate 2304 (Value.bool false)).toArray
theorem zero45 (w : World) : Sem.run Try.prog (zeroValue 86) w = .ok (.agg z45) w := by kernel_rfl
theorem z45_size : z45.size = 2305 := by simp [z45, -List.reduceReplicate]
theorem z45_ne : ¬ z45 = #[] := by intro h; have := congrArg Array.size h; rw [z45_size] at this; simp at this

set_option maxRecDepth 100000 in
set_option maxHeartbeats 400000 in
theorem New_ok0 (n : Nat) (s : Int) (w : World) (h1 : 1 ≤ n) (h2 : n ≤ 48) :
    Calls Try.prog 26 #[.int .i64 n, .int .i64 s] w fun e w' => e = .returned (.tuple #[ptr w.heap.size, .int .i64 0]) ∧ w' = w.alloc (.cells (z45.setIfInBounds 0 (.int .i64 n)) 86) := by
  have hz := zero45
  have hz1 := z45_ne
  go_enter Try.func26, Try.ntmps26
  go_wp2
  go_ret2
  exact ⟨rfl, rfl⟩

theorem z45_get (k : Nat) (h : k < 2304) : z45[1 + k]? = some (Value.bool false) := by
  simp [z45, Nat.add_comm 1 k, h, -List.reduceReplicate]

theorem New_idx (n : Nat) (w : World) (h1 : 1 ≤ n) (h2 : n ≤ 48) : IdxAt (w.alloc (.cells (z45.setIfInBounds 0 (.int .i64 n)) 86)) w.heap.size n (fun _ _ => false) := by
  refine ⟨h1, h2, ?_⟩
  have h := World.rowIs_alloc w (z45.setIfInBounds 0 (.int .i64 n)) 86 (xf n (fun _ _ => false)) ?_
  · rw [Array.size_setIfInBounds, z45_size] at h; exact h
  · intro i hi
    rw [Array.size_setIfInBounds, z45_size] at hi
    rw [Array.getElem?_setIfInBounds]
    by_cases e : i = 0
    · subst e; simp [xf, z45_size]
    · rw [if_neg (fun h => e h.symm)]
      obtain ⟨k, rfl⟩ : ∃ k, i = 1 + k := ⟨i - 1, by omega⟩
      rw [z45_get k (by omega)]
      simp [xf]

/-- New, where it may be: a new block, nothing else. -/
theorem New_ok (n : Nat) (s : Int) (w : World) (h1 : 1 ≤ n) (h2 : n ≤ 48) :
    Calls Try.prog 26 #[.int .i64 n, .int .i64 s] w fun e w' => e = .returned (.tuple #[ptr w.heap.size, .int .i64 0]) ∧ IdxAt w' w.heap.size n (fun _ _ => false) ∧ w'.heap.size = w.heap.size + 1 ∧ Below w.heap.size w w' := by
  refine (New_ok0 n s w h1 h2).mono ?_
  rintro e w' ⟨rfl, rfl⟩
  exact ⟨rfl, New_idx n w h1 h2, by simp, (Below.refl _ _).alloc (Nat.le_refl _) _⟩

end Go.Proofs.Ytfgahilgjpjncaa
