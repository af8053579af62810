import Derived.RowKit
namespace Go.Proofs.YtckallochdegiaaGreat
set_option linter.unusedVariables false
set_option linter.unusedSimpArgs false

/-- An item of a tour: a vertex (its second part -1) or a way. -/
abbrev Itm := Int × Int

/-- An edge. -/
structure Edg where
  u : Int
  v : Int
  lev : Int
  tree : Bool

def e0 : Edg := ⟨0, 0, 0, false⟩

/-- A graph: N vertices, the edges, the tours by level. -/
structure Gr where
  N : Nat
  edges : List Edg
  tours : List (List (List Itm))

theorem ret_int {k : IntKind} {a b : Int} (h : a = b) : Ending.returned (.int k a) = .returned (.int k b) := by rw [h]

def hasV (t : List Itm) (v : Int) : Bool := t.any (fun x => x == (v, -1))

/-- Which of the tours has a vertex. -/
def tourIx (ts : List (List Itm)) (v : Int) : Int := match ts.findIdx? (fun t => hasV t v) with | some k => k | none => -1

theorem get_eq {α : Type} {l : List α} {k : Nat} {d : α} (h : k < l.length) : l[k]?.getD d = l[k] := by simp [h]

theorem tourIx_some {ts : List (List Itm)} {v : Int} {k : Nat} (hk : k < ts.length) (h : hasV (ts[k]?.getD []) v = true) (hno : ∀ j, j < k → hasV (ts[j]?.getD []) v = false) : tourIx ts v = k := by
  have : ts.findIdx? (fun t => hasV t v) = some k := by
    rw [List.findIdx?_eq_some_iff_getElem]
    refine ⟨hk, by rw [get_eq hk] at h; exact h, fun j hj => ?_⟩
    have := hno j hj
    rw [get_eq (by omega)] at this
    simp [this]
  simp [tourIx, this]

theorem tourIx_none {ts : List (List Itm)} {v : Int} (hno : ∀ j, j < ts.length → hasV (ts[j]?.getD []) v = false) : tourIx ts v = -1 := by
  have : ts.findIdx? (fun t => hasV t v) = none := by
    rw [List.findIdx?_eq_none_iff]
    intro t ht
    obtain ⟨j, hj, rfl⟩ := List.mem_iff_getElem.1 ht
    have := hno j hj
    rw [get_eq hj] at this
    exact this
  simp [tourIx, this]

theorem hasV_true {l : List Itm} {v : Int} {m : Nat} (hm : m < l.length) (h : l[m]?.getD (0, 0) = (v, -1)) : hasV l v = true := by
  rw [get_eq hm] at h
  simp only [hasV, List.any_eq_true]
  exact ⟨l[m], List.getElem_mem hm, by simp [h]⟩

theorem hasV_false {l : List Itm} {v : Int} (h : ∀ j, j < l.length → (l[j]?.getD (0, 0) == (v, -1)) = false) : hasV l v = false := by
  simp only [hasV, List.any_eq_false]
  intro x hx
  obtain ⟨j, hj, rfl⟩ := List.mem_iff_getElem.1 hx
  have := h j hj
  rw [get_eq hj] at this
  simpa using this

/-- The place of the edge between a and b, a below b; -1. -/
def findIx (es : List Edg) (a b : Int) : Int := match es.findIdx? (fun e => e.u == a && e.v == b) with | some k => k | none => -1

theorem findIx_some {es : List Edg} {a b : Int} {k : Nat} (hk : k < es.length) (h1 : (es[k]?.getD e0).u = a) (h2 : (es[k]?.getD e0).v = b) (hno : ∀ j, j < k → ¬ ((es[j]?.getD e0).u = a ∧ (es[j]?.getD e0).v = b)) : findIx es a b = k := by
  have : es.findIdx? (fun e => e.u == a && e.v == b) = some k := by
    rw [List.findIdx?_eq_some_iff_getElem]
    refine ⟨hk, by rw [get_eq hk] at h1 h2; simp [h1, h2], fun j hj => ?_⟩
    have := hno j hj
    rw [get_eq (by omega)] at this
    simpa using this
  simp [findIx, this]

theorem find_step {es : List Edg} {a b : Int} {k : Nat} {x : Edg} (hno : ∀ j, j < k → ¬ ((es[j]?.getD e0).u = a ∧ (es[j]?.getD e0).v = b)) (hx : x = es[k]?.getD e0) (h : ¬ (x.u = a ∧ x.v = b)) : ∀ j, j < k + 1 → ¬ ((es[j]?.getD e0).u = a ∧ (es[j]?.getD e0).v = b) := by
  intro j hj
  by_cases e : j = k
  · subst e; rw [← hx]; exact h
  · exact hno j (by omega)

theorem findIx_none {es : List Edg} {a b : Int} (hno : ∀ j, j < es.length → ¬ ((es[j]?.getD e0).u = a ∧ (es[j]?.getD e0).v = b)) : findIx es a b = -1 := by
  have : es.findIdx? (fun e => e.u == a && e.v == b) = none := by
    rw [List.findIdx?_eq_none_iff]
    intro t ht
    obtain ⟨j, hj, rfl⟩ := List.mem_iff_getElem.1 ht
    have := hno j hj
    rw [get_eq hj] at this
    simpa using this
  simp [findIx, this]

/-- Is an edge one that counts (all; or those of the forest, of that level and above)? -/
def act (fo : Bool) (lev : Int) (e : Edg) : Bool := !fo || (e.tree && decide (lev ≤ e.lev))

theorem act_no {fo : Bool} {lev : Int} {e : Edg} (h : ¬ act fo lev e = true) : fo = true ∧ (e.tree = false ∨ (e.tree = true ∧ e.lev < lev)) := by
  unfold act at h
  cases fo
  · simp at h
  · cases ht : e.tree
    · exact ⟨rfl, Or.inl rfl⟩
    · simp [ht] at h; exact ⟨rfl, Or.inr ⟨rfl, h⟩⟩
theorem act_yes {fo : Bool} {lev : Int} {e : Edg} (h : act fo lev e = true) : fo = false ∨ (fo = true ∧ e.tree = true ∧ ¬ e.lev < lev) := by
  unfold act at h
  cases fo
  · exact Or.inl rfl
  · simp at h; exact Or.inr ⟨rfl, h.1, by omega⟩

/-- S holds both ends of each edge that counts, or neither. -/
def Closed (es : List Edg) (fo : Bool) (lev : Int) (S : Int → Bool) : Prop := ∀ e, e ∈ es → act fo lev e = true → S e.u = S e.v

/-- x can be reached from v by edges that count. -/
def Rch (es : List Edg) (fo : Bool) (lev : Int) (v x : Int) : Prop := ∀ S : Int → Bool, S v = true → Closed es fo lev S → S x = true

theorem Rch.refl {es : List Edg} {fo : Bool} {lev v : Int} : Rch es fo lev v v := fun _ h _ => h
theorem Rch.step {es : List Edg} {fo : Bool} {lev v : Int} {e : Edg} (he : e ∈ es) (ha : act fo lev e = true) (h : Rch es fo lev v e.u ∨ Rch es fo lev v e.v) : Rch es fo lev v e.u ∧ Rch es fo lev v e.v := by
  rcases h with h | h
  · exact ⟨h, fun S h1 h2 => by rw [← h2 e he ha]; exact h S h1 h2⟩
  · exact ⟨fun S h1 h2 => by rw [h2 e he ha]; exact h S h1 h2, h⟩

/-- How many of the first n are so. -/
def cnt (r : Nat → Bool) : Nat → Nat
  | 0 => 0
  | n + 1 => cnt r n + (if r n then 1 else 0)

theorem cnt_le (r : Nat → Bool) (n : Nat) : cnt r n ≤ n := by
  induction n with
  | zero => simp [cnt]
  | succ n ih => simp only [cnt]; split <;> omega

theorem cnt_mono {r s : Nat → Bool} (n : Nat) (h : ∀ x, x < n → r x = true → s x = true) : cnt r n ≤ cnt s n := by
  induction n with
  | zero => simp [cnt]
  | succ n ih =>
    have := ih (fun x hx => h x (by omega))
    have hn := h n (by omega)
    simp only [cnt]
    cases hr : r n <;> cases hs : s n <;> simp_all <;> omega

theorem cnt_lt {r s : Nat → Bool} (n : Nat) (h : ∀ x, x < n → r x = true → s x = true) {y : Nat} (hy : y < n) (h1 : r y = false) (h2 : s y = true) : cnt r n < cnt s n := by
  induction n with
  | zero => omega
  | succ n ih =>
    simp only [cnt]
    by_cases e : y = n
    · subst e
      have := cnt_mono (r := r) (s := s) y (fun x hx => h x (by omega))
      simp [h1, h2]; omega
    · have := ih (fun x hx => h x (by omega)) (by omega)
      have hn := h n (by omega)
      cases hr : r n <;> cases hs : s n <;> simp_all <;> omega

theorem cnt_congr {r s : Nat → Bool} (n : Nat) (h : ∀ x, x < n → r x = s x) : cnt r n = cnt s n := by
  induction n with
  | zero => rfl
  | succ n ih => simp only [cnt]; rw [ih (fun x hx => h x (by omega)), h n (by omega)]

end Go.Proofs.YtckallochdegiaaGreat
namespace Go.Proofs.YtckallochdegiaaGreat
set_option linter.unusedVariables false
set_option linter.unusedSimpArgs false

/-- How many vertices a tour has. -/
def sizeV (l : List Itm) : Nat := (l.filter fun x => decide (x.2 < 0)).length

theorem sizeV_step (l : List Itm) (m : Nat) (hm : m < l.length) : sizeV (l.take (m + 1)) = sizeV (l.take m) + if (l[m]?.getD (0, 0)).2 < 0 then 1 else 0 := by
  rw [get_eq hm, sizeV, List.take_succ_eq_append_getElem hm, List.filter_append, List.length_append, sizeV]
  congr 1
  by_cases h : l[m].2 < 0 <;> simp [h]

theorem sizeV_le (l : List Itm) : sizeV l ≤ l.length := List.length_filter_le _ _

/-- The numbers below n but two. -/
def others (ka kb n : Nat) : List Nat := (List.range n).filter fun j => decide (j ≠ ka) && decide (j ≠ kb)
theorem others_succ (ka kb n : Nat) : others ka kb (n + 1) = if n ≠ ka ∧ n ≠ kb then others ka kb n ++ [n] else others ka kb n := by
  simp only [others, List.range_succ, List.filter_append]
  by_cases h1 : n = ka <;> by_cases h2 : n = kb <;> simp [h1, h2]
theorem others_le (ka kb n : Nat) : (others ka kb n).length ≤ n := by
  have := List.length_filter_le (fun j => decide (j ≠ ka) && decide (j ≠ kb)) (List.range n)
  simpa [others] using this

/-- A round from an item on. -/
def fromX (t : List Itm) (x : Itm) : List Itm := match t.findIdx? (fun y => x == y) with | some k => t.drop k ++ t.take k | none => t

theorem fromX_some {t : List Itm} {x : Itm} {k : Nat} (hk : k < t.length) (h : t[k]?.getD (0, 0) = x) (hno : ∀ j, j < k → ¬ x = t[j]?.getD (0, 0)) : fromX t x = t.drop k ++ t.take k := by
  have : t.findIdx? (fun y => x == y) = some k := by
    rw [List.findIdx?_eq_some_iff_getElem]
    refine ⟨hk, by rw [get_eq hk] at h; simp [h], fun j hj => ?_⟩
    have := hno j hj
    rw [get_eq (by omega)] at this
    simpa using this
  simp [fromX, this]

theorem fromX_none {t : List Itm} {x : Itm} (hno : ∀ j, j < t.length → ¬ x = t[j]?.getD (0, 0)) : fromX t x = t := by
  have : t.findIdx? (fun y => x == y) = none := by
    rw [List.findIdx?_eq_none_iff]
    intro y hy
    obtain ⟨j, hj, rfl⟩ := List.mem_iff_getElem.1 hy
    have := hno j hj
    rw [get_eq hj] at this
    simpa using this
  simp [fromX, this]

/-- The least vertex of a tour, or v. -/
def leastV (l : List Itm) (v : Int) : Int := l.foldl (fun m x => if x.2 < 0 then min m x.1 else m) v

theorem leastV_step (l : List Itm) (v : Int) (m : Nat) (hm : m < l.length) : leastV (l.take (m + 1)) v = if (l[m]?.getD (0, 0)).2 < 0 then min (leastV (l.take m) v) (l[m]?.getD (0, 0)).1 else leastV (l.take m) v := by
  rw [get_eq hm, leastV, List.take_succ_eq_append_getElem hm, List.foldl_append]; rfl

/-- The round of two trees that are linked by u - v. -/
def joinT (la lb : List Itm) (u v : Int) : List Itm := fromX la (u, -1) ++ [(u, v)] ++ (fromX lb (v, -1) ++ [(v, u)])

/-- The tours of a level behind Link. -/
def linkT (ts : List (List Itm)) (ka kb : Nat) (u v : Int) : List (List Itm) := (others ka kb ts.length).map (fun k => ts[k]?.getD []) ++ [joinT (ts[ka]?.getD []) (ts[kb]?.getD []) u v]

theorem fromX_length (l : List Itm) (x : Itm) : (fromX l x).length = l.length := by
  unfold fromX
  split
  · rename_i k hk
    rw [List.length_append, List.length_drop, List.length_take]
    have := (List.findIdx?_eq_some_iff_getElem.1 hk).1
    omega
  · rfl

theorem others_lt {ka kb n j : Nat} (h : j ∈ others ka kb n) : j < n := by
  simp only [others, List.mem_filter, List.mem_range] at h; exact h.1

/-- The tours of a level behind a cut: t is the round from the way u - v on, p the place of the way back. -/
def cutT (ts : List (List Itm)) (ka kb : Nat) (t : List Itm) (p : Nat) : List (List Itm) := (others ka kb ts.length).map (fun k => ts[k]?.getD []) ++ [(t.take p).drop 1, t.drop (p + 1)]

end Go.Proofs.YtckallochdegiaaGreat
