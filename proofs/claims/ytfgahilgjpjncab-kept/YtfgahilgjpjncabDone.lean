import Derived.Test.YtfgahilgjpjncabMid
namespace Go.Proofs.Ytfgahilgjpjncab
open Go.RowKit

theorem find_inj (f : Nat → Nat) (n u : Nat) (hu : u < n) (inj : ∀ x y, x < n → y < n → f x = f y → x = y) : (List.range n).find? (fun v => f v == f u) = some u := by
  cases h : (List.range n).find? (fun v => f v == f u) with
  | none =>
    have := List.find?_eq_none.1 h u (List.mem_range.2 hu)
    simp at this
  | some v =>
    have h1 := List.find?_some h
    have h2 := List.mem_of_find?_eq_some h
    have h3 := inj v u (List.mem_range.1 h2) hu (by simpa using h1)
    rw [h3]

theorem find_none (f : Nat → Nat) (n x : Nat) (h : ∀ u, u < n → f u ≠ x) : (List.range n).find? (fun v => f v == x) = none := by
  rw [List.find?_eq_none]
  intro v hv
  have := h v (List.mem_range.1 hv)
  simpa using this

def tags (W a b eb lb n : Nat) (er lr : Nat → Nat) (x : Nat) : Nat :=
  if x = W then 0 else if x = a then 1 else if x = b then 2 else if x = eb then 3 else if x = lb then 4 else
  match (List.range n).find? (fun u => er u == x) with
  | some u => 5 + u
  | none => match (List.range n).find? (fun u => lr u == x) with
    | some u => 100 + u
    | none => 1000

theorem owns_row {w : World} {B : Nat} {e : TypeId} {k : Nat} {v : Value} {xs : List Value} (h : w.ownsRow B e 1 v k xs) (hk : 1 ≤ k) :
    ∃ g cap m f, v = .slice (some ⟨g, 0, none⟩) k cap ∧ w.rowIs g e m f ∧ B ≤ g ∧ ∀ j u, xs[j]? = some u → w.cell? ⟨g, j, none⟩ = some u := by
  have hc := fun g hg => h.cells (g := g) hg
  rcases h.2 with ⟨_, h0⟩ | ⟨g, cap, cur, hv, hB, hg, _⟩
  · omega
  · refine ⟨g, cap, cur.size, fun i => cur[i]?.getD default, hv, ⟨cur, hg, rfl, fun i hi => by simp [hi]⟩, hB, fun j u hj => ?_⟩
    have := hc g (by rw [hv]; rfl) j u hj
    have e : (⟨g, 0, none⟩ : Addr).add j = ⟨g, j, none⟩ := by
      simp only [Addr.add]
      by_cases hj0 : j = 0
      · subst hj0; simp
      · simp [hj0]
    rw [e] at this
    exact this

theorem idx_of_row {w : World} {b n : Nat} (h : w.rowIs b 45 2305 (xf n)) (h1 : 1 ≤ n) (h2 : n ≤ 48) : IdxAt w b n (fun _ _ => false) := by
  refine ⟨by omega, by omega, h.cell (i := 0) (by omega), ?_, h.frozen⟩
  intro u v hu hv
  rw [h.cell (i := 1 + u * 48 + v) (by omega), xf, if_neg (by omega)]

theorem mid_done {w : World} {B W a b n : Nat} {ev lv : Value} {er lr : Nat → Nat} (h : Mid w B W a b n ev lv n n ev lv er lr) (n1 : 1 ≤ n) (n48 : n ≤ 48) :
    ∃ g E, Inv w g W n E ∧ Apart g W B n := by
  obtain ⟨eb, ecap, m1, f1, he, re, hBe, ce⟩ := owns_row h.oe n1
  obtain ⟨lb, lcap, m2, f2, hl, rl, hBl, cl⟩ := owns_row h.ol n1
  have aW : a ≠ W := rowIs_ne h.ra h.rW (by decide)
  have bW : b ≠ W := rowIs_ne h.rb h.rW (by decide)
  have eW : eb ≠ W := rowIs_ne re h.rW (by decide)
  have ea : eb ≠ a := rowIs_ne re h.ra (by decide)
  have eb' : eb ≠ b := rowIs_ne re h.rb (by decide)
  have lW : lb ≠ W := rowIs_ne rl h.rW (by decide)
  have la : lb ≠ a := rowIs_ne rl h.ra (by decide)
  have lb' : lb ≠ b := rowIs_ne rl h.rb (by decide)
  have le : lb ≠ eb := rowIs_ne rl re (by decide)
  refine ⟨⟨a, b, eb, lb, ecap, lcap, er, lr, tags W a b eb lb n er lr⟩, fun _ _ => false, ⟨?_, idx_of_row h.ra n1 n48, idx_of_row h.rb n1 n48, fun _ _ => rfl⟩, ?_⟩
  · have wc := fun i hi => h.rW.cell (i := i) hi
    refine ⟨wc 0 (by omega), wc 1 (by omega), wc 2 (by omega), ?_, ?_, ⟨0, wc 5 (by omega)⟩, h.rW.frozen, ?_, ?_, ?_, ?_, ?_, ?_⟩
    · rw [wc 3 (by omega)]; simp [wf, he]
    · rw [wc 4 (by omega)]; simp [wf, hl]
    · intro u hu; exact ce u _ (by simp [hu, sl])
    · intro u hu; exact cl u _ (by simp [hu, sl])
    · intro u v hu hv; exact (h.re u hu).cell hv
    · intro u v hu hv; exact ⟨0, (h.rl u hu).cell hv⟩
    · intro u hu; exact (h.re u hu).frozen
    · intro u hu; exact (h.rl u hu).frozen
  · refine ⟨?_, ?_, ?_, ?_, ?_, ?_, ?_, n48, n1, h.bW, h.ba, h.bb, h.be, h.bl⟩
    · simp [tags]
    · simp [tags, aW]
    · simp [tags, bW, h.ab.symm]
    · simp [tags, eW, ea, eb']
    · simp [tags, lW, la, lb', le]
    · intro u hu
      have k := h.re u hu
      simp only [tags]
      rw [if_neg (rowIs_ne k h.rW (by decide)), if_neg (rowIs_ne k h.ra (by decide)), if_neg (rowIs_ne k h.rb (by decide)), if_neg (rowIs_ne k re (by decide)), if_neg (rowIs_ne k rl (by decide)), find_inj er n u hu h.ie]
    · intro u hu
      have k := h.rl u hu
      simp only [tags]
      rw [if_neg (rowIs_ne k h.rW (by decide)), if_neg (rowIs_ne k h.ra (by decide)), if_neg (rowIs_ne k h.rb (by decide)), if_neg (rowIs_ne k re (by decide)), if_neg (rowIs_ne k rl (by decide)), find_none er n (lr u) (fun v hv => rowIs_ne (h.re v hv) k (by decide)), find_inj lr n u hu h.il]
end Go.Proofs.Ytfgahilgjpjncab
