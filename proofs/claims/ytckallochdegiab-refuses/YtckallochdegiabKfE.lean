import Derived.Test.YtckallochdegiabKfD
namespace Go.Proofs.Ytckallochdegiab
set_option linter.unusedVariables false
set_option linter.unusedSimpArgs false
open Go.RowKit

def lsOf : Option Nat → List Nat
  | none => []
  | some k => rfLs[k]?.getD []
theorem rfCells_at (h : Nat) (l : List (Option Nat × Option Nat × Option Nat × Nat)) (i : Nat) (x : Option Nat × Option Nat × Option Nat × Nat) (hx : l[i]? = some x) :
    (rfCells h l)[i * 4]? = some (slv h x.1) ∧ (rfCells h l)[i * 4 + 1]? = some (slv h x.2.1) ∧ (rfCells h l)[i * 4 + 1 + 1]? = some (slv h x.2.2.1) ∧ (rfCells h l)[i * 4 + 1 + 1 + 1]? = some (.int .i64 (x.2.2.2 : Nat)) := by
  induction l generalizing i with
  | nil => simp at hx
  | cons y l ih =>
    cases i with
    | zero =>
      obtain rfl : y = x := by simpa using hx
      exact ⟨rfl, rfl, rfl, rfl⟩
    | succ i =>
      have := ih i (by simpa using hx)
      rw [show (i + 1) * 4 = i * 4 + 4 by omega]
      exact this
theorem slv_at (w : World) (o : Option Nat) (ho : ∀ k, o = some k → k < 34) (hm : ∀ k, k < 34 → (rfLs[k]?.getD []).length ≤ maxLen) : LiAt (litW w rfLs) (slv w.heap.size o) (lsOf o) := by
  cases o with
  | none => exact ⟨none, 0, rfl, Nat.le_refl _, by unfold maxLen; omega, fun q => by simp [lsOf] at q⟩
  | some k =>
    have hk := ho k rfl
    have h34 : k < rfLs.length := hk
    exact litW_at w rfLs k _ (by rw [List.getElem?_eq_getElem h34]; rfl) (hm k hk)
theorem rfLs_len : ∀ k, k < 34 → (rfLs[k]?.getD []).length ≤ 100 := by decide +kernel
/-- A good refusal. -/
structure RfsOk (r : Rfs) : Prop where
  la : r.a.length ≤ 100
  lb : r.b.length ≤ 100
  lc : r.c.length ≤ 100
  xa : ∀ x, x ∈ r.a → x < 256
  xb : ∀ x, x ∈ r.b → x < 256
  xc : ∀ x, x ∈ r.c → x < 256
  ee : r.e ≤ 10
  rd : (readF r.text).1 = r.e
  bd : ∀ j, j < 9 → j ≠ 7 → (readF (badT r j)).1 = whyT j
set_option maxRecDepth 100000 in
theorem rfs_small : ∀ i, i < 27 → ((rfs i).a.length ≤ 100 ∧ (rfs i).b.length ≤ 100 ∧ (rfs i).c.length ≤ 100) ∧ ((∀ x, x ∈ (rfs i).a → x < 256) ∧ (∀ x, x ∈ (rfs i).b → x < 256) ∧ ∀ x, x ∈ (rfs i).c → x < 256) ∧ (rfs i).e ≤ 10 := by decide +kernel
theorem rfs_good (i : Nat) (hi : i < 27) : RfsOk (rfs i) := by
  obtain ⟨⟨h1, h2, h3⟩, ⟨h4, h5, h6⟩, h7⟩ := rfs_small i hi
  exact ⟨h1, h2, h3, h4, h5, h6, h7, rfs_ok i hi, rfs_bad i hi⟩
set_option maxRecDepth 100000 in
theorem rfIx_all : ∀ i, i < 27 → ∃ x, rfIx[i]? = some x ∧ (lsOf x.1 = (rfs i).a ∧ lsOf x.2.1 = (rfs i).b ∧ lsOf x.2.2.1 = (rfs i).c ∧ x.2.2.2 = (rfs i).e) ∧ (x.1.getD 0 < 34 ∧ x.2.1.getD 0 < 34 ∧ x.2.2.1.getD 0 < 34) := by
  have h : ∀ i, i < 27 → (fun x => (lsOf x.1 = (rfs i).a ∧ lsOf x.2.1 = (rfs i).b ∧ lsOf x.2.2.1 = (rfs i).c ∧ x.2.2.2 = (rfs i).e) ∧ (x.1.getD 0 < 34 ∧ x.2.1.getD 0 < 34 ∧ x.2.2.1.getD 0 < 34)) (rfIx[i]?.getD (none, none, none, 0)) := by decide +kernel
  intro i hi
  have hl : i < rfIx.length := hi
  have := h i hi
  rw [List.getElem?_eq_getElem hl] at this
  exact ⟨_, List.getElem?_eq_getElem hl, this⟩

/-- What refusals answers. -/
def RefsR (w : World) (e : Ending) (w' : World) : Prop := ∃ (lb : Nat) (v : Nat → Value × Value × Value), e = .returned (.slice (some ⟨lb, 0, none⟩) 27 27) ∧ lb < w'.heap.size ∧ (∀ i, i < 27 → (w'.cell? ⟨lb, i * 4, none⟩ = some (v i).1 ∧ w'.cell? ⟨lb, i * 4 + 1, none⟩ = some (v i).2.1 ∧ w'.cell? ⟨lb, i * 4 + 1 + 1, none⟩ = some (v i).2.2 ∧ w'.cell? ⟨lb, i * 4 + 1 + 1 + 1, none⟩ = some (.int .i64 ((rfs i).e : Nat))) ∧ LiAt w' (v i).1 (rfs i).a ∧ LiAt w' (v i).2.1 (rfs i).b ∧ LiAt w' (v i).2.2 (rfs i).c) ∧ Below w.heap.size w w'

theorem refusals_R (w : World) : Calls Try.prog 48 #[] w (RefsR w) := by
  refine (refusals_any w).mono ?_
  rintro _ w' ⟨rfl, rfl⟩
  have hz : (litW w rfLs).heap.size = w.heap.size + 34 := litW_size w rfLs
  have hb0 := litW_below w rfLs
  have hbn := (Below.refl (litW w rfLs).heap.size (litW w rfLs)).alloc (Nat.le_refl _) (.cells (rfCells w.heap.size rfIx).toArray 91)
  have hm : ∀ k, k < 34 → (rfLs[k]?.getD []).length ≤ maxLen := fun k hk => Nat.le_trans (rfLs_len k hk) (by unfold maxLen; omega)
  refine ⟨w.heap.size + 34, fun i => let x := rfIx[i]?.getD (none, none, none, 0); (slv w.heap.size x.1, slv w.heap.size x.2.1, slv w.heap.size x.2.2.1), rfl, ?_, fun i hi => ?_, hb0.trans (hbn.mono hb0.size)⟩
  · simp; omega
  · obtain ⟨x, hx, ⟨ea, eb, ec, ee⟩, ⟨ka, kb, kc⟩⟩ := rfIx_all i hi
    obtain ⟨c1, c2, c3, c4⟩ := rfCells_at w.heap.size rfIx i x hx
    have nc := fun j => new_cell (litW w rfLs) (rfCells w.heap.size rfIx).toArray 91 j
    rw [hz] at nc
    have go : ∀ o : Option Nat, o.getD 0 < 34 → LiAt ((litW w rfLs).alloc (.cells (rfCells w.heap.size rfIx).toArray 91)) (slv w.heap.size o) (lsOf o) := fun o h => (slv_at w o (fun k q => by rw [q] at h; exact h) hm).below hbn
    simp only [hx, Option.getD_some]
    refine ⟨⟨?_, ?_, ?_, ?_⟩, ?_, ?_, ?_⟩
    · rw [nc]; simpa using c1
    · rw [nc]; simpa using c2
    · rw [nc]; simpa using c3
    · rw [nc, ← ee]; simpa using c4
    · rw [← ea]; exact go _ ka
    · rw [← eb]; exact go _ kb
    · rw [← ec]; exact go _ kc
end Go.Proofs.Ytckallochdegiab
