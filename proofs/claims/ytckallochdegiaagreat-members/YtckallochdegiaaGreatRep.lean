import Derived.Test.YtckallochdegiaaGreatRows
import Derived.Test.YtckallochdegiaaGreatPure
import Derived.WalkKit
import Derived.WalkSpells
import Derived.WalkLawsBesides
import Derived.BigQuiet
import Derived.Deep.QuietTactic
import Derived.Deep.OwnRows
import Derived.Deep.RegionLaw
import Derived.Deep.RegionWith
import Derived.Deep.DeepCutAuto
import Derived.BigRegion
namespace Go.Proofs.YtckallochdegiaaGreat
set_option linter.unusedVariables false
set_option linter.unusedSimpArgs false
open Go.RowKit

/-- The pointer to block b. -/
abbrev ptr (b : Nat) : Value := .pointer (some ⟨b, 0, none⟩)

/-- The slice value v holds the items l. -/
structure ItemsAt (w : World) (v : Value) (l : List Itm) (b o cap : Nat) : Prop where
  hv : v = .slice (some ⟨b, o, none⟩) l.length cap
  le : l.length ≤ cap
  mx : cap ≤ maxLen
  c0 : ∀ i, i < l.length → w.cell? ⟨b, o + i * 2, none⟩ = some (.int .i64 (l[i]?.getD (0, 0)).1)
  c1 : ∀ i, i < l.length → w.cell? ⟨b, o + i * 2 + 1, none⟩ = some (.int .i64 (l[i]?.getD (0, 0)).2)
  ty : ∃ c, w.heap[b]? = some (.cells c 71 (0, 0))

def Items (w : World) (v : Value) (l : List Itm) : Prop := ∃ b o cap, ItemsAt w v l b o cap

/-- The slice value v holds the tours ts. -/
structure ListAt (w : World) (v : Value) (ts : List (List Itm)) (b cap : Nat) (f : Nat → Value) : Prop where
  hv : v = .slice (some ⟨b, 0, none⟩) ts.length cap
  le : ts.length ≤ cap
  mx : cap ≤ maxLen
  c0 : ∀ i, i < ts.length → w.cell? ⟨b, i, none⟩ = some (f i)
  it : ∀ i, i < ts.length → Items w (f i) (ts[i]?.getD [])
  ty : ∃ c, w.heap[b]? = some (.cells c 68 (0, 0))

def Lists (w : World) (v : Value) (ts : List (List Itm)) : Prop := ∃ b cap f, ListAt w v ts b cap f

theorem cell_lt {w : World} {b o : Nat} {v : Value} (h : w.cell? ⟨b, o, none⟩ = some v) : b < w.heap.size := by
  simp only [World.cell?] at h
  split at h
  · rename_i k; exact (Array.getElem?_eq_some_iff.1 k).1
  · simp at h

theorem Items.below {w w' : World} {v : Value} {l : List Itm} {B : Nat} (h : Items w v l) (hb : Below B w w') (hB : w.heap.size ≤ B) : Items w' v l := by
  obtain ⟨b, o, cap, h⟩ := h
  obtain ⟨c, hc⟩ := h.ty
  have lt : b < w.heap.size := (Array.getElem?_eq_some_iff.1 hc).1
  refine ⟨b, o, cap, h.hv, h.le, h.mx, fun i hi => ?_, fun i hi => ?_, c, ?_⟩
  · rw [hb.cell (p := ⟨b, o + i * 2, none⟩) (by show b < B; omega)]; exact h.c0 i hi
  · rw [hb.cell (p := ⟨b, o + i * 2 + 1, none⟩) (by show b < B; omega)]; exact h.c1 i hi
  · rw [hb.block b (by omega)]; exact hc

theorem Lists.below {w w' : World} {v : Value} {ts : List (List Itm)} {B : Nat} (h : Lists w v ts) (hb : Below B w w') (hB : w.heap.size ≤ B) : Lists w' v ts := by
  obtain ⟨b, cap, f, h⟩ := h
  obtain ⟨c, hc⟩ := h.ty
  have lt : b < w.heap.size := (Array.getElem?_eq_some_iff.1 hc).1
  refine ⟨b, cap, f, h.hv, h.le, h.mx, fun i hi => ?_, fun i hi => (h.it i hi).below hb hB, c, ?_⟩
  · rw [hb.cell (p := ⟨b, i, none⟩) (by show b < B; omega)]; exact h.c0 i hi
  · rw [hb.block b (by omega)]; exact hc

def Edg.cells (e : Edg) : List Value := [.int .i64 e.u, .int .i64 e.v, .int .i64 e.lev, .bool e.tree]

/-- The slice value v holds the edges es. -/
structure EAt (w : World) (v : Value) (es : List Edg) (b cap : Nat) : Prop where
  hv : v = .slice (some ⟨b, 0, none⟩) es.length cap
  le : es.length ≤ cap
  mx : cap ≤ maxLen
  c0 : ∀ i, i < es.length → w.cell? ⟨b, i * 4, none⟩ = some (.int .i64 (es[i]?.getD e0).u)
  c1 : ∀ i, i < es.length → w.cell? ⟨b, i * 4 + 1, none⟩ = some (.int .i64 (es[i]?.getD e0).v)
  c2 : ∀ i, i < es.length → w.cell? ⟨b, i * 4 + 1 + 1, none⟩ = some (.int .i64 (es[i]?.getD e0).lev)
  c3 : ∀ i, i < es.length → w.cell? ⟨b, i * 4 + 1 + 1 + 1, none⟩ = some (.bool (es[i]?.getD e0).tree)
  ty : ∃ c, w.heap[b]? = some (.cells c 89 (0, 0)) ∧ c.size = cap * 4

def Edges (w : World) (v : Value) (es : List Edg) : Prop := (v = .slice none 0 0 ∧ es = []) ∨ ∃ b cap, EAt w v es b cap

theorem EAt.lt {w : World} {v : Value} {es : List Edg} {b cap : Nat} (h : EAt w v es b cap) : b < w.heap.size := by
  obtain ⟨c, hc, _⟩ := h.ty
  exact (Array.getElem?_eq_some_iff.1 hc).1

theorem EAt.block {w w' : World} {v : Value} {es : List Edg} {b cap : Nat} (h : EAt w v es b cap) (e : w'.heap[b]? = w.heap[b]?) : EAt w' v es b cap := by
  obtain ⟨c, hc, hs⟩ := h.ty
  have k : ∀ o, w'.cell? ⟨b, o, none⟩ = w.cell? ⟨b, o, none⟩ := fun o => World.cell?_of_block (w := w) (a := ⟨b, o, none⟩) e
  exact ⟨h.hv, h.le, h.mx, fun i hi => by rw [k]; exact h.c0 i hi, fun i hi => by rw [k]; exact h.c1 i hi, fun i hi => by rw [k]; exact h.c2 i hi, fun i hi => by rw [k]; exact h.c3 i hi, c, by rw [e]; exact hc, hs⟩

theorem EAt.below {w w' : World} {v : Value} {es : List Edg} {b cap B : Nat} (h : EAt w v es b cap) (hb : Below B w w') (hB : w.heap.size ≤ B) : EAt w' v es b cap :=
  h.block (hb.block b (by have := h.lt; omega))

theorem Edges.below {w w' : World} {v : Value} {es : List Edg} {B : Nat} (h : Edges w v es) (hb : Below B w w') (hB : w.heap.size ≤ B) : Edges w' v es := by
  rcases h with h | ⟨b, cap, h⟩
  · exact Or.inl h
  · exact Or.inr ⟨b, cap, h.below hb hB⟩

end Go.Proofs.YtckallochdegiaaGreat
namespace Go.Proofs.YtckallochdegiaaGreat
set_option linter.unusedVariables false
set_option linter.unusedSimpArgs false
open Go.RowKit

set_option maxRecDepth 100000 in
set_option maxHeartbeats 1000000 in
theorem tour_any (g tb tcap lb lcap i n : Nat) (v : Int) (ts : List (List Itm)) (f : Nat → Value) (w : World)
    (c2 : w.cell? ⟨g, 2, none⟩ = some (.slice (some ⟨tb, 0, none⟩) n tcap)) (hn : n ≤ tcap) (hm : tcap ≤ maxLen) (hi : i < n)
    (ct : w.cell? ⟨tb, i, none⟩ = some (.slice (some ⟨lb, 0, none⟩) ts.length lcap)) (hl : ListAt w (.slice (some ⟨lb, 0, none⟩) ts.length lcap) ts lb lcap f) :
    Calls Tryz.prog 75 #[ptr g, .int .i64 i, .int .i64 v] w fun e w' => e = .returned (.int .i64 (tourIx ts v)) ∧ Below w.heap.size w w' := by
  have HL : Hid (ListAt w (.slice (some ⟨lb, 0, none⟩) ts.length lcap) ts lb lcap f) := hl
  have h1 := hl.le
  have h2 := hl.mx
  unfold maxLen at h2 hm
  clear hl
  go_enter Tryz.func75, Tryz.ntmps75
  go_wp2_with fail
  go_loopw [19] (fun i wr => ∃ k : Nat, k ≤ ts.length ∧ i = .int .i64 k ∧ Hid (∀ j, j < k → hasV (ts[j]?.getD []) v = false) ∧ Hid (Below w.heap.size w wr)) (fun i _ => ts.length - (intOf i).toNat)
  case atStart => exact ⟨0, by omega, rfl, fun j hj => by omega, Below.refl _ _⟩
  case round =>
    obtain ⟨k, hk, rfl, hno, hL⟩ := hrel
    obtain ⟨wo, rfl⟩ : ∃ wo : World, wo = wr := ⟨_, rfl⟩
    by_cases hlt : k < ts.length
    · have hlt' : (k : Int) < (ts.length : Int) := by omega
      obtain ⟨b, o, cap, hI⟩ := HL.out.it k hlt
      have hck : wo.cell? ⟨lb, k, none⟩ = some (.slice (some ⟨b, o, none⟩) (ts[k]?.getD []).length cap) := by
        rw [← hI.hv, ← HL.out.c0 k hlt]
        obtain ⟨c, hc⟩ := HL.out.ty
        exact hL.out.cell (p := ⟨lb, k, none⟩) (Array.getElem?_eq_some_iff.1 hc).1
      have HI : Hid (ItemsAt w (f k) (ts[k]?.getD []) b o cap) := hI
      have hcap := hI.le
      have hmx := hI.mx
      unfold maxLen at hmx
      obtain ⟨l, hl⟩ : ∃ l, l = ts[k]?.getD [] := ⟨_, rfl⟩
      rw [← hl] at HI hck hcap
      have Hl : Hid (l = ts[k]?.getD []) := hl
      clear hl hI
      go_wp2_with fail
      go_loopw [26] (fun i wr => ∃ m : Nat, m ≤ l.length ∧ i = .int .i64 m ∧ Hid (∀ j, j < m → (l[j]?.getD (0, 0) == (v, -1)) = false) ∧ Hid (Below w.heap.size w wr)) (fun i _ => l.length - (intOf i).toNat)
      case atStart => exact ⟨0, by omega, rfl, fun j hj => by omega, hL⟩
      case round =>
        obtain ⟨m, hm', rfl, hno2, hL2⟩ := hrel
        by_cases hlm : m < l.length
        · have hlm' : (m : Int) < (l.length : Int) := by omega
          have d0 : wr.cell? ⟨b, o + m * 2, none⟩ = some (.int .i64 (l[m]?.getD (0, 0)).1) := by
            obtain ⟨c, hc⟩ := HI.out.ty
            rw [hL2.out.cell (p := ⟨b, o + m * 2, none⟩) (Array.getElem?_eq_some_iff.1 hc).1]; exact HI.out.c0 m hlm
          have d1 : wr.cell? ⟨b, o + m * 2 + 1, none⟩ = some (.int .i64 (l[m]?.getD (0, 0)).2) := by
            obtain ⟨c, hc⟩ := HI.out.ty
            rw [hL2.out.cell (p := ⟨b, o + m * 2 + 1, none⟩) (Array.getElem?_eq_some_iff.1 hc).1]; exact HI.out.c1 m hlm
          obtain ⟨x, hx⟩ : ∃ x, x = l[m]?.getD (0, 0) := ⟨_, rfl⟩
          rw [← hx] at d0 d1
          have Hx : Hid (x = l[m]?.getD (0, 0)) := hx
          clear hx
          obtain ⟨x1, x2⟩ := x
          go_wp2
          · have e1 : x1 = v := by assumption
            have e2 : x2 = -1 := by assumption
            go_ret
            exact ⟨ret_int (tourIx_some hlt (by rw [← Hl.out]; exact hasV_true hlm (by rw [← Hx.out, e1, e2])) hno.out).symm, hL2.out.alloc hL2.out.size _⟩
          · have e2 : ¬ x2 = -1 := by assumption
            exact ⟨⟨m + 1, by omega, by go_num, fun j hj => by
              by_cases e : j = m
              · subst e; rw [← Hx.out]; simp [e2]
              · exact hno2.out j (by omega), hL2.out.alloc hL2.out.size _⟩, by simp [intOf]; omega⟩
          · have e2 : ¬ x1 = v := by assumption
            exact ⟨⟨m + 1, by omega, by go_num, fun j hj => by
              by_cases e : j = m
              · subst e; rw [← Hx.out]; simp [e2]
              · exact hno2.out j (by omega), hL2.out.alloc hL2.out.size _⟩, by simp [intOf]; omega⟩
        · go_wp2
          exact ⟨⟨k + 1, by omega, by go_num, fun j hj => by
            by_cases e : j = k
            · subst e; rw [← Hl.out]; exact hasV_false (fun i hi => hno2.out i (by omega))
            · exact hno.out j (by omega), hL2⟩, by simp [intOf]; omega⟩
    · go_wp2
      go_ret
      exact ⟨ret_int (tourIx_none (fun j hj => hno.out j (by omega))).symm, hL.out⟩

end Go.Proofs.YtckallochdegiaaGreat
