import Derived.Test.YtckallochdegiaaGreatRep
namespace Go.Proofs.YtckallochdegiaaGreat
set_option linter.unusedVariables false
set_option linter.unusedSimpArgs false
open Go.RowKit

/-- In the midst of a search from v: what has been found so far. -/
structure Part (es : List Edg) (fo : Bool) (lev v : Int) (N : Nat) (r : Nat → Bool) : Prop where
  at0 : r v.toNat = true
  ok : ∀ x, x < N → r x = true → Rch es fo lev v x

def put2 (r : Nat → Bool) (a b : Nat) : Nat → Bool := fun x => if x = b then true else if x = a then true else r x

theorem Part.put {es : List Edg} {fo : Bool} {lev v : Int} {N : Nat} {r : Nat → Bool} (h : Part es fo lev v N r) {e : Edg} (he : e ∈ es) (ha : act fo lev e = true) (hu : 0 ≤ e.u ∧ e.u < N) (hv : 0 ≤ e.v ∧ e.v < N) (hne : r e.u.toNat ≠ r e.v.toNat) :
    Part es fo lev v N (put2 r e.u.toNat e.v.toNat) := by
  have key : Rch es fo lev v e.u ∧ Rch es fo lev v e.v := by
    apply Rch.step he ha
    cases h1 : r e.u.toNat
    · have h2 : r e.v.toNat = true := by
        cases h3 : r e.v.toNat
        · exact absurd (h1.trans h3.symm) hne
        · rfl
      have := h.ok _ (by omega) h2
      rw [Int.toNat_of_nonneg hv.1] at this
      exact Or.inr this
    · have := h.ok _ (by omega) h1
      rw [Int.toNat_of_nonneg hu.1] at this
      exact Or.inl this
  refine ⟨?_, fun x hx hr => ?_⟩
  · simp only [put2]; split
    · rfl
    · split
      · rfl
      · exact h.at0
  · simp only [put2] at hr
    by_cases e1 : x = e.v.toNat
    · rw [e1, Int.toNat_of_nonneg hv.1]; exact key.2
    · rw [if_neg e1] at hr
      by_cases e2 : x = e.u.toNat
      · rw [e2, Int.toNat_of_nonneg hu.1]; exact key.1
      · rw [if_neg e2] at hr; exact h.ok x hx hr

theorem part_put {es : List Edg} {fo : Bool} {lev v x3 : Int} {x4 : Bool} {N a b : Nat} {r : Nat → Bool} (h : Part es fo lev v N r) (he : (⟨a, b, x3, x4⟩ : Edg) ∈ es) (ha : act fo lev ⟨a, b, x3, x4⟩ = true) (hu : a < N) (hv : b < N) (hne : r a ≠ r b) :
    Part es fo lev v N (put2 r a b) := by
  have := h.put he ha ⟨by simp, by simp; exact hu⟩ ⟨by simp, by simp; exact hv⟩ (by simpa using hne)
  simpa using this

theorem put2_more {r : Nat → Bool} {a b N : Nat} (ha : a < N) (hb : b < N) (hne : r a ≠ r b) : cnt r N < cnt (put2 r a b) N := by
  have mono : ∀ x, x < N → r x = true → put2 r a b x = true := by
    intro x _ hx; simp only [put2]; split
    · rfl
    · split
      · rfl
      · exact hx
  cases h1 : r a
  · exact cnt_lt N mono ha h1 (by simp only [put2]; split <;> simp)
  · have h2 : r b = false := by
      cases h3 : r b
      · rfl
      · exact absurd (h1.trans h3.symm) hne
    exact cnt_lt N mono hb h2 (by simp [put2])

/-- What a search ends with. -/
theorem Part.done {es : List Edg} {fo : Bool} {lev v : Int} {N : Nat} {r : Nat → Bool} (h : Part es fo lev v N r) (hv : 0 ≤ v) (hcl : ∀ e, e ∈ es → act fo lev e = true → r e.u.toNat = r e.v.toNat) (hE : ∀ e, e ∈ es → 0 ≤ e.u ∧ 0 ≤ e.v) {x : Nat} (hx : x < N) : r x = true ↔ Rch es fo lev v x := by
  refine ⟨h.ok x hx, fun k => ?_⟩
  have := k (fun y => r y.toNat) h.at0 (fun e he ha => hcl e he ha)
  simpa using this

theorem Tryz.info4 : (Tryz.prog.info? 4).map (fun i => (i.zero, i.size, i.bytes)) = some (some (.bool false), 1, 1) := by kernel_rfl

/-- What holds of a search's row: the bools r, of N, at block b. -/
def Row (w : World) (b N : Nat) (r : Nat → Bool) : Prop := w.rowIs b 4 N (fun x => .bool (r x))

theorem far {b c : Nat} (h : b ≠ c) (w : World) (p : Nat) (x : Value) (o : Nat) : (w.setCell ⟨b, p, none⟩ x).cell? ⟨c, o, none⟩ = w.cell? ⟨c, o, none⟩ :=
  World.cell?_setCell_other (h := fun e => h (congrArg Addr.block e)) ..

theorem row_start (w : World) (N vn : Nat) : Row (w.alloc (.cells ((madeCells #[.bool false] N).setIfInBounds vn (.bool true)) 4)) w.heap.size N (fun x => if x = vn then true else false) := by
  have h := World.rowIs_alloc w ((madeCells #[.bool false] N).setIfInBounds vn (.bool true)) 4 (fun x => .bool (if x = vn then true else false)) ?_
  · rw [Array.size_setIfInBounds, size_madeCells] at h; exact h
  · intro i hi
    rw [Array.size_setIfInBounds, size_madeCells] at hi
    rw [Array.getElem?_setIfInBounds]
    by_cases e : vn = i
    · subst e; simp [size_madeCells, hi]
    · rw [if_neg e, if_neg (fun k => e k.symm)]; simp [madeCells, hi, Nat.mod_one]

def Hor (es : List Edg) (fo : Bool) (lev : Int) (N : Nat) (r r2 : Nat → Bool) (m : Nat) (mob : Bool) : Prop :=
  (mob = false ∧ r2 = r ∧ ∀ j, j < m → act fo lev (es[j]?.getD e0) = true → r (es[j]?.getD e0).u.toNat = r (es[j]?.getD e0).v.toNat) ∨ (mob = true ∧ cnt r N < cnt r2 N)

theorem step_skip {es : List Edg} {fo : Bool} {lev : Int} {N : Nat} {r r2 : Nat → Bool} {m : Nat} {mob : Bool} {x : Edg} (h : Hor es fo lev N r r2 m mob) (hx : x = es[m]?.getD e0) (hn : ¬ act fo lev x = true) : Hor es fo lev N r r2 (m + 1) mob := by
  rcases h with ⟨h1, h2, h3⟩ | h
  · refine Or.inl ⟨h1, h2, fun j hj ha => ?_⟩
    by_cases e : j = m
    · subst e; rw [← hx] at ha; exact absurd ha hn
    · exact h3 j (by omega) ha
  · exact Or.inr h

theorem step_same {es : List Edg} {fo : Bool} {lev : Int} {N : Nat} {r r2 : Nat → Bool} {m : Nat} {mob : Bool} {x : Edg} (h : Hor es fo lev N r r2 m mob) (hx : x = es[m]?.getD e0) (hn : r2 x.u.toNat = r2 x.v.toNat) : Hor es fo lev N r r2 (m + 1) mob := by
  rcases h with ⟨h1, h2, h3⟩ | h
  · refine Or.inl ⟨h1, h2, fun j hj ha => ?_⟩
    by_cases e : j = m
    · subst e; rw [← hx, ← h2]; exact hn
    · exact h3 j (by omega) ha
  · exact Or.inr h

theorem step_put {es : List Edg} {fo : Bool} {lev : Int} {N : Nat} {r r2 : Nat → Bool} {m m' a b : Nat} {mob : Bool} (h : Hor es fo lev N r r2 m mob) (ha : a < N) (hb : b < N) (hn : r2 a ≠ r2 b) : Hor es fo lev N r (put2 r2 a b) m' true := by
  have := put2_more ha hb hn
  rcases h with ⟨h1, h2, h3⟩ | h
  · exact Or.inr ⟨rfl, by rw [← h2]; exact this⟩
  · exact Or.inr ⟨rfl, by omega⟩

theorem step_closed {es : List Edg} {fo : Bool} {lev : Int} {N : Nat} {r r2 : Nat → Bool} {mob : Bool} (h : Hor es fo lev N r r2 es.length mob) : mob = false → ∀ e, e ∈ es → act fo lev e = true → r2 e.u.toNat = r2 e.v.toNat := by
  intro hm e he ha
  rcases h with ⟨h1, h2, h3⟩ | h
  · obtain ⟨j, hj, rfl⟩ := List.mem_iff_getElem.1 he
    have := h3 j hj
    rw [get_eq hj] at this
    rw [h2]; exact this ha
  · rw [hm] at h; simp at h

theorem step_less {es : List Edg} {fo : Bool} {lev : Int} {N : Nat} {r r2 : Nat → Bool} {m gk : Nat} {mob : Bool} (h : Hor es fo lev N r r2 m mob) (hg : 2 * (N - cnt r N) + (if true = true then 1 else 0) ≤ gk) (hc : cnt r2 N ≤ N) : 2 * (N - cnt r2 N) + (if mob = true then 1 else 0) < gk := by
  rw [if_pos rfl] at hg
  rcases h with ⟨h1, h2, h3⟩ | ⟨h1, h2⟩
  · subst h2; rw [h1]; simp; omega
  · rw [h1]; simp; omega

theorem row_put {w : World} {b N : Nat} {r : Nat → Bool} (h : Row w b N r) (x y : Nat) : Row ((w.setCell ⟨b, x, none⟩ (.bool true)).setCell ⟨b, y, none⟩ (.bool true)) b N (put2 r x y) := by
  refine ((World.rowIs.set h x (.bool true)).set y (.bool true)).congr ?_
  intro i hi
  simp only [put2]
  by_cases e1 : i = y
  · simp [e1]
  · by_cases e2 : i = x
    · simp [e2]
    · simp [e1, e2]

theorem Row.drewN' {w : World} {b N : Nat} {r : Nat → Bool} (k : Nat) (h : Row w b N r) : Row (w.drewN k) b N r := by
  induction k with
  | zero => exact h
  | succ k ih => exact ih
theorem Below.drewN' {B : Nat} {a w : World} (k : Nat) (h : Below B a w) : Below B a (w.drewN k) := by
  induction k with
  | zero => exact h
  | succ k ih => exact ih.drew
theorem Row.alloc {w : World} {b N : Nat} {r : Nat → Bool} (h : Row w b N r) (o : Obj) : Row (w.alloc o) b N r := World.rowIs.alloc h o
theorem hid {p : Prop} (h : p) : Hid p := h

set_option maxRecDepth 100000 in
set_option maxHeartbeats 2000000 in
theorem Component_at (g eb cap N : Nat) (v lev : Int) (fo : Bool) (es : List Edg) (w : World)
    (c0 : w.cell? ⟨g, 0, none⟩ = some (.int .i64 N)) (c1 : w.cell? ⟨g, 1, none⟩ = some (.slice (some ⟨eb, 0, none⟩) es.length cap)) (hE : EAt w (.slice (some ⟨eb, 0, none⟩) es.length cap) es eb cap)
    (hN : N ≤ 48) (hv0 : 0 ≤ v) (hv1 : v < N) (hin : ∀ e, e ∈ es → (0 ≤ e.u ∧ e.u < N) ∧ (0 ≤ e.v ∧ e.v < N)) :
    Calls Tryz.prog 69 #[ptr g, .int .i64 v, .bool fo, .int .i64 lev] w fun e w' => e = .returned (.slice (some ⟨w.heap.size, 0, none⟩) N N) ∧ (∃ r, Row w' w.heap.size N r ∧ ∀ x, x < N → (r x = true ↔ Rch es fo lev v x)) ∧ Below w.heap.size w w' := by
  have HE : Hid (EAt w (.slice (some ⟨eb, 0, none⟩) es.length cap) es eb cap) := hE
  have h1 := hE.le
  have h2 := hE.mx
  have glt : g < w.heap.size := cell_lt c0
  unfold maxLen at h2
  clear hE
  obtain ⟨vn, rfl⟩ := Int.eq_ofNat_of_zero_le hv0
  have hmk := run_make_row' (P := Tryz.prog) 109 4 (.bool false) 1 Tryz.underlying109 Tryz.info4 rfl .i64 .i64 N (by omega) (by omega)
  have hr0 := World.rowIs_made w (.bool false) N 4
  have hcv := hr0.cell (i := vn) (by omega)
  have hfv := hr0.frozen
  have HR : Hid (Row (w.alloc (.cells ((madeCells #[.bool false] N).setIfInBounds vn (.bool true)) 4)) w.heap.size N (fun x => if x = vn then true else false)) := row_start w N vn
  have HP : Hid (Part es fo lev vn N (fun x => if x = vn then true else false)) := by
    refine ⟨by simp, fun x hx h => ?_⟩
    have : x = vn := by
      by_cases e : x = vn
      · exact e
      · simp [e] at h
    subst this; exact Rch.refl
  clear hr0
  go_enter Tryz.func69, Tryz.ntmps69
  go_wp2_with fail
  go_loopg [10] (2 * N + 1) (fun gk mo wr => ∃ mob r, mo = .bool mob ∧ Hid (Row wr w.heap.size N r) ∧ Hid (Part es fo lev vn N r) ∧ Hid (mob = false → ∀ e, e ∈ es → act fo lev e = true → r e.u.toNat = r e.v.toNat) ∧ Hid (2 * (N - cnt r N) + (if mob then 1 else 0) ≤ gk) ∧ Hid (Below w.heap.size w wr))
  case atStart => exact ⟨true, _, rfl, HR, HP, fun h => by simp at h, by show 2 * (N - cnt _ N) + (if true = true then 1 else 0) ≤ 2 * N + 1; rw [if_pos rfl]; omega, (Below.refl _ _).alloc (Nat.le_refl _) _⟩
  case round =>
    obtain ⟨mob, r, rfl, hR, hP, hcl, hgk, hL⟩ := hrel
    obtain ⟨wo, rfl⟩ : ∃ wo : World, wo = wr := ⟨_, rfl⟩
    clear HR HP hcv hfv hmk
    cases mob
    · go_wp2_with fail
      go_ret
      exact ⟨rfl, ⟨r, hR.out, fun x hx => hP.out.done hv0 (hcl.out (by simp)) (fun e he => ⟨(hin e he).1.1, (hin e he).2.1⟩) hx⟩, hL.out⟩
    · have e1 : wo.cell? ⟨g, 1, none⟩ = some (.slice (some ⟨eb, 0, none⟩) es.length cap) := by rw [hL.out.cell (p := ⟨g, 1, none⟩) glt]; exact c1
      go_wp2_with fail
      go_loopg [10, 27] es.length (fun gk mo i wr => ∃ (m : Nat) (mob : Bool) (r2 : Nat → Bool), m ≤ es.length ∧ gk = es.length - m ∧ i = .int .i64 m ∧ mo = .bool mob ∧ Hid (Row wr w.heap.size N r2) ∧ Hid (Part es fo lev vn N r2) ∧
        Hid (Hor es fo lev N r r2 m mob) ∧ Hid (Below w.heap.size w wr))
      case atStart => exact ⟨0, false, r, by omega, by omega, rfl, rfl, hR, hP, Or.inl ⟨rfl, rfl, fun j hj => by omega⟩, hL⟩
      case round =>
        obtain ⟨m, mob, r2, hm, rfl, rfl, rfl, hR2, hP2, hor, hL2⟩ := hrel
        by_cases hlt : m < es.length
        · have hlt' : (m : Int) < (es.length : Int) := by omega
          have E2 := HE.out.below hL2.out (Nat.le_refl _)
          have d0 := E2.c0 m hlt
          have d1 := E2.c1 m hlt
          have d2 := E2.c2 m hlt
          have d3 := E2.c3 m hlt
          have hin2 := hin _ (show es[m]?.getD e0 ∈ es by rw [get_eq hlt]; exact List.getElem_mem hlt)
          have hmem : es[m]?.getD e0 ∈ es := by rw [get_eq hlt]; exact List.getElem_mem hlt
          obtain ⟨x, hx⟩ : ∃ x, x = es[m]?.getD e0 := ⟨_, rfl⟩
          rw [← hx] at d0 d1 d2 d3 hin2 hmem
          have Hx : Hid (x = es[m]?.getD e0) := hx
          have Hmem : Hid (x ∈ es) := hmem
          clear hx E2 hmem
          obtain ⟨x1, x2, x3, x4⟩ := x
          simp only at d0 d1 d2 d3 hin2
          obtain ⟨⟨i1, i2⟩, i3, i4⟩ := hin2
          obtain ⟨a, rfl⟩ := Int.eq_ofNat_of_zero_le i1
          obtain ⟨b, rfl⟩ := Int.eq_ofNat_of_zero_le i3
          have hB2 := hL2.out.size
          have ra : ∀ o, (wr.alloc o).cell? ⟨w.heap.size, a, none⟩ = some (.bool (r2 a)) := fun o => (hR2.out.alloc o).cell (i := a) (by omega)
          have rb : ∀ o, (wr.alloc o).cell? ⟨w.heap.size, b, none⟩ = some (.bool (r2 b)) := fun o => (hR2.out.alloc o).cell (i := b) (by omega)
          have fr : ∀ o p, (wr.alloc o).frozen? ⟨w.heap.size, p, none⟩ = false := fun o p => (hR2.out.alloc o).frozen p
          have kf := far (show w.heap.size ≠ wr.heap.size from by have := World.rowIs.lt hR2.out; omega)
          have rb2 : ∀ o q, (((wr.alloc o).drewN q).setCell ⟨w.heap.size, a, none⟩ (.bool true)).cell? ⟨w.heap.size, b, none⟩ = some (.bool (if b = a then true else r2 b)) := fun o q => by
            rw [(World.rowIs.set (Row.drewN' q (Row.alloc hR2.out o)) a (.bool true)).cell (i := b) (by omega)]
            by_cases e : b = a
            · simp [e]
            · simp [e]
          by_cases hact : act fo lev ⟨a, b, x3, x4⟩ = true
          · have Hact : Hid (act fo lev ⟨a, b, x3, x4⟩ = true) := hact
            have key := act_yes hact
            clear hact
            simp only at key
            rcases key with rfl | ⟨rfl, rfl, h3⟩
            all_goals
              cases hra : r2 a
            all_goals
              cases hrb : r2 b
            all_goals
              rw [hra] at ra
              rw [hrb] at rb
              have Hra := hid hra
              have Hrb := hid hrb
              clear hra hrb
              go_wp2_with fail
            all_goals
              go_quiet (fail)
            all_goals
              go_wp2
            all_goals
              first
              | (go_roundg (es.length - (m + 1))
                 case measure => omega
                 case rel => exact ⟨m + 1, mob, r2, by omega, by omega, by go_num, rfl, (hR2.out.alloc _).drewN' _, hP2, step_same hor.out Hx.out (by simp only [Int.toNat_natCast]; rw [Hra.out, Hrb.out]), Below.drewN' _ (hL2.out.alloc hB2 _)⟩)
              | (go_roundg (es.length - (m + 1))
                 case measure => omega
                 case rel => exact ⟨m + 1, true, put2 r2 a b, by omega, by omega, by go_num, rfl, row_put ((hR2.out.alloc _).drewN' _) a b, part_put hP2.out Hmem.out Hact.out (by omega) (by omega) (by rw [Hra.out, Hrb.out]; simp), step_put hor.out (by omega) (by omega) (by rw [Hra.out, Hrb.out]; simp), ((Below.drewN' _ (hL2.out.alloc hB2 _)).setCell (Nat.le_refl _) _).setCell (Nat.le_refl _) _⟩)
          · obtain ⟨rfl, h3⟩ := act_no hact
            simp only at h3
            have Hact : Hid (¬ act true lev ⟨a, b, x3, x4⟩ = true) := hact
            clear hact
            rcases h3 with rfl | ⟨rfl, h3⟩
            all_goals
              go_wp2
              go_roundg (es.length - (m + 1))
              case measure => omega
              case rel => exact ⟨m + 1, mob, r2, by omega, by omega, by go_num, rfl, hR2.out.alloc _, hP2, step_skip hor.out Hx.out Hact.out, hL2.out.alloc hB2 _⟩
        · go_wp2_with fail
          have hme : m = es.length := by omega
          go_roundg (2 * (N - cnt r2 N) + (if mob then 1 else 0))
          case measure => exact step_less hor.out hgk.out (cnt_le r2 N)
          case rel => exact ⟨mob, r2, rfl, hR2, hP2, step_closed (hme ▸ hor.out), Nat.le_refl _, hL2⟩

end Go.Proofs.YtckallochdegiaaGreat
