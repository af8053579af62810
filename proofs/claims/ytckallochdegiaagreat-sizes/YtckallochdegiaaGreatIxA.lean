import Derived.Test.YtckallochdegiaaGreatTrC
import Derived.Great.BuildSlice
namespace Go.Proofs.YtckallochdegiaaGreat
set_option linter.unusedVariables false
set_option linter.unusedSimpArgs false
open Go.RowKit

/-- Where the edge u - v lies. -/
abbrev eo (u v : Nat) : Nat := 1 + u * 144 + v * 3

/-- Block b is an index of n vertices: its edges E, its rounds R, its rises r. -/
structure IdxP (w : World) (b n : Nat) (E : Nat → Nat → E3) (R : Nat → Nat → List Itm) (r : Int) (F : Nat → Value) : Prop where
  n0 : 1 ≤ n
  n1 : n ≤ 48
  row : w.rowIs b 104 7202 F
  cn : F 0 = .int .i64 n
  e0 : ∀ u v, u < 48 → v < 48 → F (1 + u * 144 + v * 3) = .bool (E u v).1
  e1 : ∀ u v, u < 48 → v < 48 → F (1 + u * 144 + v * 3 + 1) = .bool (E u v).2.1
  e2 : ∀ u v, u < 48 → v < 48 → F (1 + u * 144 + v * 3 + 2) = .int .i64 (E u v).2.2
  cr : F 7201 = .int .i64 r
  it : ∀ k v, k < 6 → v < 48 → PIt w (F (6913 + k * 48 + v)) (R k v)

section
variable {w w' : World} {b n : Nat} {E : Nat → Nat → E3} {R : Nat → Nat → List Itm} {r : Int} {F : Nat → Value}
theorem IdxP.hn (h : IdxP w b n E R r F) : w.cell? ⟨b, 0, none⟩ = some (.int .i64 n) := by rw [h.row.cell (by omega), h.cn]
theorem IdxP.hr (h : IdxP w b n E R r F) : w.cell? ⟨b, 7201, none⟩ = some (.int .i64 r) := by rw [h.row.cell (by omega), h.cr]
theorem IdxP.c0 (h : IdxP w b n E R r F) (u v : Nat) (hu : u < 48) (hv : v < 48) : w.cell? ⟨b, 1 + u * 144 + v * 3, none⟩ = some (.bool (E u v).1) := by rw [h.row.cell (by omega), h.e0 u v hu hv]
theorem IdxP.c1 (h : IdxP w b n E R r F) (u v : Nat) (hu : u < 48) (hv : v < 48) : w.cell? ⟨b, 1 + u * 144 + v * 3 + 1, none⟩ = some (.bool (E u v).2.1) := by rw [h.row.cell (by omega), h.e1 u v hu hv]
theorem IdxP.c2 (h : IdxP w b n E R r F) (u v : Nat) (hu : u < 48) (hv : v < 48) : w.cell? ⟨b, 1 + u * 144 + v * 3 + 2, none⟩ = some (.int .i64 (E u v).2.2) := by rw [h.row.cell (by omega), h.e2 u v hu hv]
theorem IdxP.fz (h : IdxP w b n E R r F) : ∀ o, w.frozen? ⟨b, o, none⟩ = false := h.row.frozen
theorem IdxP.ty (h : IdxP w b n E R r F) : TyAt w b 104 := rowIs_ty h.row
theorem IdxP.noIt (h : IdxP w b n E R r F) : NoIt (fun k => k = b) w := noIt_one h.ty (by decide)
theorem IdxP.but {S : Nat → Prop} (h : IdxP w b n E R r F) (k : But S w w') (hS : ¬ S b) (hn : NoIt S w) : IdxP w' b n E R r F :=
  ⟨h.n0, h.n1, row_but h.row k hS, h.cn, h.e0, h.e1, h.e2, h.cr, fun i v hi hv => (h.it i v hi hv).but k hn⟩
theorem IdxP.below (h : IdxP w b n E R r F) (k : Below w.heap.size w w') : IdxP w' b n E R r F :=
  h.but (S := fun _ => False) (But.of k) (fun q => q) (fun _ q => q.elim)
theorem IdxP.fo (h : IdxP w b n E R r F) {k : Nat} (hk : k < 6) : Fo w b (6913 + k * 48) F (R k) := ⟨h.row, by omega, fun v hv => h.it k v hk hv⟩

/-- A forest has changed. -/
theorem IdxP.forest (h : IdxP w b n E R r F) {k : Nat} (hk : k < 6) {R' : Nat → List Itm} {F' : Nat → Value} (hf : Fo w' b (6913 + k * 48) F' R') (hm : Frm (6913 + k * 48) F F') (hb : But (fun q => q = b) w w') :
    IdxP w' b n E (fun j => if j = k then R' else R j) r F' := by
  refine ⟨h.n0, h.n1, hf.row, ?_, fun u v hu hv => ?_, fun u v hu hv => ?_, fun u v hu hv => ?_, ?_, fun j v hj hv => ?_⟩
  · rw [hm 0 (by omega)]; exact h.cn
  · rw [hm _ (by omega)]; exact h.e0 u v hu hv
  · rw [hm _ (by omega)]; exact h.e1 u v hu hv
  · rw [hm _ (by omega)]; exact h.e2 u v hu hv
  · rw [hm _ (by omega)]; exact h.cr
  · by_cases c : j = k
    · subst c; rw [if_pos rfl]; exact hf.it v hv
    · rw [if_neg c, hm _ (by omega)]; exact (h.it j v hj hv).but hb h.noIt

/-- An edge is laid, one way. -/
def put1 (E : Nat → Nat → E3) (u v : Nat) (e : E3) : Nat → Nat → E3 := fun x y => if x = u ∧ y = v then e else E x y
theorem IdxP.put (h : IdxP w b n E R r F) {u v : Nat} (hu : u < 48) (hv : v < 48) (e : E3) :
    ∃ F', IdxP (((w.setCell ⟨b, 1 + u * 144 + v * 3, none⟩ (.bool e.1)).setCell ⟨b, 1 + u * 144 + v * 3 + 1, none⟩ (.bool e.2.1)).setCell ⟨b, 1 + u * 144 + v * 3 + 2, none⟩ (.int .i64 e.2.2)) b n (put1 E u v e) R r F' := by
  have bs := ((But.setCell w ⟨b, 1 + u * 144 + v * 3, none⟩ (.bool e.1)).same (But.setCell _ ⟨b, 1 + u * 144 + v * 3 + 1, none⟩ (.bool e.2.1))).same (But.setCell _ ⟨b, 1 + u * 144 + v * 3 + 2, none⟩ (.int .i64 e.2.2))
  refine ⟨_, h.n0, h.n1, ((h.row.set _ _).set _ _).set _ _, ?_, fun x y hx hy => ?_, fun x y hx hy => ?_, fun x y hx hy => ?_, ?_, fun k z hk hz => ?_⟩
  · rw [if_neg (by omega), if_neg (by omega), if_neg (by omega)]; exact h.cn
  · simp only [put1]
    by_cases c : x = u ∧ y = v
    · obtain ⟨rfl, rfl⟩ := c
      rw [if_neg (by omega), if_neg (by omega), if_pos rfl, if_pos ⟨rfl, rfl⟩]
    · rw [if_neg (by omega), if_neg (by omega), if_neg (by omega), if_neg c]; exact h.e0 x y hx hy
  · simp only [put1]
    by_cases c : x = u ∧ y = v
    · obtain ⟨rfl, rfl⟩ := c
      rw [if_neg (by omega), if_pos rfl, if_pos ⟨rfl, rfl⟩]
    · rw [if_neg (by omega), if_neg (by omega), if_neg (by omega), if_neg c]; exact h.e1 x y hx hy
  · simp only [put1]
    by_cases c : x = u ∧ y = v
    · obtain ⟨rfl, rfl⟩ := c
      rw [if_pos rfl, if_pos ⟨rfl, rfl⟩]
    · rw [if_neg (by omega), if_neg (by omega), if_neg (by omega), if_neg c]; exact h.e2 x y hx hy
  · rw [if_neg (by omega), if_neg (by omega), if_neg (by omega)]; exact h.cr
  · rw [if_neg (by omega), if_neg (by omega), if_neg (by omega)]; exact (h.it k z hk hz).but bs h.noIt

/-- The rises are counted. -/
theorem IdxP.setR (h : IdxP w b n E R r F) (r' : Int) : ∃ F', IdxP (w.setCell ⟨b, 7201, none⟩ (.int .i64 r')) b n E R r' F' := by
  have bs := But.setCell w ⟨b, 7201, none⟩ (.int .i64 r')
  refine ⟨_, h.n0, h.n1, h.row.set _ _, ?_, fun x y hx hy => ?_, fun x y hx hy => ?_, fun x y hx hy => ?_, ?_, fun k z hk hz => ?_⟩
  · rw [if_neg (by omega)]; exact h.cn
  · rw [if_neg (by omega)]; exact h.e0 x y hx hy
  · rw [if_neg (by omega)]; exact h.e1 x y hx hy
  · rw [if_neg (by omega)]; exact h.e2 x y hx hy
  · rw [if_pos rfl]
  · rw [if_neg (by omega)]; exact (h.it k z hk hz).but bs h.noIt
theorem IdxP.congr {E' : Nat → Nat → E3} {R' : Nat → Nat → List Itm} (h : IdxP w b n E R r F) (he : ∀ u v, u < 48 → v < 48 → E u v = E' u v) (hr : ∀ k v, k < 6 → v < 48 → R k v = R' k v) : IdxP w b n E' R' r F :=
  ⟨h.n0, h.n1, h.row, h.cn, fun u v hu hv => by rw [← he u v hu hv]; exact h.e0 u v hu hv, fun u v hu hv => by rw [← he u v hu hv]; exact h.e1 u v hu hv, fun u v hu hv => by rw [← he u v hu hv]; exact h.e2 u v hu hv, h.cr, fun k v hk hv => by rw [← hr k v hk hv]; exact h.it k v hk hv⟩
end

def vtx (n : Nat) (v : Int) : Bool := decide (0 ≤ v) && decide (v < n)
theorem vtx_yes {n : Nat} {v : Int} (h0 : 0 ≤ v) (h1 : v < n) : vtx n v = true := by simp [vtx, h0, h1]

set_option maxHeartbeats 400000 in
theorem isVertex_any (b n : Nat) (v : Int) (w : World) (hn : w.cell? ⟨b, 0, none⟩ = some (.int .i64 n)) :
    Calls Tryz.prog 59 #[ptr b, .int .i64 v] w fun e w' => e = .returned (.bool (vtx n v)) ∧ w' = w := by
  by_cases h0 : 0 ≤ v
  · by_cases h1 : v < n
    · go_enter Tryz.func59, Tryz.ntmps59
      go_wp2
      go_ret
      exact ⟨by simp [vtx, h0, h1], rfl⟩
    · go_enter Tryz.func59, Tryz.ntmps59
      go_wp2
      go_ret
      exact ⟨by simp [vtx, h0, h1], rfl⟩
  · go_enter Tryz.func59, Tryz.ntmps59
    go_wp2
    go_ret
    exact ⟨by rw [show vtx n v = false from by simp [vtx]; omega]; rfl, rfl⟩

/-- What is wrong with two ends. -/
def ends (n : Nat) (u v : Int) : Int := if vtx n u = true ∧ vtx n v = true then (if u = v then 2 else 0) else 1
theorem ends_ok {n : Nat} {u v : Int} (hu : vtx n u = true) (hv : vtx n v = true) (h : u ≠ v) : ends n u v = 0 := by simp [ends, hu, hv, h]
set_option maxHeartbeats 400000 in
theorem checkEnds_any (b n : Nat) (u v : Int) (w : World) (hn : w.cell? ⟨b, 0, none⟩ = some (.int .i64 n)) :
    Calls Tryz.prog 93 #[ptr b, .int .i64 u, .int .i64 v] w fun e w' => e = .returned (.int .i64 (ends n u v)) ∧ w' = w := by
  cases h0 : vtx n u
  · go_enter Tryz.func93, Tryz.ntmps93
    go_wp2_with fail
    refine (isVertex_any b n u _ hn).mono ?_
    rintro e w' ⟨rfl, rfl⟩
    rw [h0]
    go_wp2_with fail
    go_ret
    exact ⟨by simp [ends, h0], rfl⟩
  · cases h1 : vtx n v
    · go_enter Tryz.func93, Tryz.ntmps93
      go_wp2_with fail
      refine (isVertex_any b n u _ hn).mono ?_
      rintro e w' ⟨rfl, rfl⟩
      rw [h0]
      go_wp2_with fail
      refine (isVertex_any b n v _ hn).mono ?_
      rintro e w' ⟨rfl, rfl⟩
      rw [h1]
      go_wp2_with fail
      go_ret
      exact ⟨by simp [ends, h1], rfl⟩
    · by_cases h2 : u = v
      · subst h2
        go_enter Tryz.func93, Tryz.ntmps93
        go_wp2_with fail
        refine (isVertex_any b n u _ hn).mono ?_
        rintro e w' ⟨rfl, rfl⟩
        rw [h0]
        go_wp2_with fail
        refine (isVertex_any b n u _ hn).mono ?_
        rintro e w' ⟨rfl, rfl⟩
        rw [h0]
        go_wp2_with fail
        go_ret
        exact ⟨by simp [ends, h0], rfl⟩
      · have h3 : (u == v) = false := by simpa using h2
        go_enter Tryz.func93, Tryz.ntmps93
        go_wp2_with fail
        refine (isVertex_any b n u _ hn).mono ?_
        rintro e w' ⟨rfl, rfl⟩
        rw [h0]
        go_wp2_with fail
        refine (isVertex_any b n v _ hn).mono ?_
        rintro e w' ⟨rfl, rfl⟩
        rw [h1]
        go_wp2_with fail
        go_ret
        exact ⟨by simp [ends, h0, h1, h2], rfl⟩

/-- An edge as a value. -/
abbrev ev3 (e : E3) : Value := .agg #[.bool e.1, .bool e.2.1, .int .i64 e.2.2]

/-- What an inner call leaves: the index goes on. -/
def IdxR (w : World) (b n : Nat) (E : Nat → Nat → E3) (R : Nat → Nat → List Itm) (r : Int) (e : Ending) (w' : World) : Prop :=
  e = .returned (.tuple #[]) ∧ (∃ F', IdxP w' b n E R r F') ∧ But (fun k => k = b) w w'

set_option maxRecDepth 100000 in
set_option maxHeartbeats 2000000 in
theorem setEdge_any (w : World) (b n : Nat) (E : Nat → Nat → E3) (R : Nat → Nat → List Itm) (r : Int) (F : Nat → Value) (u v : Nat) (t f : Bool) (l : Int) (h : IdxP w b n E R r F) (hu : u < 48) (hv : v < 48) :
    Calls Tryz.prog 84 #[ptr b, .int .i64 u, .int .i64 v, .agg #[.bool t, .bool f, .int .i64 l]] w (IdxR w b n (updE E u v (t, f, l)) R r) := by
  have HI := hid h
  have bl := h.row.lt
  have c0 := h.c0 u v hu hv
  have c1 := h.c1 u v hu hv
  have c2 := h.c2 u v hu hv
  have fz := h.fz
  have hu' : (u : Int) < 48 := by omega
  have hv' : (v : Int) < 48 := by omega
  clear h
  go_enter Tryz.func84, Tryz.ntmps84
  go_wp2_with fail
  go_region
  obtain ⟨F1, p1⟩ := HI.out.put hu hv (t, f, l)
  have bs : But (fun k => k = b) w _ := ((But.setCell w ⟨b, 1 + u * 144 + v * 3, none⟩ (.bool t)).same (But.setCell _ ⟨b, 1 + u * 144 + v * 3 + 1, none⟩ (.bool f))).same (But.setCell _ ⟨b, 1 + u * 144 + v * 3 + 2, none⟩ (.int .i64 l))
  have HS : Hid ((((w.setCell ⟨b, 1 + u * 144 + v * 3, none⟩ (.bool t)).setCell ⟨b, 1 + u * 144 + v * 3 + 1, none⟩ (.bool f)).setCell ⟨b, 1 + u * 144 + v * 3 + 2, none⟩ (.int .i64 l)).heap.size = w.heap.size) := by show _ = _; simp [World.setCell]
  simp only at p1
  clear c0 c1 c2 fz
  generalize ((w.setCell ⟨b, 1 + u * 144 + v * 3, none⟩ (.bool t)).setCell ⟨b, 1 + u * 144 + v * 3 + 1, none⟩ (.bool f)).setCell ⟨b, 1 + u * 144 + v * 3 + 2, none⟩ (.int .i64 l) = w3 at p1 bs HS ⊢
  have p2 := p1.below ((Below.refl _ _).alloc (Nat.le_refl _) (.cells #[.bool t, .bool f, .int .i64 l] 95)).drew
  have bs2 : But (fun k => k = b) w (w3.alloc (.cells #[.bool t, .bool f, .int .i64 l] 95)).drew := (bs.alloc _).drew
  have y : ∀ j, (w3.alloc (.cells #[.bool t, .bool f, .int .i64 l] 95)).drew.cell? ⟨w.heap.size, j, none⟩ = #[Value.bool t, .bool f, .int .i64 l][j]? := fun j => by rw [← HS.out]; exact new_cell _ _ _ _
  generalize (w3.alloc (.cells #[.bool t, .bool f, .int .i64 l] 95)).drew = w4 at p2 bs2 y ⊢
  have y0 : w4.cell? ⟨w.heap.size, 0, none⟩ = some (.bool t) := y 0
  have y1 : w4.cell? ⟨w.heap.size, 1, none⟩ = some (.bool f) := y 1
  have y2 : w4.cell? ⟨w.heap.size, 2, none⟩ = some (.int .i64 l) := y 2
  have c0 := p2.c0 v u hv hu
  have c1 := p2.c1 v u hv hu
  have c2 := p2.c2 v u hv hu
  have fz := p2.fz
  obtain ⟨F2, p3⟩ := p2.put hv hu (t, f, l)
  have HP3 := hid p3
  have HB2 := hid bs2
  clear p1 p2 p3 bs bs2 y HS
  go_wp2_with fail
  go_region
  go_end0
  refine ⟨rfl, ⟨F2, ?_⟩, ?_⟩
  · refine (HP3.out.congr (fun x y _ _ => ?_) (fun _ _ _ _ => rfl)).below (Below.refl _ _).drew
    simp only [put1, updE]
    by_cases e1 : x = v ∧ y = u
    · rw [if_pos e1, if_pos (Or.inl e1)]
    · rw [if_neg e1]
      by_cases e2 : x = u ∧ y = v
      · rw [if_pos e2, if_pos (Or.inr e2)]
      · rw [if_neg e2, if_neg (fun q => q.elim e1 e2)]
  · exact (((HB2.out.same (But.setCell _ ⟨b, 1 + v * 144 + u * 3, none⟩ (.bool t))).same (But.setCell _ ⟨b, 1 + v * 144 + u * 3 + 1, none⟩ (.bool f))).same (But.setCell _ ⟨b, 1 + v * 144 + u * 3 + 2, none⟩ (.int .i64 l))).drew

end Go.Proofs.YtckallochdegiaaGreat
namespace Go.Proofs.YtckallochdegiaaGreat
set_option linter.unusedVariables false
set_option linter.unusedSimpArgs false
open Go.RowKit

set_option maxRecDepth 100000 in
set_option maxHeartbeats 2000000 in
theorem plantEdge_any (w : World) (b n : Nat) (E : Nat → Nat → E3) (R : Nat → Nat → List Itm) (r : Int) (F : Nat → Value) (u v l : Nat) (P : Nat → (Nat → List Itm) → Prop) (h : IdxP w b n E R r F) (hu : u < 48) (hv : v < 48) (hl : l < 6)
    (hP : ∀ k, k ≤ l → ∃ va vb vm, LinkP (R k) va vb vm u v ∧ P k (linkR (R k) va vb vm u v)) :
    Calls Tryz.prog 94 #[ptr b, .int .i64 u, .int .i64 v, .int .i64 l] w fun e w' => e = .returned (.tuple #[]) ∧ (∃ R' F', (∀ k, k ≤ l → P k (R' k)) ∧ (∀ k, l < k → R' k = R k) ∧ IdxP w' b n (updE E u v (true, true, l)) R' r F') ∧ But (fun k => k = b) w w' := by
  have HI := hid h
  have HPk := hid hP
  clear h hP
  go_enter Tryz.func94, Tryz.ntmps94
  go_wp2_with fail
  refine (setEdge_any w b n E R r F u v true true l HI.out hu hv).mono ?_
  rintro e w1 ⟨rfl, ⟨F1, hi1⟩, hb1⟩
  have HI1 := hid hi1
  have HB1 := hid hb1
  clear hi1 hb1
  go_wp2_with fail
  go_loopw [8] (fun q wr => ∃ m : Nat, m ≤ l + 1 ∧ q = .int .i64 m ∧ Hid (∃ R' F', (∀ k, k < m → P k (R' k)) ∧ (∀ k, m ≤ k → R' k = R k) ∧ IdxP wr b n (updE E u v (true, true, l)) R' r F') ∧ Hid (But (fun k => k = b) w wr)) (fun q _ => l + 1 - (intOf q).toNat)
  case atStart => exact ⟨0, by omega, rfl, ⟨R, F1, fun k hk => by omega, fun _ _ => rfl, HI1.out⟩, HB1⟩
  case round =>
    obtain ⟨m, hm, rfl, hX, hB⟩ := hrel
    by_cases hlt : m ≤ l
    · have hlt' : (m : Int) ≤ (l : Int) := by omega
      have hm6 : (m : Int) < 6 := by omega
      obtain ⟨R', F', x1, x2, x3⟩ := hX.out
      obtain ⟨va, vb, vm, p1, p2⟩ := HPk.out m hlt
      rw [← x2 m (Nat.le_refl _)] at p1 p2
      have HX1 := hid x1
      have HX2 := hid x2
      have HX3 := hid x3
      have HP2 := hid p2
      have HP1 := hid p1
      clear hX x1 x2 x3 p1 p2
      go_wp2_with fail
      refine (fLink_any _ b _ F' (R' m) u v va vb vm (HX3.out.fo (k := m) (by omega)) HP1.out).mono ?_
      rintro e w2 ⟨F2, rfl, hf2, hm2, hb2⟩
      have HI2 := hid (HX3.out.forest (k := m) (by omega) hf2 hm2 hb2)
      have HB2 : Hid (But (fun k => k = b) w w2) := hB.out.same hb2
      clear hf2 hm2 hb2
      go_wp2
      refine ⟨⟨m + 1, by omega, by go_num, ⟨_, _, fun k hk => ?_, fun k hk => ?_, HI2.out⟩, HB2⟩, by simp [intOf]; omega⟩
      · by_cases c : k = m
        · subst c; rw [if_pos rfl]; exact HP2.out
        · rw [if_neg c]; exact HX1.out k (by omega)
      · rw [if_neg (by omega)]; exact HX2.out k (by omega)
    · go_wp2
      go_end0
      have hme : m = l + 1 := by omega
      subst hme
      obtain ⟨R', F', x1, x2, x3⟩ := hX.out
      exact ⟨rfl, ⟨R', F', fun k hk => x1 k (by omega), fun k hk => x2 k (by omega), x3⟩, hB.out⟩

set_option maxRecDepth 100000 in
set_option maxHeartbeats 2000000 in
theorem cutEdge_any (w : World) (b n : Nat) (E : Nat → Nat → E3) (R : Nat → Nat → List Itm) (r : Int) (F : Nat → Value) (u v : Int) (l : Nat) (P : Nat → (Nat → List Itm) → Prop) (h : IdxP w b n E R r F) (hl : l < 6)
    (hP : ∀ k, k ≤ l → ∃ A B, ∃ vt va vb : Nat, CutQ (R k) A B vt va vb u v ∧ P k (cutR (R k) A B vt va vb)) :
    Calls Tryz.prog 95 #[ptr b, .int .i64 u, .int .i64 v, .int .i64 l] w fun e w' => e = .returned (.tuple #[]) ∧ (∃ R' F', (∀ k, k ≤ l → P k (R' k)) ∧ (∀ k, l < k → R' k = R k) ∧ IdxP w' b n E R' r F') ∧ But (fun k => k = b) w w' := by
  have HI := hid h
  have HPk := hid hP
  clear h hP
  go_enter Tryz.func95, Tryz.ntmps95
  go_wp2_with fail
  go_loopw [8] (fun q wr => ∃ m : Nat, m ≤ l + 1 ∧ q = .int .i64 m ∧ Hid (∃ R' F', (∀ k, k < m → P k (R' k)) ∧ (∀ k, m ≤ k → R' k = R k) ∧ IdxP wr b n E R' r F') ∧ Hid (But (fun k => k = b) w wr)) (fun q _ => l + 1 - (intOf q).toNat)
  case atStart => exact ⟨0, by omega, rfl, ⟨R, F, fun k hk => by omega, fun _ _ => rfl, HI.out⟩, But.refl _ _⟩
  case round =>
    obtain ⟨m, hm, rfl, hX, hB⟩ := hrel
    by_cases hlt : m ≤ l
    · have hlt' : (m : Int) ≤ (l : Int) := by omega
      have hm6 : (m : Int) < 6 := by omega
      obtain ⟨R', F', x1, x2, x3⟩ := hX.out
      obtain ⟨A, B, vt, va, vb, p1, p2⟩ := HPk.out m hlt
      rw [← x2 m (Nat.le_refl _)] at p1 p2
      have HX1 := hid x1
      have HX2 := hid x2
      have HX3 := hid x3
      have HP2 := hid p2
      have HP1 := hid p1
      clear hX x1 x2 x3 p1 p2
      go_wp2_with fail
      refine (fCut_any _ b _ F' (R' m) u v A B vt va vb (HX3.out.fo (k := m) (by omega)) HP1.out).mono ?_
      rintro e w2 ⟨F2, rfl, hf2, hm2, hb2⟩
      have HI2 := hid (HX3.out.forest (k := m) (by omega) hf2 hm2 hb2)
      have HB2 : Hid (But (fun k => k = b) w w2) := hB.out.same hb2
      clear hf2 hm2 hb2
      go_wp2
      refine ⟨⟨m + 1, by omega, by go_num, ⟨_, _, fun k hk => ?_, fun k hk => ?_, HI2.out⟩, HB2⟩, by simp [intOf]; omega⟩
      · by_cases c : k = m
        · subst c; rw [if_pos rfl]; exact HP2.out
        · rw [if_neg c]; exact HX1.out k (by omega)
      · rw [if_neg (by omega)]; exact HX2.out k (by omega)
    · go_wp2
      go_end0
      have hme : m = l + 1 := by omega
      subst hme
      obtain ⟨R', F', x1, x2, x3⟩ := hX.out
      exact ⟨rfl, ⟨R', F', fun k hk => x1 k (by omega), fun k hk => x2 k (by omega), x3⟩, hB.out⟩

set_option maxRecDepth 100000 in
set_option maxHeartbeats 1000000 in
theorem topLevel_any (w : World) (n : Nat) (h1 : 1 ≤ n) (h48 : n ≤ 48) : Calls Tryz.prog 82 #[.int .i64 n] w fun e w' => e = .returned (.int .i64 (Nat.log2 n : Nat)) ∧ w' = w := by
  have hl := log2_le5 h1 h48
  have HP : Hid (∀ k, 2 ^ (k + 1) ≤ n ↔ k + 1 ≤ Nat.log2 n) := fun k => (Nat.le_log2 (by omega)).symm
  go_enter Tryz.func82, Tryz.ntmps82
  go_wp2_with fail
  go_loopw [3, 4] (fun a b wr => ∃ k : Nat, k ≤ Nat.log2 n ∧ a = .int .i64 k ∧ b = .int .i64 ((2 ^ (k + 1) : Nat) : Int) ∧ wr = w) (fun a _ _ => Nat.log2 n - (intOf a).toNat)
  case atStart => exact ⟨0, by omega, rfl, rfl, rfl⟩
  case round =>
    obtain ⟨k, hk, rfl, rfl, rfl⟩ := hrel
    have hp := HP.out k
    have pb : 2 ^ (k + 1) ≤ 64 := by
      have : 2 ^ (k + 1) ≤ 2 ^ 6 := Nat.pow_le_pow_right (by omega) (by omega)
      omega
    have pb2 : 2 ^ (k + 1 + 1) = 2 ^ (k + 1) * 2 := Nat.pow_succ ..
    have HPB := hid pb2
    clear pb2
    generalize hq : 2 ^ (k + 1) = q at hp pb HPB ⊢
    by_cases c : q ≤ n
    · have c' : (q : Int) ≤ (n : Int) := by omega
      have hk1 := hp.1 c
      clear hq hp
      go_wp2
      exact ⟨⟨k + 1, by omega, by go_num, by rw [HPB.out]; go_num, by trivial⟩, by simp [intOf]; omega⟩
    · have c' : ¬ (q : Int) ≤ (n : Int) := by omega
      have hk1 : k = Nat.log2 n := by
        by_cases d : k + 1 ≤ Nat.log2 n
        · exact absurd (hp.2 d) c
        · omega
      have HK := hid hk1
      clear hq hp hk1
      go_wp2
      go_ret
      exact ⟨by rw [HK.out]; rfl, rfl⟩

/-- The rounds of an index without edges. -/
def newR (n : Nat) : Nat → Nat → List Itm := fun k => if k ≤ Nat.log2 n then baseR n else fun _ => []

def zf (i : Nat) : Value := if i = 0 then .int .i64 0 else if i < 6913 then (if i % 3 = 0 then .int .i64 0 else .bool false) else if i < 7201 then .slice none 0 0 else .int .i64 0
def zIx : Array Value := ((List.range 7202).map zf).toArray
theorem zeroIx (w : World) : Sem.run Tryz.prog (zeroValue 104) w = .ok (.agg zIx) w := by kernel_rfl
theorem zIx_size : zIx.size = 7202 := by simp [zIx]
theorem zIx_ne : ¬ zIx = #[] := by intro h; have := congrArg Array.size h; rw [zIx_size] at this; simp at this
theorem zIx_get (i : Nat) (h : i < 7202) : zIx[i]? = some (zf i) := by simp [zIx, h]

def nF (n : Nat) : Nat → Value := fun i => if i = 0 then .int .i64 n else zf i

theorem new_idx (n : Nat) (w : World) (h1 : 1 ≤ n) (h2 : n ≤ 48) : IdxP (w.alloc (.cells (zIx.setIfInBounds 0 (.int .i64 n)) 104)) w.heap.size n (fun _ _ => (false, false, 0)) (fun _ _ => []) 0 (nF n) := by
  refine ⟨h1, h2, ?_, rfl, fun u v hu hv => ?_, fun u v hu hv => ?_, fun u v hu hv => ?_, rfl, fun k v hk hv => Or.inl ⟨?_, rfl⟩⟩
  · have h := World.rowIs_alloc w (zIx.setIfInBounds 0 (.int .i64 n)) 104 (nF n) ?_
    · rw [Array.size_setIfInBounds, zIx_size] at h; exact h
    · intro i hi
      rw [Array.size_setIfInBounds, zIx_size] at hi
      rw [Array.getElem?_setIfInBounds]
      by_cases e : i = 0
      · subst e; simp [nF, zIx_size]
      · rw [if_neg (fun h => e h.symm), zIx_get i hi, nF, if_neg e]
  · rw [nF, if_neg (by omega), zf, if_neg (by omega), if_pos (by omega), if_neg (by omega)]
  · rw [nF, if_neg (by omega), zf, if_neg (by omega), if_pos (by omega), if_neg (by omega)]
  · rw [nF, if_neg (by omega), zf, if_neg (by omega), if_pos (by omega), if_pos (by omega)]
  · rw [nF, if_neg (by omega), zf, if_neg (by omega), if_neg (by omega), if_pos (by omega)]

set_option maxHeartbeats 400000 in
theorem New_bad (n s : Int) (w : World) (h : n < 1 ∨ 48 < n) :
    Calls Tryz.prog 79 #[.int .i64 n, .int .i64 s] w fun e w' => e = .returned (.tuple #[.pointer none, .int .i64 1]) ∧ w' = w := by
  by_cases h1 : n < 1
  · go_enter Tryz.func79, Tryz.ntmps79
    go_wp2
    go_ret2
    exact ⟨rfl, rfl⟩
  · have h2 : 48 < n := by omega
    go_enter Tryz.func79, Tryz.ntmps79
    go_wp2
    go_ret2
    exact ⟨rfl, rfl⟩

set_option maxRecDepth 100000 in
set_option maxHeartbeats 2000000 in
/-- New, where it may be: a new block and its rounds, nothing else. -/
theorem New_ok (n : Nat) (s : Int) (w : World) (h1 : 1 ≤ n) (h2 : n ≤ 48) :
    Calls Tryz.prog 79 #[.int .i64 n, .int .i64 s] w fun e w' => e = .returned (.tuple #[ptr w.heap.size, .int .i64 0]) ∧ (∃ F, IdxP w' w.heap.size n (fun _ _ => (false, false, 0)) (newR n) 0 F) ∧ w.heap.size < w'.heap.size ∧ Below w.heap.size w w' := by
  have hz := zeroIx
  have hz1 := zIx_ne
  have c1 : ¬ (n : Int) < 1 := by omega
  have c2 : ¬ (48 : Int) < (n : Int) := by omega
  have HN := hid (new_idx n w h1 h2)
  have HB0 : Hid (Below w.heap.size w (w.alloc (.cells (zIx.setIfInBounds 0 (.int .i64 n)) 104)) ∧ w.heap.size < (w.alloc (.cells (zIx.setIfInBounds 0 (.int .i64 n)) 104)).heap.size) := ⟨(Below.refl _ _).alloc (Nat.le_refl _) _, by simp⟩
  have hl5 := log2_le5 h1 h2
  go_enter Tryz.func79, Tryz.ntmps79
  go_wp2_with fail
  generalize w.alloc (.cells (zIx.setIfInBounds 0 (.int .i64 n)) 104) = w1 at HN HB0 ⊢
  refine (topLevel_any w1 n h1 h2).mono ?_
  rintro e w' ⟨rfl, hw⟩
  replace hw := hw.symm
  subst hw
  generalize hb : w.heap.size = b at HN HB0 ⊢
  have HBe := hid hb
  clear hb hz hz1
  generalize hL : Nat.log2 n = L at hl5 ⊢
  have HL := hid hL
  clear hL
  go_wp2_with fail
  go_loopw [8] (fun q wr => ∃ m : Nat, m ≤ L + 1 ∧ q = .int .i64 m ∧ Hid (∃ R' F', (∀ k, k < m → R' k = baseR n) ∧ (∀ k, m ≤ k → R' k = fun _ => []) ∧ IdxP wr b n (fun _ _ => (false, false, 0)) R' 0 F') ∧ Hid (But (fun k => k = b) w1 wr)) (fun q _ => L + 1 - (intOf q).toNat)
  case atStart => exact ⟨0, by omega, rfl, ⟨_, _, fun k hk => by omega, fun _ _ => rfl, HN.out⟩, But.refl _ _⟩
  case round =>
    obtain ⟨m, hm, rfl, hX, hB⟩ := hrel
    by_cases hlt : m ≤ L
    · have hlt' : (m : Int) ≤ (L : Int) := by omega
      have hm6 : (m : Int) < 6 := by omega
      obtain ⟨R', F', x1, x2, x3⟩ := hX.out
      have HX1 := hid x1
      have HX2 := hid x2
      have HX3 := hid x3
      clear hX x1 x2 x3
      go_wp2_with fail
      refine (Plant_any _ b (6913 + m * 48) n F' HX3.out.row (by omega) h2).mono ?_
      rintro e w2 ⟨F2, rfl, hf2, hm2, hb2⟩
      have HI2 := hid (HX3.out.forest (k := m) (by omega) hf2 hm2 hb2)
      have HB2 : Hid (But (fun k => k = b) w1 w2) := hB.out.same hb2
      clear hf2 hm2 hb2
      go_wp2
      refine ⟨⟨m + 1, by omega, by go_num, ⟨_, _, fun k hk => ?_, fun k hk => ?_, HI2.out⟩, HB2⟩, by simp [intOf]; omega⟩
      · by_cases c : k = m
        · subst c; rw [if_pos rfl]
        · rw [if_neg c]; exact HX1.out k (by omega)
      · rw [if_neg (by omega)]; exact HX2.out k (by omega)
    · go_wp2
      go_ret2
      have hme : m = L + 1 := by omega
      subst hme
      obtain ⟨R', F', x1, x2, x3⟩ := hX.out
      have hbe := HBe.out
      subst hbe
      refine ⟨rfl, ⟨F', x3.congr (fun _ _ _ _ => rfl) (fun k v hk hv => ?_)⟩, Nat.lt_of_lt_of_le HB0.out.2 hB.out.size, ?_⟩
      · rw [newR, HL.out]
        by_cases c : k ≤ L
        · rw [if_pos c, x1 k (by omega)]
        · rw [if_neg c, x2 k (by omega)]
      · exact HB0.out.1.trans (hB.out.below (fun k hk => by omega) (by have := HB0.out.2; omega))

end Go.Proofs.YtckallochdegiaaGreat
