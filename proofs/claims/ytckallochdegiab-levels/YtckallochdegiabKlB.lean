import Derived.Test.YtckallochdegiabKlA
import Derived.Test.YtckallochdegiabKcB
namespace Go.Proofs.Ytckallochdegiab
set_option linter.unusedVariables false
set_option linter.unusedSimpArgs false
open Go.RowKit

/-- Is it a line of the forest, of this level or above? -/
def inF (i : Nat) (x : Nat × Nat × Nat) : Bool := x.2.2 % 2 == 1 && decide (i ≤ x.2.2 / 2)
/-- The matrix of the first m lines. -/
def fE (l : List (Nat × Nat × Nat)) (i : Nat) : Nat → Nat → Nat → Bool
  | 0 => fun _ _ => false
  | m + 1 => if inF i (l[m]?.getD (0, 0, 0)) then upd (fE l i m) (l[m]?.getD (0, 0, 0)).1 (l[m]?.getD (0, 0, 0)).2.1 true else fE l i m

/-- k rows of n marks are made, and stand one behind another. -/
structure FM (w : World) (B n k : Nat) (v : Value) (er : Nat → Nat) (E : Nat → Nat → Bool) : Prop where
  o : w.ownsRow B 44 1 v k ((List.range k).map (sl er n))
  r : ∀ u, u < k → w.rowIs (er u) 4 n (fun y => .bool (E u y))
  i : ∀ u v, u < k → v < k → er u = er v → u = v
  b : ∀ u, u < k → B ≤ er u

section
variable {w w' : World} {B n k : Nat} {v : Value} {er : Nat → Nat} {E : Nat → Nat → Bool}
theorem FM.below (h : FM w B n k v er E) (hb : Below w.heap.size w w') : FM w' B n k v er E :=
  ⟨owns_below h.o hb (Nat.le_refl _), fun u hu => row_but (S := fun _ => False) (h.r u hu) (But.of hb) (fun q => q), h.i, h.b⟩
theorem FM.row {v' : Value} {r : Nat} (h : FM w B n k v er (fun _ _ => false)) (hr : w.rowIs r 4 n (fun _ => .bool false)) (hne : ∀ u, u < k → er u ≠ r) (hB : B ≤ r)
    (ho : w'.ownsRow B 44 1 v' (k + 1) ((List.range k).map (sl er n) ++ [.slice (some ⟨r, 0, none⟩) n n])) (g : w.grownBy w' v.ownBlock) : FM w' B n (k + 1) v' (ext er k r) (fun _ _ => false) := by
  refine ⟨by rw [sl_ext]; exact ho, ?_, ?_, ?_⟩
  · intro u hu
    by_cases e : u = k
    · simp only [ext, e, if_pos]; exact rowIs_grown h.o g hr (by decide)
    · simp only [ext, if_neg e]; exact rowIs_grown h.o g (h.r u (by omega)) (by decide)
  · intro u v hu hv
    simp only [ext]
    by_cases e : u = k <;> by_cases f : v = k
    · intros; omega
    · rw [if_pos e, if_neg f]; intro q; exact absurd q.symm (hne v (by omega))
    · rw [if_neg e, if_pos f]; intro q; exact absurd q (hne u (by omega))
    · rw [if_neg e, if_neg f]; exact h.i u v (by omega) (by omega)
  · intro u hu
    by_cases e : u = k
    · simp only [ext, e, if_pos]; exact hB
    · simp only [ext, if_neg e]; exact h.b u (by omega)
theorem FM.set {x y : Nat} (h : FM w B n k v er E) (hx : x < k) : FM (w.setCell ⟨er x, y, none⟩ (.bool true)) B n k v er (fun a c => if a = x ∧ c = y then true else E a c) := by
  refine ⟨owns_set h.o (h.r x hx) (by decide) y _, fun u hu => ?_, h.i, h.b⟩
  by_cases e : u = x
  · subst e
    refine ((h.r u hu).set y (.bool true)).congr (fun z _ => ?_)
    by_cases f : z = y <;> simp [f]
  · refine (row_but (h.r u hu) (But.setCell w ⟨er x, y, none⟩ (.bool true)) (fun q => e (h.i u x hu hx q))).congr (fun z _ => ?_)
    simp [e]
theorem FM.congr {F : Nat → Nat → Bool} (h : FM w B n k v er E) (e : ∀ x y, E x y = F x y) : FM w B n k v er F := by
  have : E = F := by funext x y; exact e x y
  subst this; exact h
theorem FM.two {x y : Nat} (h : FM w B n k v er E) (hx : x < k) (hy : y < k) : FM ((w.setCell ⟨er x, y, none⟩ (.bool true)).setCell ⟨er y, x, none⟩ (.bool true)) B n k v er (upd E x y true) :=
  ((h.set (y := y) hx).set (y := x) hy).congr (upd_two E x y true)
theorem FM.cell {eb c u : Nat} (h : FM w B n k (.slice (some ⟨eb, 0, none⟩) k c) er E) (hu : u < k) : w.cell? ⟨eb, u, none⟩ = some (.slice (some ⟨er u, 0, none⟩) n n) := by
  have := h.o.cells (g := eb) rfl u (.slice (some ⟨er u, 0, none⟩) n n) (by simp [hu, sl])
  rwa [addr_add, Nat.zero_add] at this
theorem FM.mat {eb c : Nat} (h : FM w B n n (.slice (some ⟨eb, 0, none⟩) n c) er E) : Mat w eb er n E := ⟨fun _ hu => h.cell hu, h.r⟩
end

/-- What forest answers. -/
def ForR (n : Nat) (E : Nat → Nat → Bool) (w : World) (e : Ending) (w' : World) : Prop := ∃ eb c er, e = .returned (.slice (some ⟨eb, 0, none⟩) n c) ∧ n ≤ c ∧ c ≤ maxLen ∧ Mat w' eb er n E ∧ Below w.heap.size w w'

set_option maxRecDepth 100000 in
set_option maxHeartbeats 4000000 in
theorem forest_any (w : World) (B n i : Nat) (v : Value) (l : List (Nat × Nat × Nat)) (h : LnAt w B v l) (hn1 : 1 ≤ n) (hn : n ≤ 48) (hi : i ≤ 5) (hle : l.length ≤ 2400) (hl : ∀ m, m < l.length → (l[m]?.getD (0, 0, 0)).1 < n ∧ (l[m]?.getD (0, 0, 0)).2.1 < n ∧ (l[m]?.getD (0, 0, 0)).2.2 < 16) :
    Calls Try.prog 43 #[v, .int .i64 n, .int .i64 i] w (ForR n (fE l i l.length) w) := by
  obtain ⟨i40, q0, q1, q2, q3⟩ := info_parts Try.info44
  have hmb := run_make_row' (P := Try.prog) 44 4 (.bool false) 1 Try.underlying44 Try.info4 rfl .i64 .i64 n (by omega) (by omega)
  obtain ⟨lq, lc, hv, hlf⟩ := h.form
  have HLf := hid hlf
  have HLn := hid hl
  subst hv
  clear h hlf hl
  go_enter Try.func43, Try.ntmps43
  go_wp2_with fail
  go_loopw [7, 8] (fun a c wr => ∃ (k : Nat) (er : Nat → Nat), k ≤ n ∧ c = .int .i64 k ∧ Hid (FM wr w.heap.size n k a er (fun _ _ => false)) ∧ Hid (Below w.heap.size w wr)) (fun _ c _ => n - (intOf c).toNat)
  case atStart => exact ⟨0, fun _ => 0, by omega, rfl, ⟨World.ownsRow_nil _ _ _ _, fun u hu => by omega, fun u v hu => by omega, fun u hu => by omega⟩, Below.refl _ _⟩
  case round =>
    obtain ⟨k, er, hk, rfl, HF, HB⟩ := hrel
    have hBs := HB.out.size
    by_cases ck : k < n
    · have ck' : (k : Int) < (n : Int) := by omega
      have HK : Hid (k + 1 ≤ maxLen) := by show k + 1 ≤ maxLen; unfold maxLen; omega
      have HFa : Hid (∀ o p, FM ((wr.alloc o).alloc p) w.heap.size n k u7 er (fun _ _ => false)) := fun o p => HF.out.below (((Below.refl _ _).alloc (Nat.le_refl _) o).alloc (by simp) p)
      have HBa : Hid (∀ o p, Below w.heap.size w ((wr.alloc o).alloc p)) := fun o p => (HB.out.alloc hBs o).alloc (by simp; omega) p
      have HRw : Hid (∀ p, ((wr.alloc (.cells (madeCells #[.bool false] n) 4)).alloc p).rowIs wr.heap.size 4 n (fun _ => .bool false)) := fun p => (World.rowIs_made wr (.bool false) n 4).alloc p
      have HLt : Hid (∀ u, u < k → er u ≠ wr.heap.size) := fun u hu => by have := (HF.out.r u hu).lt; omega
      go_wp2_with (at_builtin; refine wpList_append_own _ rfl (.tmp 17) (.tmp 20) 30 rfl w.heap.size 44 i40 _ 1 24 Try.underlying30 q0 q1 q2 q3 rfl (by decide) _ k _ rfl (HFa.out _ _).o ⟨wr.heap.size + 1, 0, none⟩ 1 1 [.slice (some ⟨wr.heap.size, 0, none⟩) n n] rfl rfl (by rw [show wr.heap.size + 1 = (wr.alloc (.cells (madeCells #[.bool false] n) 4)).heap.size by simp]; exact one_cell _ _ _) (fun y hy => by simp at hy; subst hy; rfl) HK.out (by omega) (by simp; omega) ?_; intro v' w3 ho hg _)
      have R1 := (HFa.out _ _).row (HRw.out _) HLt.out hBs ho hg
      have R2 : Below w.heap.size w w3 := (HBa.out _ _).grown hg (by simp; omega) (fun k hk => (HF.out.o.lt k hk).1)
      exact ⟨⟨k + 1, _, by omega, by go_num, R1, R2⟩, by simp [intOf]; omega⟩
    · have hke : k = n := by omega
      subst hke
      obtain ⟨eb, ec, hev, he1, he2⟩ : ∃ g c, u7 = .slice (some ⟨g, 0, none⟩) k c ∧ k ≤ c ∧ c ≤ maxLen := by
        rcases HF.out.o.2 with ⟨_, h0⟩ | ⟨g, cap, cur, hv, _, _, h1, h2, _⟩
        · omega
        · exact ⟨g, cap, hv, h1, h2⟩
      subst hev
      have he3 := he2
      unfold maxLen at he3
      clear hmb ck
      go_wp2_with fail
      go_loopw [25] (fun c wr => ∃ m : Nat, m ≤ l.length ∧ c = .int .i64 m ∧ Hid (FM wr w.heap.size k k (.slice (some ⟨eb, 0, none⟩) k ec) er (fE l i m)) ∧ Hid (Below w.heap.size w wr)) (fun c _ => l.length - (intOf c).toNat)
      case atStart => exact ⟨0, by omega, rfl, HF, HB⟩
      case round =>
        obtain ⟨m, hm, rfl, HF, HB⟩ := hrel
        have hBs := HB.out.size
        by_cases cm : m < l.length
        · have cm' : (m : Int) < (l.length : Int) := by omega
          obtain ⟨lg, rfl, hlg, _, hl1, hl2, hcell⟩ := HLf.out (by omega)
          unfold maxLen at hl2
          obtain ⟨y0, y1, y2⟩ := hcell m cm
          have d0 := (HB.out.cell (p := ⟨lg, m * 3, none⟩) hlg).trans y0
          have d1 := (HB.out.cell (p := ⟨lg, m * 3 + 1, none⟩) hlg).trans y1
          have d2 := (HB.out.cell (p := ⟨lg, m * 3 + 2, none⟩) hlg).trans y2
          obtain ⟨g1, g2, g3⟩ := HLn.out m cm
          have HE : Hid (fE l i (m + 1) = if inF i (l[m]?.getD (0, 0, 0)) then upd (fE l i m) (l[m]?.getD (0, 0, 0)).1 (l[m]?.getD (0, 0, 0)).2.1 true else fE l i m) := rfl
          clear y0 y1 y2 hcell
          generalize l[m]?.getD (0, 0, 0) = x at d0 d1 d2 g1 g2 g3 HE
          obtain ⟨xa, xb, xc⟩ := x
          simp only at d0 d1 d2 g1 g2 g3
          have hq : (xc : Int).tdiv 2 = ((xc / 2 : Nat) : Int) := by rw [Int.tdiv_eq_ediv_of_nonneg (by omega)]; omega
          have hr : (xc : Int).tmod 2 = ((xc % 2 : Nat) : Int) := by rw [Int.tmod_eq_emod_of_nonneg (by omega)]; omega
          have HWa : Hid (∀ o, Below wr.heap.size wr (wr.alloc o)) := fun o => (Below.refl _ _).alloc (Nat.le_refl _) o
          have m2 : xc % 2 < 2 := by omega
          by_cases c1 : xc % 2 = 1
          · by_cases c2 : i ≤ xc / 2
            · have c2' : (i : Int) ≤ ((xc / 2 : Nat) : Int) := by omega
              have HE2 : Hid (fE l i (m + 1) = upd (fE l i m) xa xb true) := by show _ = _; rw [HE.out, if_pos (by simp [inF, c1, c2])]
              have HFa := hid (HF.out.below (HWa.out (.cells #[.int .i64 xa, .int .i64 xb, .int .i64 xc] 80)))
              have a1 := HFa.out.cell (u := xa) g1
              have a2 := (HFa.out.r xa g1).cell (i := xb) g2
              have a3 := (HFa.out.r xa g1).frozen
              have hb1 : ((xc : Int) % 2 == 1) = true := by simp only [beq_iff_eq]; omega
              have hb2 : (i : Int) ≤ (xc : Int) / 2 := by omega
              clear HE c2 hr hq c2'
              have HNc : Hid (∀ j, (wr.alloc (.cells #[.int .i64 xa, .int .i64 xb, .int .i64 xc] 80)).cell? ⟨wr.heap.size, j, none⟩ = #[Value.int .i64 xa, .int .i64 xb, .int .i64 xc][j]?) := fun j => new_cell _ _ _ j
              have HWb := hid (HWa.out (.cells #[.int .i64 xa, .int .i64 xb, .int .i64 xc] 80))
              have hsz : wr.heap.size < (wr.alloc (.cells #[.int .i64 xa, .int .i64 xb, .int .i64 xc] 80)).heap.size := by simp
              go_wp2_with fail
              clear a1 a2 a3
              generalize wr.alloc (.cells #[.int .i64 xa, .int .i64 xb, .int .i64 xc] 80) = w1 at HFa HNc HWb hsz ⊢
              have a1 := HFa.out.cell (u := xa) g1
              have a2 := (HFa.out.r xa g1).cell (i := xb) g2
              have a3 := (HFa.out.r xa g1).frozen
              have z0 : w1.cell? ⟨wr.heap.size, 0, none⟩ = some (.int .i64 xa) := HNc.out 0
              have z1 : w1.cell? ⟨wr.heap.size, 1, none⟩ = some (.int .i64 xb) := HNc.out 1
              have gx1 : (xa : Int) < (k : Int) := by omega
              have gx2 : (xb : Int) < (k : Int) := by omega
              have HTx : Hid (∀ u, u < k → er u ≠ wr.heap.size) := fun u hu => by have := (HF.out.r u hu).lt; omega
              go_region
              have HF2 : Hid (FM (w1.setCell ⟨er xa, xb, none⟩ (.bool true)).drew w.heap.size k k (.slice (some ⟨eb, 0, none⟩) k ec) er (fun a c => if a = xa ∧ c = xb then true else fE l i m a c)) := (HFa.out.set (y := xb) g1).below (Below.refl _ _).drew
              have HB2 : Hid (Below w.heap.size w (w1.setCell ⟨er xa, xb, none⟩ (.bool true)).drew) := ((HB.out.trans (HWb.out.mono hBs)).setCell (HF.out.b xa g1) _).drew
              have y0 : (w1.setCell ⟨er xa, xb, none⟩ (.bool true)).drew.cell? ⟨wr.heap.size, 0, none⟩ = some (.int .i64 xa) := (far (HTx.out xa g1) w1 xb (.bool true) 0).trans z0
              have y1 : (w1.setCell ⟨er xa, xb, none⟩ (.bool true)).drew.cell? ⟨wr.heap.size, 1, none⟩ = some (.int .i64 xb) := (far (HTx.out xa g1) w1 xb (.bool true) 1).trans z1
              clear a1 a2 a3 z0 z1 HNc
              generalize (w1.setCell ⟨er xa, xb, none⟩ (.bool true)).drew = w2 at HF2 HB2 y0 y1 ⊢
              have a1 := HF2.out.cell (u := xb) g2
              have a2 := (HF2.out.r xb g2).cell (i := xa) g1
              have a3 := (HF2.out.r xb g2).frozen
              go_wp2_with fail
              go_region
              have R1 : FM (w2.setCell ⟨er xb, xa, none⟩ (.bool true)).drew w.heap.size k k (.slice (some ⟨eb, 0, none⟩) k ec) er (fE l i (m + 1)) := by
                rw [HE2.out]
                exact (((HF2.out.set (y := xa) g2).congr (upd_two (fE l i m) xa xb true))).below (Below.refl _ _).drew
              have R2 : Below w.heap.size w (w2.setCell ⟨er xb, xa, none⟩ (.bool true)).drew := (HB2.out.setCell (HF2.out.b xb g2) _).drew
              clear a1 a2 a3 y0 y1
              generalize (w2.setCell ⟨er xb, xa, none⟩ (.bool true)).drew = w3 at R1 R2 ⊢
              have HR1 := hid R1
              have HR2 := hid R2
              clear R1 R2
              go_wp2
              exact ⟨⟨m + 1, by omega, by go_num, HR1, HR2⟩, by simp [intOf]; omega⟩
            · have c2' : ¬ (i : Int) ≤ ((xc / 2 : Nat) : Int) := by omega
              have HE2 : Hid (fE l i (m + 1) = fE l i m) := by show _ = _; rw [HE.out, if_neg (by simp [inF, c1, c2])]
              have hb1 : ((xc : Int) % 2 == 1) = true := by simp only [beq_iff_eq]; omega
              have hb2 : ¬ (i : Int) ≤ (xc : Int) / 2 := by omega
              clear HE c2 hr hq c2'
              go_wp2
              exact ⟨⟨m + 1, by omega, by go_num, by rw [HE2.out]; exact HF.out.below (HWa.out _), HB.out.trans ((HWa.out _).mono hBs)⟩, by simp [intOf]; omega⟩
          · have HE2 : Hid (fE l i (m + 1) = fE l i m) := by show _ = _; rw [HE.out, if_neg (by simp [inF, c1])]
            have c1' : xc % 2 = 0 := by omega
            have hb1 : ((xc : Int) % 2 == 1) = false := by simp only [beq_eq_false_iff_ne, ne_eq]; omega
            clear HE c1 hr hq
            go_wp2
            exact ⟨⟨m + 1, by omega, by go_num, by rw [HE2.out]; exact HF.out.below (HWa.out _), HB.out.trans ((HWa.out _).mono hBs)⟩, by simp [intOf]; omega⟩
        · have hme : m = l.length := by omega
          have HFf : Hid (FM wr w.heap.size k k (.slice (some ⟨eb, 0, none⟩) k ec) er (fE l i l.length)) := by rw [← hme]; exact HF.out
          clear hme
          go_wp2
          go_ret
          exact ⟨eb, ec, er, rfl, he1, he2, HFf.out.mat, HB.out⟩

end Go.Proofs.Ytckallochdegiab
