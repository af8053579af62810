import Derived.Test.YtckallochdegiabKpC
import Derived.Test.YtckallochdegiabByR
import Derived.Test.YtckallochdegiabFrA
namespace Go.Proofs.Ytckallochdegiab
set_option linter.unusedVariables false
set_option linter.unusedSimpArgs false
open Go.RowKit

/-- The cells of a reader: the text, and where it stands. -/
def bf (s : ByteArray) (p : Nat) : Nat → Value := fun i => if i = 0 then .string s else .int .i64 p
def RdAt (w : World) (b : Nat) (s : ByteArray) (p : Nat) : Prop := w.rowIs b 113 2 (bf s p)
theorem RdAt.c0 {w : World} {b p : Nat} {s : ByteArray} (h : RdAt w b s p) : w.cell? ⟨b, 0, none⟩ = some (.string s) := World.rowIs.cell h (by omega)
theorem RdAt.c1 {w : World} {b p : Nat} {s : ByteArray} (h : RdAt w b s p) : w.cell? ⟨b, 1, none⟩ = some (.int .i64 p) := World.rowIs.cell h (by omega)
theorem RdAt.set {w : World} {b p q : Nat} {s : ByteArray} (h : RdAt w b s p) : RdAt (w.setCell ⟨b, 1, none⟩ (.int .i64 q)) b s q := by
  refine (World.rowIs.set h 1 (.int .i64 q)).congr (fun i hi => ?_)
  have : i = 0 ∨ i = 1 := by omega
  rcases this with rfl | rfl <;> simp [bf]
theorem RdAt.but {w w' : World} {b p : Nat} {s : ByteArray} {S : Nat → Prop} (h : RdAt w b s p) (k : But S w w') (hS : ¬ S b) : RdAt w' b s p := row_but h k hS
theorem RdAt.below {w w' : World} {b p : Nat} {s : ByteArray} (h : RdAt w b s p) (k : Below w.heap.size w w') : RdAt w' b s p := row_but (S := fun _ => False) h (But.of k) (fun q => q)

theorem byteAt_in {s : ByteArray} {p : Nat} (h : p < s.size) : (s[p].toNat : Int) = (byteAt s p : Int) := by rw [byteAt, dif_pos h]

/-- What a reader leaves: a number, and where it stands now. -/
def OneR (b : Nat) (s : ByteArray) (x p' : Nat) (w : World) (e : Ending) (w' : World) : Prop := e = .returned (.int .i64 x) ∧ RdAt w' b s p' ∧ But (fun k => k = b) w w'

set_option maxRecDepth 100000 in
set_option maxHeartbeats 1000000 in
theorem one_any (w : World) (b p : Nat) (s : ByteArray) (h : RdAt w b s p) (hp : p < s.size) (hs : s.size ≤ 1048576) : Calls Try.prog 84 #[ptr b] w (OneR b s (byteAt s p) (p + 1) w) := by
  have d0 := h.c0
  have d1 := h.c1
  have fz := World.rowIs.frozen h
  have HR := hid h
  have hp' : ¬ (s.size : Int) ≤ (p : Int) := by omega
  have hw1 : IntKind.i64.wrap ((p : Int) + 1) = (p : Int) + 1 := by rw [IntKind.wrap_i64]; omega
  have HBy := hid (byteAt_in hp)
  have hbl := byteAt_lt s p
  clear h
  go_enter Try.func84, Try.ntmps84
  go_wp2_with fail
  go_quiet (fail)
  have HB1 : Hid (Below w.heap.size w (w.drewN nq)) := Below.drewN' _ (Below.refl _ _)
  have HR1 := hid (HR.out.below HB1.out)
  have d0' := HR1.out.c0
  have d1' := HR1.out.c1
  have fz' := World.rowIs.frozen HR1.out
  clear d0 d1 fz HR
  generalize w.drewN nq = w1 at HB1 HR1 d0' d1' fz' ⊢
  go_wp2_with fail
  have HR2 : Hid (RdAt (w1.setCell ⟨b, 1, none⟩ (.int .i64 ((p : Int) + 1))) b s (p + 1)) := HR1.out.set (q := p + 1)
  have HB2 : Hid (But (fun k => k = b) w (w1.setCell ⟨b, 1, none⟩ (.int .i64 ((p : Int) + 1)))) := (But.of HB1.out).same (But.setCell w1 ⟨b, 1, none⟩ _)
  generalize w1.setCell ⟨b, 1, none⟩ (.int .i64 ((p : Int) + 1)) = w2 at HR2 HB2 ⊢
  have e0 := HR2.out.c0
  have e1 := HR2.out.c1
  rw [show ((p + 1 : Nat) : Int) = (p : Int) + 1 by omega] at e1
  clear d0' d1' fz' HR1 HB1
  have hw2 : IntKind.i64.wrap ((p : Int) + 1 - 1) = (p : Int) := by rw [IntKind.wrap_i64]; omega
  have hp3 : (p : Int) < (s.size : Int) := by omega
  go_quiet (fail)
  have HB3 : Hid (Below w2.heap.size w2 (w2.drewN nq)) := Below.drewN' _ (Below.refl _ _)
  have HR3 := hid (HR2.out.below HB3.out)
  generalize w2.drewN nq = w3 at HB3 HR3 ⊢
  clear e0 e1
  go_wp2
  go_ret
  refine ⟨?_, HR3.out, HB2.out.trans (S' := fun _ => False) (But.of HB3.out) (fun _ _ q => q.elim)⟩
  exact ret_int (by rw [HBy.out]; unfold wrap64; omega)

set_option maxRecDepth 100000 in
set_option maxHeartbeats 1000000 in
theorem next_any (w : World) (b p n p' : Nat) (s : ByteArray) (h : RdAt w b s p) (hx : nxtB s p = (n, p')) (hp : p' ≤ s.size) (hs : s.size ≤ 1048576) : Calls Try.prog 67 #[ptr b] w (OneR b s n p' w) := by
  have HR := hid h
  have hbl := byteAt_lt s p
  by_cases c : byteAt s p < 128
  · rw [nxtB, if_pos c] at hx
    simp only [Prod.mk.injEq] at hx
    obtain ⟨rfl, rfl⟩ := hx
    have c' : ¬ (128 : Int) ≤ (byteAt s p : Int) := by omega
    have HO := hid (one_any w b p s h (by omega) hs)
    clear h
    generalize byteAt s p = x at c c' HO hbl
    go_enter Try.func67, Try.ntmps67
    go_wp2_with fail
    refine HO.out.mono ?_
    rintro e w1 ⟨rfl, hr1, hb1⟩
    have HR1 := hid hr1
    have HB1 := hid hb1
    clear hr1 hb1
    go_wp2
    go_ret
    exact ⟨rfl, HR1.out, HB1.out⟩
  · rw [nxtB, if_neg c] at hx
    simp only [Prod.mk.injEq] at hx
    obtain ⟨hx1, rfl⟩ := hx
    have c' : (128 : Int) ≤ (byteAt s p : Int) := by omega
    have hbl2 := byteAt_lt s (p + 1)
    have HO := hid (one_any w b p s h (by omega) hs)
    have HO2 := hid (fun w1 h1 => one_any w1 b (p + 1) s h1 (by omega) hs)
    have HN := hid hx1
    clear h hx1
    generalize byteAt s p = x at c c' HO hbl HN
    generalize byteAt s (p + 1) = y at HO2 hbl2 HN
    go_enter Try.func67, Try.ntmps67
    go_wp2_with fail
    refine HO.out.mono ?_
    rintro e w1 ⟨rfl, hr1, hb1⟩
    have HR1 := hid hr1
    have HB1 := hid hb1
    clear hr1 hb1
    go_wp2_with fail
    refine (HO2.out w1 HR1.out).mono ?_
    rintro e w2 ⟨rfl, hr2, hb2⟩
    have HR2 := hid hr2
    have HB2 : Hid (But (fun k => k = b) w w2) := HB1.out.same hb2
    clear hr2 hb2
    go_wp2
    go_ret
    exact ⟨ret_int (by have := HN.out; omega), HR2.out, HB2.out⟩

/-- The cells of lines. -/
def lnC (l : List (Nat × Nat × Nat)) : List Value := l.flatMap fun x => [.int .i64 x.1, .int .i64 x.2.1, .int .i64 x.2.2]
theorem lnC_length (l : List (Nat × Nat × Nat)) : (lnC l).length = l.length * 3 := by
  induction l with
  | nil => rfl
  | cons x l ih => rw [lnC, List.flatMap_cons, List.length_append]; show 3 + (lnC l).length = _; rw [ih, List.length_cons]; omega
theorem lnC_append (l m : List (Nat × Nat × Nat)) : lnC (l ++ m) = lnC l ++ lnC m := by simp [lnC]
theorem lnC_at (l : List (Nat × Nat × Nat)) (i : Nat) (hi : i < l.length) : (lnC l)[i * 3]? = some (.int .i64 (l[i]?.getD (0, 0, 0)).1) ∧ (lnC l)[i * 3 + 1]? = some (.int .i64 (l[i]?.getD (0, 0, 0)).2.1) ∧ (lnC l)[i * 3 + 2]? = some (.int .i64 (l[i]?.getD (0, 0, 0)).2.2) := by
  induction l generalizing i with
  | nil => simp at hi
  | cons x l ih =>
    cases i with
    | zero => simp [lnC]
    | succ i =>
      have := ih i (by simpa using hi)
      have e : ∀ k, (lnC (x :: l))[(i + 1) * 3 + k]? = (lnC l)[i * 3 + k]? := fun k => by
        have : lnC (x :: l) = [.int .i64 x.1, .int .i64 x.2.1, .int .i64 x.2.2] ++ lnC l := by simp [lnC]
        rw [this, List.getElem?_append_right (by simp; omega)]
        congr 1
        simp; omega
      have e0 := e 0
      rw [Nat.add_zero, Nat.add_zero] at e0
      rw [e0, e 1, e 2]
      simpa using this

theorem owns_one {w w' : World} {B e size n b t : Nat} {v : Value} {xs : List Value} (h : w.ownsRow B e size v n xs) (k : But (fun q => q = b) w w') (hb : TyAt w b t) (ht : t ≠ e) : w'.ownsRow B e size v n xs := by
  refine ⟨h.1, ?_⟩
  rcases h.2 with q | ⟨g, cap, cur, hv, hB, hg, hle⟩
  · exact Or.inl q
  · exact Or.inr ⟨g, cap, cur, hv, hB, by rw [k.block g (Array.getElem?_eq_some_iff.1 hg).1 (fun q => by subst q; exact hb.ne ⟨cur, hg⟩ ht rfl)]; exact hg, hle⟩
/-- Lines in a row of one's own. -/
def LnAt (w : World) (B : Nat) (v : Value) (l : List (Nat × Nat × Nat)) : Prop := w.ownsRow B 80 3 v l.length (lnC l)
theorem LnAt.below {w w' : World} {B C : Nat} {v : Value} {l : List (Nat × Nat × Nat)} (h : LnAt w B v l) (b : Below C w w') (hC : w.heap.size ≤ C) : LnAt w' B v l := owns_below h b hC
theorem LnAt.form {w : World} {B : Nat} {v : Value} {l : List (Nat × Nat × Nat)} (h : LnAt w B v l) : ∃ q c, v = .slice q l.length c ∧ (0 < l.length → ∃ g, q = some ⟨g, 0, none⟩ ∧ g < w.heap.size ∧ B ≤ g ∧ l.length ≤ c ∧ c ≤ maxLen ∧ ∀ i, i < l.length → w.cell? ⟨g, i * 3, none⟩ = some (.int .i64 (l[i]?.getD (0, 0, 0)).1) ∧ w.cell? ⟨g, i * 3 + 1, none⟩ = some (.int .i64 (l[i]?.getD (0, 0, 0)).2.1) ∧ w.cell? ⟨g, i * 3 + 2, none⟩ = some (.int .i64 (l[i]?.getD (0, 0, 0)).2.2)) := by
  rcases h.2 with ⟨q, q0⟩ | ⟨g, cap, cur, q, hB, hg, h1, h2, _⟩
  · exact ⟨_, _, by rw [q, q0], fun q => by omega⟩
  · refine ⟨_, _, q, fun _ => ⟨g, rfl, (Array.getElem?_eq_some_iff.1 hg).1, hB, h1, h2, fun i hi => ?_⟩⟩
    obtain ⟨a0, a1, a2⟩ := lnC_at l i hi
    have c0 := World.ownsRow.cells h (g := g) (by rw [q]; rfl) _ _ a0
    have c1 := World.ownsRow.cells h (g := g) (by rw [q]; rfl) _ _ a1
    have c2 := World.ownsRow.cells h (g := g) (by rw [q]; rfl) _ _ a2
    rw [addr_add, Nat.zero_add] at c0 c1 c2
    exact ⟨c0, c1, c2⟩

theorem Try.info80 : (Try.prog.info? 80).map (fun i => (i.zero, i.size, i.bytes)) = some (some (.agg #[.int .i64 0, .int .i64 0, .int .i64 0]), 3, 24) := by kernel_rfl

theorem ln_more {l : List (Nat × Nat × Nat)} {m : Nat} (hm : m < l.length) : l.take (m + 1) = l.take m ++ [l[m]?.getD (0, 0, 0)] := by
  rw [List.take_succ_eq_append_getElem hm, List.getElem?_eq_getElem hm]; rfl
theorem lit_cells3 (w : World) (cs : Array Value) (t j : Nat) (y : Value) (h : cs.toList[j]? = some y) : (w.alloc (.cells cs t)).cell? ((⟨w.heap.size, 0, none⟩ : Addr).add j) = some y := by
  rw [addr_add, Nat.zero_add, new_cell]
  simpa using h

set_option maxRecDepth 100000 in
set_option maxHeartbeats 2000000 in
theorem lines_any (w : World) (s : ByteArray) (l : List (Nat × Nat × Nat)) (k p1 p2 : Nat) (h : LnS s l k p1 p2) :
    Calls Try.prog 42 #[.string s] w fun e w' => ∃ val, e = .returned val ∧ LnAt w' w.heap.size val l ∧ Below w.heap.size w w' := by
  have hs := h.s2
  have hle := h.le
  have hsz := h.sz
  have o1 := h.o1
  have o2 := h.o2
  have HL := hid h
  obtain ⟨i3, q0, q1, q2, q3⟩ := info_parts Try.info80
  clear h
  have hrd0 : RdAt (w.alloc (.cells #[.string s, .int .i64 4] 113)) w.heap.size s 4 := by
    refine World.rowIs_alloc w _ _ _ ?_
    intro i hi
    match i, hi with
    | 0, _ => rfl
    | 1, _ => rfl
  have HR0 := hid hrd0
  have HB0 : Hid (Below w.heap.size w (w.alloc (.cells #[.string s, .int .i64 4] 113))) := (Below.refl _ _).alloc (Nat.le_refl _) _
  clear hrd0
  go_enter Try.func42, Try.ntmps42
  go_wp2_with fail
  obtain ⟨b, hb⟩ : ∃ b, b = w.heap.size := ⟨_, rfl⟩
  rw [← hb] at HR0 ⊢
  generalize w.alloc (.cells #[.string s, .int .i64 4] 113) = w0 at HR0 HB0 ⊢
  have HbB : Hid (∀ w1 w2 : World, But (fun k => k = b) w1 w2 → w.heap.size ≤ w1.heap.size → Below w.heap.size w1 w2) := fun w1 w2 q hq => q.below (fun j hj => by omega) hq
  have HBw := hid hb
  clear hb
  refine (next_any w0 b 4 1 5 s HR0.out HL.out.a1 (by omega) hs).mono ?_
  rintro e w1 ⟨rfl, hr1, hb1⟩
  have HR1 := hid hr1
  have HB1 : Hid (Below w.heap.size w w1) := HB0.out.trans (HbB.out _ _ hb1 HB0.out.size)
  have d1 := hr1.c1
  have fz := World.rowIs.frozen hr1
  clear hr1 hb1 HR0 HB0
  go_wp2_with fail
  have HR2 : Hid (RdAt (w1.setCell ⟨b, 1, none⟩ (.int .i64 10)) b s 10) := HR1.out.set (q := 10)
  have HB2 : Hid (Below w.heap.size w (w1.setCell ⟨b, 1, none⟩ (.int .i64 10))) := HB1.out.setCell (by rw [HBw.out]; exact Nat.le_refl _) _
  generalize w1.setCell ⟨b, 1, none⟩ (.int .i64 10) = w2 at HR2 HB2 ⊢
  clear HR1 HB1 d1 fz
  refine (next_any w2 b 10 k p1 s HR2.out HL.out.a2 (by omega) hs).mono ?_
  rintro e w3 ⟨rfl, hr3, hb3⟩
  have HR3 := hid hr3
  have HB3 : Hid (Below w.heap.size w w3) := HB2.out.trans (HbB.out _ _ hb3 HB2.out.size)
  clear hr3 hb3 HR2 HB2
  go_wp2_with fail
  refine (next_any w3 b p1 l.length p2 s HR3.out HL.out.a3 (by omega) hs).mono ?_
  rintro e w4 ⟨rfl, hr4, hb4⟩
  have HR4 := hid hr4
  have HB4 : Hid (Below w.heap.size w w4) := HB3.out.trans (HbB.out _ _ hb4 HB3.out.size)
  clear hr4 hb4 HR3 HB3
  go_wp2_with fail
  go_loopw [5, 6] (fun a c wr => ∃ m : Nat, m ≤ l.length ∧ a = .int .i64 ((l.length - m : Nat) : Int) ∧ Hid (LnAt wr w.heap.size c (l.take m)) ∧ Hid (RdAt wr b s (p2 + 3 * m)) ∧ Hid (Below w.heap.size w wr)) (fun a _ _ => (intOf a).toNat)
  case atStart => exact ⟨0, by omega, rfl, World.ownsRow_nil _ _ _ _, HR4, HB4⟩
  case round =>
    obtain ⟨m, hm, rfl, HN, HR, HB⟩ := hrel
    clear HR4 HB4
    have hBs := HB.out.size
    obtain ⟨r, hr⟩ : ∃ r, l.length - m = r := ⟨_, rfl⟩
    by_cases cm : m < l.length
    · have hr0 : (0 : Int) < (r : Int) := by omega
      obtain ⟨x1, x2, x3⟩ := HL.out.ln m cm
      obtain ⟨g1, g2, g3⟩ := HL.out.rg m cm
      have HM := hid (ln_more cm)
      have htl : (l.take m).length = m := by rw [List.length_take]; omega
      generalize l[m]?.getD (0, 0, 0) = x at x1 x2 x3 g1 g2 g3 HM
      have X1 := hid x1
      have X2 := hid x2
      have X3 := hid x3
      have hrr : l.length - (m + 1) = r - 1 := by omega
      have HRr := hid hrr
      have HRm := hid hr
      have hr1 : 1 ≤ r ∧ r ≤ 2400 := by omega
      rw [hr]
      clear x1 x2 x3 hrr hr
      go_wp2_with fail
      refine (next_any wr b (p2 + 3 * m) x.1 (p2 + 3 * m + 1) s HR.out X1.out (by omega) hs).mono ?_
      rintro e z1 ⟨rfl, hr1, hb1⟩
      have HR1 := hid hr1
      have HW1 := hid hb1
      clear hr1 hb1
      go_wp2_with fail
      refine (next_any z1 b (p2 + 3 * m + 1) x.2.1 (p2 + 3 * m + 2) s HR1.out X2.out (by omega) hs).mono ?_
      rintro e z2 ⟨rfl, hr2, hb2⟩
      have HR2 := hid hr2
      have HW2 := hid (HW1.out.same hb2)
      clear hr2 hb2 HR1 HW1
      go_wp2_with fail
      refine (next_any z2 b (p2 + 3 * m + 2) x.2.2 (p2 + 3 * m + 3) s HR2.out X3.out (by omega) hs).mono ?_
      rintro e z3 ⟨rfl, hr3, hb3⟩
      have HR3 := hid hr3
      have HW3 := hid (HW2.out.same hb3)
      have HB3 : Hid (Below w.heap.size w z3) := HB.out.trans (HbB.out _ _ HW3.out hBs)
      have HN3 : Hid (LnAt z3 w.heap.size u6 (l.take m)) := owns_one HN.out HW3.out (rowIs_ty HR.out) (by decide)
      have hB3s := HB3.out.size
      clear hr3 hb3 HR2 HW2 HN HR
      obtain ⟨xa, xb, xc⟩ := x
      go_wp2_with (at_builtin; refine wpList_append_own _ rfl (.tmp 39) (.tmp 44) 77 rfl w.heap.size 80 i3 _ 3 24 Try.underlying77 q0 q1 q2 q3 rfl (by decide) _ (l.take m).length _ rfl (World.ownsRow.alloc HN3.out _) ⟨z3.heap.size, 0, none⟩ 1 1 [.int .i64 xa, .int .i64 xb, .int .i64 xc] rfl rfl (lit_cells3 _ _ _) (fun y hy => by simp at hy; rcases hy with rfl | rfl | rfl <;> rfl) (by unfold maxLen; omega) (by omega) (by simp; omega) ?_; intro v' w5 ho hg _)
      have R1 : LnAt w5 w.heap.size v' (l.take (m + 1)) := by
        rw [HM.out]
        unfold LnAt
        rw [lnC_append, List.length_append]; exact ho
      have HRa : RdAt (z3.alloc (.cells #[.int .i64 xa, .int .i64 xb, .int .i64 xc] 80)) b s (p2 + 3 * m + 3) := HR3.out.below ((Below.refl _ _).alloc (Nat.le_refl _) _)
      have R2 : Below w.heap.size w w5 := (HB3.out.alloc hB3s _).grown hg (by simp; omega) (fun k hk => (World.ownsRow.lt HN3.out k hk).1)
      have R3 : RdAt w5 b s (p2 + 3 * (m + 1)) := HRa.but (But.grown hg) (fun q => owns_not (World.ownsRow.alloc HN3.out _) (t := 113) (by decide) b q.symm (rowIs_ty HRa))
      refine ⟨⟨m + 1, by omega, by rw [HRr.out]; congr 1; omega, R1, R3, R2⟩, by simp [intOf]; omega⟩
    · have hme : m = l.length := by omega
      have hr0 : r = 0 := by omega
      have HNf : Hid (LnAt wr w.heap.size u6 l) := by
        have := HN.out
        rwa [hme, List.take_length] at this
      rw [hr, hr0]
      clear hme hr hr0
      go_wp2
      go_ret
      exact ⟨_, rfl, HNf.out, HB.out⟩

end Go.Proofs.Ytckallochdegiab
