import Derived.Test.YtckallochdegiabKfF
import Derived.Test.YtckallochdegiabKpC
import Derived.Deep.RegionHeld2
import Derived.Deep.DeepCutAuto
import Derived.Test.YtckallochdegiabFrA
namespace Go.Proofs.Ytckallochdegiab
set_option linter.unusedVariables false
set_option linter.unusedSimpArgs false
open Go.RowKit

theorem bits_xor_u8 (a : Nat) (ha : a < 256) : bits .xor .u8 (a : Int) 1 = ((a ^^^ 1 : Nat) : Int) := by
  have hx : a ^^^ 1 < 2 ^ 8 := Nat.xor_lt_two_pow (by omega) (by omega)
  have h1 : (BitVec.ofInt 8 (a : Int)).toNat = a := by rw [BitVec.ofInt_natCast, BitVec.toNat_ofNat]; exact Nat.mod_eq_of_lt (by omega)
  have h2 : (BitVec.ofInt 8 (1 : Int)).toNat = 1 := by rfl
  show IntKind.u8.wrap ((BitVec.ofInt 8 (a : Int) ^^^ BitVec.ofInt 8 (1 : Int)).toNat : Int) = _
  rw [BitVec.toNat_xor, h1, h2, IntKind.wrap_u8]
  omega
/-- The nine texts. -/
def tx9 (r : Rfs) (lg : ByteArray) (j : Nat) : ByteArray := if j = 7 then lg else badT r j
/-- They lie at g. -/
structure B9 (r : Rfs) (lg : ByteArray) (wx : World) (g : Nat) : Prop where
  c : ∀ j, j < 9 → wx.cell? ⟨g, j, none⟩ = some (.string (tx9 r lg j))
  lt : g < wx.heap.size
theorem readF_lg {s : ByteArray} (h : s.size = 32769) : (readF s).1 = 5 := by rw [readF, if_pos (by omega)]
theorem tx9_size {r : Rfs} {lg : ByteArray} (h : r.text.size ≤ 400) (ha : (kfr r.a).size ≤ 105) (hl : lg.size = 32769) (j : Nat) : (tx9 r lg j).size ≤ 40000 := by
  unfold tx9
  split
  · omega
  · match j with
    | 0 => simp [badT, ByteArray.size]
    | 1 => simp [badT, ByteArray.size]
    | 2 => rw [badT, ByteArray.size_append, ByteArray.size_extract]; have : (⟨#[72, 68, 84, 50]⟩ : ByteArray).size = 4 := rfl; omega
    | 3 => rw [badT, ByteArray.size_extract]; omega
    | 4 => rw [badT, ByteArray.size_append]; have : (⟨#[0]⟩ : ByteArray).size = 1 := rfl; omega
    | 5 => simp [badT, hdt1, ByteArray.size]
    | 6 => rw [badT, ByteArray.size_append]; have : hdt1.size = 4 := rfl; omega
    | 7 => simp [badT, ByteArray.size]
    | j + 8 =>
      have e : badT r (j + 8) = r.text.extract 0 5 ++ strOfNums [((byteAt r.text 5 ^^^ 1 : Nat) : Int)] ++ r.text.extract 6 r.text.size := rfl
      rw [e, ByteArray.size_append, ByteArray.size_append, ByteArray.size_extract, ByteArray.size_extract, nums_size]; simp only [List.length_cons, List.length_nil]; omega

theorem b9_of {r : Rfs} {s fa lg : ByteArray} {m : Nat} (W : World) (hT : r.text = s) (hm : m = s.size - 1) (hfa : fa = kfr r.a) (h5 : 5 < s.size) :
    B9 r lg (W.alloc (.cells #[.string ⟨#[]⟩, .string ⟨#[72, 68, 84]⟩, .string (⟨#[72, 68, 84, 50]⟩ ++ s.extract 4 s.size), .string (s.extract 0 m), .string (s ++ ⟨#[0]⟩), .string ⟨#[72, 68, 84, 49]⟩, .string (⟨#[72, 68, 84, 49]⟩ ++ fa), .string lg, .string (s.extract 0 5 ++ strOfNums [bits .xor .u8 (s[5].toNat : Int) 1] ++ s.extract 6 s.size)] 9)) W.heap.size := by
  subst hm hfa
  have hx : bits .xor .u8 (s[5].toNat : Int) 1 = ((byteAt r.text 5 ^^^ 1 : Nat) : Int) := by
    rw [hT, byteAt, dif_pos h5]
    exact bits_xor_u8 _ (UInt8.toNat_lt _)
  refine ⟨fun j hj => ?_, by simp⟩
  rw [new_cell, hx, ← hT]
  match j, hj with
  | 0, _ => rfl
  | 1, _ => rfl
  | 2, _ => rfl
  | 3, _ => rfl
  | 4, _ => rfl
  | 5, _ => rfl
  | 6, _ => rfl
  | 7, _ => rfl
  | 8, _ => rfl
theorem b9_of2 {r : Rfs} {s fa lg : ByteArray} {m : Nat} (W : World) (ob : Obj) (hT : r.text = s) (hm : m = s.size - 1) (hfa : fa = kfr r.a) (h5 : 5 < s.size) :
    B9 r lg ((W.alloc ob).alloc (.cells #[.string ⟨#[]⟩, .string ⟨#[72, 68, 84]⟩, .string (⟨#[72, 68, 84, 50]⟩ ++ s.extract 4 s.size), .string (s.extract 0 m), .string (s ++ ⟨#[0]⟩), .string ⟨#[72, 68, 84, 49]⟩, .string (⟨#[72, 68, 84, 49]⟩ ++ fa), .string lg, .string (s.extract 0 5 ++ strOfNums [bits .xor .u8 (s[5].toNat : Int) 1] ++ s.extract 6 s.size)] 9)) (W.heap.size + 1) := by
  have := b9_of (lg := lg) (W.alloc ob) hT hm hfa h5
  rw [World.size_alloc] at this
  exact this
theorem why_at (W : World) (j : Nat) (hj : j < 9) : (W.alloc (.cells #[.int .i64 6, .int .i64 6, .int .i64 6, .int .i64 7, .int .i64 7, .int .i64 7, .int .i64 7, .int .i64 5, .int .i64 7] 35)).cell? ⟨W.heap.size, j, none⟩ = some (.int .i64 ((whyT j : Nat) : Int)) := by
  rw [new_cell]
  match j, hj with
  | 0, _ => rfl
  | 1, _ => rfl
  | 2, _ => rfl
  | 3, _ => rfl
  | 4, _ => rfl
  | 5, _ => rfl
  | 6, _ => rfl
  | 7, _ => rfl
  | 8, _ => rfl
/-- What the loop over the nine texts reads. -/
structure L9 (r : Rfs) (lg : ByteArray) (w0 wy : World) (g gw : Nat) : Prop where
  b : ∀ j, j < 9 → wy.cell? ⟨g, j, none⟩ = some (.string (tx9 r lg j))
  y : ∀ j, j < 9 → wy.cell? ⟨gw, j, none⟩ = some (.int .i64 ((whyT j : Nat) : Int))
  lb : g < wy.heap.size
  ly : gw < wy.heap.size
  bel : Below w0.heap.size w0 wy
theorem L9.below {r : Rfs} {lg : ByteArray} {w0 wy w' : World} {g gw : Nat} (h : L9 r lg w0 wy g gw) (k : Below wy.heap.size wy w') : L9 r lg w0 w' g gw :=
  ⟨fun j hj => by rw [k.cell (p := ⟨g, j, none⟩) h.lb]; exact h.b j hj, fun j hj => by rw [k.cell (p := ⟨gw, j, none⟩) h.ly]; exact h.y j hj, Nat.lt_of_lt_of_le h.lb k.size, Nat.lt_of_lt_of_le h.ly k.size, h.bel.trans (k.mono h.bel.size)⟩
theorem why_pos (j : Nat) : whyT j ≠ 0 := by
  unfold whyT
  split <;> omega

set_option maxRecDepth 100000 in
set_option maxHeartbeats 4000000 in
theorem refuses_any (hLd : LoadC) (w : World) (k : Int) (hk0 : -9223372036854775808 ≤ k) (hk1 : k ≤ 9223372036854775807) : Calls Try.prog 21 #[.int .i64 k] w fun e w' => e = .returned (.bool true) ∧ Below w.heap.size w w' := by
  have HLd := hid hLd
  clear hLd
  go_enter Try.func21, Try.ntmps21
  go_wp2_with fail
  have h19 := ksum_any w s19 (by decide)
  rw [crc_19] at h19
  refine h19.mono ?_
  rintro _ w' ⟨rfl, hw⟩
  replace hw := hw.symm
  subst hw
  clear h19
  go_wp2_with fail
  refine (refusals_R w).mono ?_
  rintro _ w1 ⟨lb, v, rfl, hlb, hl, hb1⟩
  obtain ⟨a0, a1⟩ := pk_range k 27 (by omega)
  obtain ⟨i, hi⟩ := Int.eq_ofNat_of_zero_le a0
  have hi3 : i < 27 := by omega
  have hi3' : (i : Int) < 27 := by omega
  obtain ⟨⟨d0, d1, d2, d3⟩, la, lb', lc⟩ := hl i hi3
  have HOk := hid (rfs_good i hi3)
  have HLa := hid la
  have HLb := hid lb'
  have HLc := hid lc
  have HB1 := hid hb1
  have HPk := hid hi
  clear hl la lb' lc hb1 hi a0 a1
  generalize rfs i = r at HOk HLa HLb HLc d3
  generalize (v i).1 = va at d0 HLa
  generalize (v i).2.1 = vb at d1 HLb
  generalize (v i).2.2 = vc at d2 HLc
  clear v
  obtain ⟨re, hre⟩ : ∃ re, re = r.e := ⟨_, rfl⟩
  have HRe := hid hre
  rw [← hre] at d3
  clear hre
  obtain ⟨pa, na, ca, rfl⟩ : ∃ p n c, va = .slice p n c := by obtain ⟨p, c, h, _⟩ := HLa.out; exact ⟨_, _, _, h⟩
  obtain ⟨pb, nb, cb, rfl⟩ : ∃ p n c, vb = .slice p n c := by obtain ⟨p, c, h, _⟩ := HLb.out; exact ⟨_, _, _, h⟩
  obtain ⟨pc, nc, cc, rfl⟩ : ∃ p n c, vc = .slice p n c := by obtain ⟨p, c, h, _⟩ := HLc.out; exact ⟨_, _, _, h⟩
  go_wp2_with fail
  refine (pick_any k 27 _ (by omega) hk0 hk1).mono ?_
  rintro _ w' ⟨rfl, hw⟩
  replace hw := hw.symm
  subst hw
  rw [HPk.out]
  clear HPk
  go_wp2_with fail
  have HRI : Hid (RfI w (w1.alloc (.cells #[.slice pa na ca, .slice pb nb cb, .slice pc nc cc, .int .i64 re] 91)) w1.heap.size (.slice pa na ca) (.slice pb nb cb) (.slice pc nc cc) r re) := by
    have hb2 : Below w1.heap.size w1 (w1.alloc (.cells #[.slice pa na ca, .slice pb nb cb, .slice pc nc cc, .int .i64 re] 91)) := (Below.refl _ _).alloc (Nat.le_refl _) _
    exact ⟨by rw [new_cell]; rfl, by rw [new_cell]; rfl, by rw [new_cell]; rfl, by rw [new_cell]; rfl, HLa.out.below hb2, HLb.out.below hb2, HLc.out.below hb2, HB1.out.trans (hb2.mono HB1.out.size)⟩
  clear d0 d1 d2 d3 hlb HB1 HLa HLb HLc
  generalize w1.alloc (.cells #[.slice pa na ca, .slice pb nb cb, .slice pc nc cc, .int .i64 re] 91) = w2 at HRI ⊢
  generalize w1.heap.size = lk at HRI ⊢
  have d0 := HRI.out.c0
  have d1 := HRI.out.c1
  have d2 := HRI.out.c2
  have hok := HOk.out
  obtain ⟨fa, hfa⟩ : ∃ f, f = kfr r.a := ⟨_, rfl⟩
  obtain ⟨fb, hfb⟩ : ∃ f, f = kfr r.b := ⟨_, rfl⟩
  obtain ⟨fc, hfc⟩ : ∃ f, f = kfr r.c := ⟨_, rfl⟩
  have za : fa.size ≤ 105 := by rw [hfa]; exact kfr_size hok.la
  have ya : 5 ≤ fa.size := by rw [hfa]; exact kfr_size5 _
  have yb : 5 ≤ fb.size := by rw [hfb]; exact kfr_size5 _
  have zb : fb.size ≤ 105 := by rw [hfb]; exact kfr_size hok.lb
  have zc : fc.size ≤ 105 := by rw [hfc]; exact kfr_size hok.lc
  have CFa : Hid (∀ wx, Below w2.heap.size w2 wx → Calls Try.prog 49 #[.slice pa na ca] wx fun e w' => e = .returned (.string fa) ∧ Below w2.heap.size w2 w' ∧ w'.cell? ⟨lk, 0, none⟩ = some (.slice pa na ca) ∧ w'.cell? ⟨lk, 1, none⟩ = some (.slice pb nb cb) ∧ w'.cell? ⟨lk, 1 + 1, none⟩ = some (.slice pc nc cc)) := fun wx hb => by
    refine (kframe_any wx _ r.a hok.la hok.xa (HRI.out.below hb).la).mono ?_
    rintro _ w' ⟨rfl, hb'⟩
    have hbb : Below w2.heap.size w2 w' := hb.trans (hb'.mono hb.size)
    have q := HRI.out.below hbb
    exact ⟨by rw [hfa], hbb, q.c0, q.c1, q.c2⟩
  have CFb : Hid (∀ wx, Below w2.heap.size w2 wx → Calls Try.prog 49 #[.slice pb nb cb] wx fun e w' => e = .returned (.string fb) ∧ Below w2.heap.size w2 w' ∧ w'.cell? ⟨lk, 0, none⟩ = some (.slice pa na ca) ∧ w'.cell? ⟨lk, 1, none⟩ = some (.slice pb nb cb) ∧ w'.cell? ⟨lk, 1 + 1, none⟩ = some (.slice pc nc cc)) := fun wx hb => by
    refine (kframe_any wx _ r.b hok.lb hok.xb (HRI.out.below hb).lb).mono ?_
    rintro _ w' ⟨rfl, hb'⟩
    have hbb : Below w2.heap.size w2 w' := hb.trans (hb'.mono hb.size)
    have q := HRI.out.below hbb
    exact ⟨by rw [hfb], hbb, q.c0, q.c1, q.c2⟩
  have CFc : Hid (∀ wx, Below w2.heap.size w2 wx → Calls Try.prog 49 #[.slice pc nc cc] wx fun e w' => e = .returned (.string fc) ∧ Below w2.heap.size w2 w' ∧ w'.cell? ⟨lk, 0, none⟩ = some (.slice pa na ca) ∧ w'.cell? ⟨lk, 1, none⟩ = some (.slice pb nb cb) ∧ w'.cell? ⟨lk, 1 + 1, none⟩ = some (.slice pc nc cc)) := fun wx hb => by
    refine (kframe_any wx _ r.c hok.lc hok.xc (HRI.out.below hb).lc).mono ?_
    rintro _ w' ⟨rfl, hb'⟩
    have hbb : Below w2.heap.size w2 w' := hb.trans (hb'.mono hb.size)
    have q := HRI.out.below hbb
    exact ⟨by rw [hfc], hbb, q.c0, q.c1, q.c2⟩
  have HFa := hid hfa
  have HT : Hid (r.text = hdt1 ++ fa ++ fb ++ fc) := by show _ = _; rw [hfa, hfb, hfc]; rfl
  have z4 : (⟨#[72, 68, 84, 49]⟩ : ByteArray).size = 4 := rfl
  have n1 : ¬ 9223372036854775807 < 4 + fa.size := by omega
  have n2 : ¬ 9223372036854775807 < 4 + fa.size + fb.size := by omega
  have n3 : ¬ 9223372036854775807 < 4 + fa.size + fb.size + fc.size := by omega
  clear hok hfa hfb hfc
  go_wp2_with fail
  go_region_held2 (fun w' => w'.cell? ⟨lk, 0, none⟩ = some (.slice pa na ca) ∧ w'.cell? ⟨lk, 1, none⟩ = some (.slice pb nb cb) ∧ w'.cell? ⟨lk, 1 + 1, none⟩ = some (.slice pc nc cc)) (first | exact ⟨by assumption, by assumption, by assumption⟩ | trivial)
    (first
      | (go_at_call_of 49 (Value.slice pa na ca); refine (CFa.out _ (by first | exact Below.refl _ _ | exact (Below.refl _ _).drew | assumption | exact Below.drew (by assumption))).mono ?_; rintro _ w3 ⟨rfl, hb3, f1, f2, f3⟩)
      | (go_at_call_of 49 (Value.slice pb nb cb); refine (CFb.out _ (by first | exact Below.refl _ _ | exact (Below.refl _ _).drew | assumption | exact Below.drew (by assumption))).mono ?_; rintro _ w4 ⟨rfl, hb4, f4, f5, f6⟩)
      | (go_at_call_of 49 (Value.slice pc nc cc); refine (CFc.out _ (by first | exact Below.refl _ _ | exact (Below.refl _ _).drew | assumption | exact Below.drew (by assumption))).mono ?_; rintro _ w5 ⟨rfl, hb5, f7, f8, f9⟩))
  go_wp2_with fail
  have HR5 := hid (HRI.out.below hb5)
  have HRd : Hid (∀ wx e w', LoadR (⟨#[72, 68, 84, 49]⟩ ++ fa ++ fb ++ fc) wx e w' → ∃ p, e = .returned (.tuple #[.pointer p, .int .i64 (re : Int)]) ∧ Below wx.heap.size wx w' ∧ ((re = 0 ∧ ∃ b, p = some ⟨b, 0, none⟩) ∨ (re ≠ 0 ∧ p = none))) := fun wx e w' q => load_rf (by rw [HRe.out, ← HOk.out.rd, HT.out]; rfl) q
  have zs : (⟨#[72, 68, 84, 49]⟩ ++ fa ++ fb ++ fc : ByteArray).size = 4 + fa.size + fb.size + fc.size := by rw [ByteArray.size_append, ByteArray.size_append, ByteArray.size_append]; rfl
  obtain ⟨s, hs⟩ : ∃ s : ByteArray, s = ⟨#[72, 68, 84, 49]⟩ ++ fa ++ fb ++ fc := ⟨_, rfl⟩
  rw [← hs] at zs HRd ⊢
  have HTs : Hid (r.text = s) := by show _ = _; rw [HT.out, hs]; rfl
  have s1 : 14 ≤ s.size := by omega
  have s2 : s.size ≤ 400 := by omega
  clear hs zs hb3 hb4 hb5 f1 f2 f3 f4 f5 f6 f7 f8 f9 HRI d0 d1 d2 CFa CFb CFc HT zb zc yb n2 n3
  refine (HLd.out w5 s k (by omega)).mono ?_
  intro e w6 hl
  obtain ⟨p, rfl, hb6, hp⟩ := HRd.out w5 e w6 hl
  have HR6 := hid (HR5.out.below hb6)
  clear hl hb6 HRd HR5
  obtain ⟨zz, lg, hlg, hmk, hcl⟩ := klong 32769 (by omega)
  have HLg := hid hlg
  have hmk' : ∀ W, (Instr.makeSlice 40 (.int .i64 32769) (.int .i64 32769)).run Try.prog W = .ok (.slice (some ⟨W.heap.size, 0, none⟩) 32769 32769) (W.alloc (.cells zz 5)) := hmk
  clear hlg hmk
  have d3 := HR6.out.c3
  rcases hp with ⟨hre, b, rfl⟩ | ⟨hre, rfl⟩
  all_goals
    have HRz := hid hre
    first | subst hre | (have q1 : ((re : Int) == 0) = false := by simpa using hre
                         have q2 : decide ((re : Int) = 0) = false := by simpa using hre
                         have q3 : ¬ ((re : Int) = 0) := by omega
                         have q4 : ((re : Int) != 0) = true := by simp only [bne, q1, Bool.not_false])
    go_wp2_with fail
    have HR7 := hid (HR6.out.below ((Below.refl w6.heap.size w6).alloc (Nat.le_refl _) (.cells zz 5)))
    clear HR6 d3 hmk' hcl
    generalize w6.alloc (.cells zz 5) = w7 at HR7 ⊢
    have d0 := HR7.out.c0
    have CF7 : Hid (∀ wx, Below w7.heap.size w7 wx → Calls Try.prog 49 #[.slice pa na ca] wx fun e w' => e = .returned (.string fa) ∧ Below w7.heap.size w7 w' ∧ w'.cell? ⟨lk, 0, none⟩ = some (.slice pa na ca) ∧ (∀ b, b < wx.heap.size → w'.cell? ⟨b, 0, none⟩ = wx.cell? ⟨b, 0, none⟩)) := fun wx hb => by
      refine (kframe_any wx _ r.a HOk.out.la HOk.out.xa (HR7.out.below hb).la).mono ?_
      rintro _ w' ⟨rfl, hb'⟩
      have hbb : Below w7.heap.size w7 w' := hb.trans (hb'.mono hb.size)
      exact ⟨by rw [HFa.out], hbb, (HR7.out.below hbb).c0, fun b hbl => hb'.cell hbl⟩
    have hcvG : ∀ (W : World) (b : Nat) (x : Int), W.cell? ⟨b, 0, none⟩ = some (.int .u8 x) → (convert 40 9 (.slice (some ⟨b, 0, none⟩) 1 1)).run Try.prog W = .ok (.string (strOfNums [x])) W := fun W b x h => kconv_at W b 1 [x] rfl (fun i hi => by match i, hi with | 0, _ => exact h)
    have t1 : 5 < s.size := by omega
    have HS5 := hid t1
    have t2 : (5 : Int) ≤ (s.size : Int) := by omega
    have t3 : (4 : Int) ≤ (s.size : Int) := by omega
    have t4 : (6 : Int) ≤ (s.size : Int) := by omega
    have t5 : (5 : Int) < (s.size : Int) := by omega
    obtain ⟨m, hm⟩ : ∃ m, m = s.size - 1 := ⟨_, rfl⟩
    have HM := hid hm
    have t63 : (0 : Int) ≤ (m : Int) := by omega
    have t64 : (0 : Int) ≤ (m : Int) ∧ (m : Int) ≤ (s.size : Int) := by omega
    have t7 : (m : Int) ≤ (s.size : Int) := by omega
    have t8 : m ≤ s.size := by omega
    have t6 : IntKind.i64.wrap ((s.size : Int) - 1) = (m : Int) := by rw [IntKind.wrap_i64]; omega
    have t6' : wrap64 ((s.size : Int) - 1) = (m : Int) := by unfold wrap64; omega
    have t61 : IntKind.i64.wrap (m : Int) = (m : Int) := by rw [IntKind.wrap_i64]; omega
    have t62 : wrap64 (m : Int) = (m : Int) := by unfold wrap64; omega
    clear hm
    have z41 : (⟨#[72, 68, 84, 50]⟩ : ByteArray).size = 4 := rfl
    have z1 : (⟨#[0]⟩ : ByteArray).size = 1 := rfl
    have e4 : (s.extract 4 s.size).size = s.size - 4 := by rw [ByteArray.size_extract]; omega
    have e5 : (s.extract 0 5).size = 5 := by rw [ByteArray.size_extract]; omega
    have e6 : (s.extract 6 s.size).size = s.size - 6 := by rw [ByteArray.size_extract]; omega
    have one : ∀ x : Int, (strOfNums [x]).size = 1 := fun x => nums_size _
    have nu2 : ¬ 9223372036854775807 < 4 + (s.size - 4) := by omega
    have nu9 : ¬ 9223372036854775807 < s.size + 1 := by omega
    have nu25 : ¬ 9223372036854775807 < 5 + 1 + (s.size - 6) := by omega
    have nu26 : ¬ 9223372036854775807 < 6 + (s.size - 6) := by omega
    go_cut [9] (fun x wx => ∃ g, x = .slice (some ⟨g, 0, none⟩) 9 9 ∧ Hid (B9 r lg wx g) ∧ Hid (Below w.heap.size w wx))
    case first =>
      go_region_held (fun w' => w'.cell? ⟨lk, 0, none⟩ = some (.slice pa na ca)) (first | assumption | go_keep | trivial)
        (first
          | (go_at_call_of 49 (Value.slice pa na ca); refine (CF7.out _ (by first | exact Below.refl _ _ | exact (Below.refl _ _).drew | assumption | exact Below.drew (by assumption) | exact Below.alloc (Below.refl _ _) (Nat.le_refl _) _ | exact Below.alloc ((Below.refl _ _).drew) (Nat.le_refl _) _)).mono ?_; rintro _ w8 ⟨rfl, hb8, f1, f2⟩))
      all_goals
        go_wp2_with fail
        have HB8 : Hid (Below w.heap.size w w8) := HR7.out.bel.trans (hb8.mono HR7.out.bel.size)
        go_meet
        case rel =>
          first
            | exact ⟨_, rfl, b9_of w8 HTs.out HM.out HFa.out HS5.out, HB8.out.alloc HB8.out.size _⟩
            | exact ⟨_, rfl, b9_of2 w8 _ HTs.out HM.out HFa.out HS5.out, (HB8.out.alloc HB8.out.size _).alloc (HB8.out.alloc HB8.out.size _).size _⟩
    case rest =>
      obtain ⟨g, rfl, HG, HBw⟩ := hcut
      have HL : Hid (L9 r lg w (wc.alloc (.cells #[.int .i64 6, .int .i64 6, .int .i64 6, .int .i64 7, .int .i64 7, .int .i64 7, .int .i64 7, .int .i64 5, .int .i64 7] 35)) g wc.heap.size) := by
        have hal := (Below.refl wc.heap.size wc).alloc (Nat.le_refl _) (.cells #[.int .i64 6, .int .i64 6, .int .i64 6, .int .i64 7, .int .i64 7, .int .i64 7, .int .i64 7, .int .i64 5, .int .i64 7] 35)
        exact ⟨fun j hj => by rw [hal.cell (p := ⟨g, j, none⟩) HG.out.lt]; exact HG.out.c j hj, why_at wc, Nat.lt_of_lt_of_le HG.out.lt hal.size, by simp, HBw.out.trans (hal.mono HBw.out.size)⟩
      have HSz : Hid (∀ j, (tx9 r lg j).size ≤ 40000) := tx9_size (by rw [HTs.out]; exact s2) (by rw [← HFa.out]; exact za) HLg.out
      have HRd9 : Hid (∀ j, j < 9 → (readF (tx9 r lg j)).1 = whyT j) := fun j hj => by
        unfold tx9
        split
        · rename_i q
          subst q
          exact readF_lg HLg.out
        · rename_i q
          exact HOk.out.bd j hj q
      clear HR7 CF7 d0 HG HBw t1 t2 t3 t4 t5 t63 t64 t7 t8 t6 t6' t61 t62 z41 z1 e4 e5 e6 one nu2 nu9 nu25 nu26 hcvG
      go_wp2_with fail
      generalize wc.alloc (.cells #[.int .i64 6, .int .i64 6, .int .i64 6, .int .i64 7, .int .i64 7, .int .i64 7, .int .i64 7, .int .i64 5, .int .i64 7] 35) = wy at HL ⊢
      generalize wc.heap.size = gw at HL ⊢
      go_loopw [86] (fun q wr => ∃ j : Nat, j ≤ 9 ∧ q = .int .i64 j ∧ Hid (L9 r lg w wr g gw)) (fun q _ => 9 - (intOf q).toNat)
      case atStart => exact ⟨0, by omega, rfl, HL⟩
      case round =>
        obtain ⟨j, hj, rfl, HJ⟩ := hrel
        by_cases cj : j < 9
        · have cj' : (j : Int) < 9 := by omega
          have d := HJ.out.b j cj
          have HSj := hid (HSz.out j)
          have HRj := hid (HRd9.out j cj)
          have HYj := hid (HJ.out.y j cj)
          have hpos := why_pos j
          generalize tx9 r lg j = t at d HSj HRj
          generalize whyT j = yy at HRj HYj hpos
          go_wp2_with fail
          refine (HLd.out wr t k (by have := HSj.out; omega)).mono ?_
          intro e w9 hl
          obtain ⟨p, rfl, hb9, hp⟩ := load_rf HRj.out hl
          have hp' : p = none := by
            rcases hp with ⟨q, _⟩ | ⟨_, q⟩
            · exact absurd q hpos
            · exact q
          subst hp'
          have HJ9 := hid (HJ.out.below hb9)
          have d9 : w9.cell? ⟨gw, j, none⟩ = some (.int .i64 (yy : Int)) := by rw [hb9.cell (p := ⟨gw, j, none⟩) HJ.out.ly]; exact HYj.out
          have y1 : ((yy : Int) != (yy : Int)) = false := by simp
          clear hl hp hb9 HYj HRj HSj
          go_wp2
          exact ⟨⟨j + 1, by omega, by go_num, HJ9⟩, by simp [intOf]; omega⟩
        · have cj' : ¬ (j : Int) < 9 := by omega
          go_wp2_with fail
          go_ret
          exact ⟨rfl, HJ.out.bel⟩

end Go.Proofs.Ytckallochdegiab
