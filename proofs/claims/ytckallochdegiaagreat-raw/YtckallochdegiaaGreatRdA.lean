import Derived.Test.YtckallochdegiaaGreatByP
namespace Go.Proofs.YtckallochdegiaaGreat
set_option linter.unusedVariables false
set_option linter.unusedSimpArgs false

theorem fst_lt {n p : Nat} (hn : n < p) (b : Nat) : n + b % 128 * p < 128 * p := by
  have h1 : b % 128 ≤ 127 := by omega
  have h2 : b % 128 * p ≤ 127 * p := Nat.mul_le_mul_right _ h1
  omega

/-- The number with which a text begins, read from byte k on, n so far; f is fuel. -/
def frF (s : ByteArray) : Nat → Nat → Nat → Nat × ByteArray × Bool
  | 0, _, _ => (0, ⟨#[]⟩, false)
  | f + 1, k, n => if h : k < s.size then (if s[k].toNat < 128 then (n + s[k].toNat % 128 * 128 ^ k, s.extract (k + 1) s.size, decide (0 < s[k].toNat) || decide (k = 0)) else frF s f (k + 1) (n + s[k].toNat % 128 * 128 ^ k)) else (0, ⟨#[]⟩, false)
def firstF (s : ByteArray) : Nat × ByteArray × Bool := frF s 4 0 0

theorem frF_spec (s : ByteArray) : ∀ f k n, f + k = 4 → n < 128 ^ k → (frF s f k n).1 < 2 ^ 28 ∧ ((frF s f k n).2.2 = true → (frF s f k n).2.1.size + 1 ≤ s.size) := by
  intro f
  induction f with
  | zero => intro k n _ _; rw [frF]; simp
  | succ f ih =>
    intro k n hf hn
    rw [frF]
    have p1 : 128 ^ (k + 1) = 128 * 128 ^ k := by rw [Nat.pow_succ, Nat.mul_comm]
    by_cases c : k < s.size
    · rw [dif_pos c]
      have hlt : n + s[k].toNat % 128 * 128 ^ k < 128 ^ (k + 1) := by rw [p1]; exact fst_lt hn _
      by_cases e : s[k].toNat < 128
      · rw [if_pos e]
        have pk : 128 ^ (k + 1) ≤ 128 ^ 4 := Nat.pow_le_pow_right (by omega) (by omega)
        refine ⟨by show n + s[k].toNat % 128 * 128 ^ k < 2 ^ 28; omega, fun _ => ?_⟩
        show (s.extract (k + 1) s.size).size + 1 ≤ s.size
        rw [ByteArray.size_extract]; omega
      · rw [if_neg e]
        exact ih (k + 1) _ (by omega) hlt
    · rw [dif_neg c]; simp

theorem firstF_spec (s : ByteArray) : (firstF s).1 < 2 ^ 28 ∧ ((firstF s).2.2 = true → (firstF s).2.1.size + 1 ≤ s.size) := frF_spec s 4 0 0 rfl (by omega)

/-- What a text is, as numbers, behind those that were read; f is fuel. -/
def numsG : Nat → ByteArray → List Nat → Option (List Nat)
  | 0, _, l => some l
  | f + 1, s, l => if 0 < s.size then (if (firstF s).2.2 = true then numsG f (firstF s).2.1 (l ++ [(firstF s).1]) else none) else some l
def numbersF (s : ByteArray) : Option (List Nat) := numsG s.size s []

theorem numsG_fuel : ∀ (f g : Nat) (s : ByteArray) (l : List Nat), s.size ≤ f → s.size ≤ g → numsG f s l = numsG g s l := by
  intro f
  induction f with
  | zero =>
    intro g s l hf _
    cases g with
    | zero => rfl
    | succ g => rw [numsG, numsG, if_neg (by omega)]
  | succ f ih =>
    intro g s l hf hg
    cases g with
    | zero => rw [numsG, numsG, if_neg (by omega)]
    | succ g =>
      rw [numsG, numsG]
      by_cases c : 0 < s.size
      · rw [if_pos c, if_pos c]
        by_cases d : (firstF s).2.2 = true
        · rw [if_pos d, if_pos d]
          have := (firstF_spec s).2 d
          exact ih g _ _ (by omega) (by omega)
        · rw [if_neg d, if_neg d]
      · rw [if_neg c, if_neg c]

/-- One frame of a text: what is in it, and what is behind it. -/
def partF (t : ByteArray) : Option (ByteArray × ByteArray) :=
  if (firstF t).2.2 = true ∧ (firstF t).1 + 4 ≤ (firstF t).2.1.size ∧ sumB ((firstF t).2.1.extract 0 (firstF t).1) = (firstF t).2.1.extract (firstF t).1 ((firstF t).1 + 4) then some ((firstF t).2.1.extract 0 (firstF t).1, (firstF t).2.1.extract ((firstF t).1 + 4) (firstF t).2.1.size) else none
def partsG : Nat → ByteArray → List ByteArray → Option (List ByteArray × ByteArray)
  | 0, t, l => some (l, t)
  | f + 1, t, l => match partF t with
    | some x => partsG f x.2 (l ++ [x.1])
    | none => none
/-- The texts in three frames. -/
def partsF (s : ByteArray) : Option (List ByteArray) := match partsG 3 s [] with
  | some x => if x.2.size = 0 then some x.1 else none
  | none => none

/-- A text's bytes. -/
def bl (s : ByteArray) : List UInt8 := s.data.toList
theorem bl_inj {s t : ByteArray} (h : bl s = bl t) : s = t := ByteArray.ext (Array.toList_inj.1 h)
theorem bl_app (s t : ByteArray) : bl (s ++ t) = bl s ++ bl t := by simp [bl, ByteArray.data_append]
theorem bl_len (s : ByteArray) : (bl s).length = s.size := by rw [bl, Array.length_toList]; rfl
theorem bl_ext (s : ByteArray) (a b : Nat) : bl (s.extract a b) = ((bl s).take b).drop a := by
  rw [bl, ByteArray.data_extract, Array.toList_extract, List.extract_eq_take_drop, ← List.drop_take]; rfl
theorem bl_nil : bl ⟨#[]⟩ = [] := rfl
theorem bl_one (n : Nat) (_h : n < 256) : bl (strOfNums [(n : Int)]) = [UInt8.ofNat n] := by simp [bl, strOfNums]
theorem bl_empty {s : ByteArray} (h : s.size = 0) : s = ⟨#[]⟩ := bl_inj (List.eq_nil_of_length_eq_zero (by rw [bl_len]; exact h))

theorem ext_split (s : ByteArray) (a : Nat) (_h : a ≤ s.size) : s = s.extract 0 a ++ s.extract a s.size := by
  apply bl_inj
  rw [bl_app, bl_ext, bl_ext, List.drop_zero]
  have : (bl s).take s.size = bl s := by rw [← bl_len]; exact List.take_length
  rw [this, List.take_append_drop]
theorem ext_all (s : ByteArray) : s.extract 0 s.size = s := by
  apply bl_inj
  rw [bl_ext, List.drop_zero, ← bl_len]; exact List.take_length
theorem ext_cons (s : ByteArray) (k : Nat) (h : k < s.size) : bl (s.extract k s.size) = s[k] :: bl (s.extract (k + 1) s.size) := by
  have t : (bl s).take s.size = bl s := by rw [← bl_len]; exact List.take_length
  have hk : k < (bl s).length := by rw [bl_len]; exact h
  rw [bl_ext, bl_ext, t, List.drop_eq_getElem_cons hk]; rfl

/-- More fuel than a number needs changes nothing. -/
theorem numB_fuel : ∀ (j k x : Nat), x < 128 ^ (j + 1) → j ≤ k → numB k x = numB j x := by
  intro j
  induction j with
  | zero =>
    intro k x h _
    cases k with
    | zero => rfl
    | succ k => rw [show numB 0 x = strOfNums [(x : Int)] from rfl, numB, if_pos (by omega)]
  | succ j ih =>
    intro k x h hk
    cases k with
    | zero => omega
    | succ k =>
      rw [numB, numB]
      by_cases c : x < 128
      · rw [if_pos c, if_pos c]
      · rw [if_neg c, if_neg c, ih k (x / 128) (by rw [Nat.pow_succ] at h; omega) (by omega)]

theorem bl_numB_lt {k n : Nat} (h : n < 128) : bl (numB k n) = [UInt8.ofNat n] := by
  cases k with
  | zero => rw [numB, bl_one _ (by omega)]
  | succ k => rw [numB, if_pos h, bl_one _ (by omega)]
theorem bl_numB_ge {k n : Nat} (h : ¬ n < 128) : bl (numB (k + 1) n) = UInt8.ofNat (128 + n % 128) :: bl (numB k (n / 128)) := by
  have w : IntKind.u8.wrap (128 + ((n % 128 : Nat) : Int)) = ((128 + n % 128 : Nat) : Int) := by
    simp [IntKind.wrap, IntKind.bits, IntKind.signed]; omega
  rw [numB, if_neg h, bl_app, w, bl_one _ (by omega)]; rfl

/-- What is read as a number was written so. -/
theorem frF_inv (s : ByteArray) : ∀ f k n, f + k = 4 → (frF s f k n).2.2 = true → ∃ x, x < 128 ^ f ∧ (frF s f k n).1 = n + x * 128 ^ k ∧ (0 < x ∨ k = 0) ∧ bl (s.extract k s.size) = bl (numB 40 x) ++ bl (frF s f k n).2.1 := by
  intro f
  induction f with
  | zero => intro k n _ h; rw [frF] at h; simp at h
  | succ f ih =>
    intro k n hf h
    rw [frF] at h ⊢
    by_cases c : k < s.size
    · rw [dif_pos c] at h ⊢
      have e := ext_cons s k c
      by_cases d : s[k].toNat < 128
      · rw [if_pos d] at h ⊢
        refine ⟨s[k].toNat, by have := Nat.pow_le_pow_right (n := 128) (by omega) (show 1 ≤ f + 1 by omega); omega, by show n + s[k].toNat % 128 * 128 ^ k = _; rw [Nat.mod_eq_of_lt d], ?_, ?_⟩
        · simpa using h
        · rw [e, bl_numB_lt d]
          simp
      · rw [if_neg d] at h ⊢
        obtain ⟨x, h1, h2, h3, h4⟩ := ih (k + 1) _ (by omega) h
        have lt := s[k].toNat_lt
        have hx : 0 < x := by rcases h3 with q | q <;> omega
        refine ⟨s[k].toNat % 128 + 128 * x, ?_, ?_, Or.inl (by omega), ?_⟩
        · rw [Nat.pow_succ]
          have : 128 * (x + 1) ≤ 128 * 128 ^ f := Nat.mul_le_mul_left _ h1
          omega
        · rw [h2, Nat.pow_succ, Nat.add_mul, Nat.add_assoc]
          congr 2
          rw [Nat.mul_comm (128 ^ k) 128, ← Nat.mul_assoc, Nat.mul_comm x 128]
        · have f5 : numB 39 x = numB 40 x := by
            have b : x < 128 ^ (3 + 1) := by have := Nat.pow_le_pow_right (n := 128) (by omega) (show f ≤ 4 by omega); omega
            rw [numB_fuel 3 39 _ b (by omega), numB_fuel 3 40 _ b (by omega)]
          have q1 : (s[k].toNat % 128 + 128 * x) / 128 = x := by omega
          have q2 : 128 + (s[k].toNat % 128 + 128 * x) % 128 = s[k].toNat := by omega
          have q3 := bl_numB_ge (k := 39) (n := s[k].toNat % 128 + 128 * x) (by omega)
          rw [q1, q2, f5] at q3
          rw [e, h4, show numB 40 (s[k].toNat % 128 + 128 * x) = numB (39 + 1) (s[k].toNat % 128 + 128 * x) from rfl, q3, List.cons_append]
          congr 1
          apply UInt8.toNat_inj.1
          simp
    · rw [dif_neg c] at h; simp at h
theorem firstF_inv {s : ByteArray} (h : (firstF s).2.2 = true) : (firstF s).1 < 2 ^ 28 ∧ s = nB (firstF s).1 ++ (firstF s).2.1 := by
  obtain ⟨x, h1, h2, _, h4⟩ := frF_inv s 4 0 0 rfl h
  have e : (firstF s).1 = x := by rw [firstF, h2]; simp
  refine ⟨by rw [e]; omega, ?_⟩
  apply bl_inj
  rw [ext_all] at h4
  rw [bl_app, e, h4]; rfl

theorem numsG_inv : ∀ (f : Nat) (s : ByteArray) (p l : List Nat), s.size ≤ f → numsG f s p = some l → ∃ m, l = p ++ m ∧ s = numsB m ∧ ∀ n, n ∈ m → n < 2 ^ 28 := by
  intro f
  induction f with
  | zero =>
    intro s p l hs h
    rw [numsG] at h
    injection h with h
    exact ⟨[], by simp [h], by rw [bl_empty (s := s) (by omega)]; rfl, by simp⟩
  | succ f ih =>
    intro s p l hs h
    rw [numsG] at h
    by_cases c : 0 < s.size
    · rw [if_pos c] at h
      by_cases d : (firstF s).2.2 = true
      · rw [if_pos d] at h
        obtain ⟨i1, i2⟩ := firstF_inv d
        have sp := (firstF_spec s).2 d
        obtain ⟨m, h1, h2, h3⟩ := ih _ _ _ (by omega) h
        refine ⟨(firstF s).1 :: m, by rw [h1]; simp, ?_, fun n hn => ?_⟩
        · rw [numsB_cons, ← h2]; exact i2
        · rcases List.mem_cons.1 hn with rfl | q
          · exact i1
          · exact h3 n q
      · rw [if_neg d] at h; simp at h
    · rw [if_neg c] at h
      injection h with h
      exact ⟨[], by simp [h], by rw [bl_empty (s := s) (by omega)]; rfl, by simp⟩
/-- What is read as numbers was written so. -/
theorem numbersF_inv {s : ByteArray} {l : List Nat} (h : numbersF s = some l) : s = numsB l ∧ ∀ n, n ∈ l → n < 2 ^ 28 := by
  obtain ⟨m, h1, h2, h3⟩ := numsG_inv _ _ _ _ (Nat.le_refl _) h
  rw [List.nil_append] at h1
  rw [h1]; exact ⟨h2, h3⟩

theorem partF_inv {t c r : ByteArray} (h : partF t = some (c, r)) : c.size < 2 ^ 28 ∧ t = frameB c ++ r := by
  rw [partF] at h
  split at h
  · rename_i q
    obtain ⟨q1, q2, q3⟩ := q
    injection h with h
    obtain ⟨i1, i2⟩ := firstF_inv q1
    obtain ⟨n, hn⟩ : ∃ n, n = (firstF t).1 := ⟨_, rfl⟩
    obtain ⟨x, hx⟩ : ∃ x, x = (firstF t).2.1 := ⟨_, rfl⟩
    rw [← hn, ← hx] at h i2 q2 q3
    rw [← hn] at i1
    injection h with h1 h2
    have sz : c.size = n := by rw [← h1, ByteArray.size_extract]; omega
    refine ⟨by omega, ?_⟩
    rw [i2, frameB, ByteArray.append_assoc, ByteArray.append_assoc, sz]
    congr 1
    rw [h1] at q3
    rw [q3, ← h1, ← h2]
    apply bl_inj
    have tk : (bl x).take x.size = bl x := by rw [← bl_len]; exact List.take_length
    rw [bl_app, bl_app, bl_ext, bl_ext, bl_ext, tk, List.drop_zero, List.drop_take, Nat.add_sub_cancel_left, ← List.drop_drop]
    rw [List.take_append_drop, List.take_append_drop]
  · simp at h

theorem partsF_inv {s : ByteArray} {l : List ByteArray} (h : partsF s = some l) : ∃ a b c, l = [a, b, c] ∧ a.size < 2 ^ 28 ∧ b.size < 2 ^ 28 ∧ c.size < 2 ^ 28 ∧ s = frameB a ++ (frameB b ++ frameB c) := by
  rw [partsF] at h
  cases p : partsG 3 s [] with
  | none => rw [p] at h; simp at h
  | some x =>
    rw [p] at h
    simp only at h
    split at h
    · rename_i z
      injection h with h
      rw [partsG] at p
      cases p1 : partF s with
      | none => rw [p1] at p; simp at p
      | some y1 =>
        obtain ⟨a, r1⟩ := y1
        rw [p1] at p
        simp only [List.nil_append] at p
        rw [partsG] at p
        cases p2 : partF r1 with
        | none => rw [p2] at p; simp at p
        | some y2 =>
          obtain ⟨b, r2⟩ := y2
          rw [p2] at p
          simp only at p
          rw [partsG] at p
          cases p3 : partF r2 with
          | none => rw [p3] at p; simp at p
          | some y3 =>
            obtain ⟨c, r3⟩ := y3
            rw [p3] at p
            simp only [partsG] at p
            injection p with p
            obtain ⟨a1, a2⟩ := partF_inv p1
            obtain ⟨b1, b2⟩ := partF_inv p2
            obtain ⟨c1, c2⟩ := partF_inv p3
            rw [← p] at z h
            have : r3 = ⟨#[]⟩ := bl_empty z
            refine ⟨a, b, c, by rw [← h]; rfl, a1, b1, c1, ?_⟩
            rw [a2, b2, c2, this]
            congr 2
            apply bl_inj; rw [bl_app, bl_nil, List.append_nil]
    · simp at h

end Go.Proofs.YtckallochdegiaaGreat
namespace Go.Proofs.YtckallochdegiaaGreat
set_option linter.unusedVariables false
set_option linter.unusedSimpArgs false

/-- x can be reached from v by pairs. -/
def RchP (F : List (Int × Int)) (v x : Int) : Prop := ∀ S : Int → Bool, S v = true → (∀ e, e ∈ F → S e.1 = S e.2) → S x = true

theorem RchP.refl (F : List (Int × Int)) (v : Int) : RchP F v v := fun _ h _ => h
theorem RchP.trans {F : List (Int × Int)} {a b c : Int} (h : RchP F a b) (k : RchP F b c) : RchP F a c := fun S h1 h2 => k S (h S h1 h2) h2
theorem RchP.symm {F : List (Int × Int)} {a b : Int} (h : RchP F a b) : RchP F b a := by
  intro S h1 h2
  cases q : S a
  · have := h (fun x => !S x) (by simp [q]) (fun e he => by simp [h2 e he])
    simp [h1] at this
  · rfl
theorem RchP.mono {F F' : List (Int × Int)} {a b : Int} (h : RchP F a b) (k : ∀ e, e ∈ F → e ∈ F') : RchP F' a b := fun S h1 h2 => h S h1 (fun e he => h2 e (k e he))
theorem RchP.edge {F : List (Int × Int)} {e : Int × Int} (h : e ∈ F) : RchP F e.1 e.2 := fun S h1 h2 => by rw [← h2 e h]; exact h1

/-- A label for each vertex: those that are connected have the same. -/
def labF : List (Int × Int) → Int → Int
  | [], x => x
  | e :: F, x => if labF F x = labF F e.1 then labF F e.2 else labF F x

theorem labF_edge (F : List (Int × Int)) : ∀ e, e ∈ F → labF F e.1 = labF F e.2 := by
  induction F with
  | nil => intro e he; simp at he
  | cons f F ih =>
    intro e he
    rcases List.mem_cons.1 he with rfl | q
    · simp only [labF, if_true]
      split
      · rename_i c; rw [c]
      · rfl
    · have := ih e q
      simp only [labF, this]
theorem labF_rch (F : List (Int × Int)) : ∀ a b, labF F a = labF F b → RchP F a b := by
  induction F with
  | nil => intro a b h; simp only [labF] at h; rw [h]; exact RchP.refl _ _
  | cons f F ih =>
    intro a b h
    have mo : ∀ {x y : Int}, RchP F x y → RchP (f :: F) x y := fun q => q.mono (fun e he => by simp [he])
    have ed : RchP (f :: F) f.1 f.2 := RchP.edge (by simp)
    simp only [labF] at h
    by_cases c1 : labF F a = labF F f.1
    · rw [if_pos c1] at h
      by_cases c2 : labF F b = labF F f.1
      · exact mo (ih _ _ (c1.trans c2.symm))
      · rw [if_neg c2] at h
        exact (mo (ih _ _ c1)).trans (ed.trans (mo (ih _ _ h)))
    · rw [if_neg c1] at h
      by_cases c2 : labF F b = labF F f.1
      · rw [if_pos c2] at h
        exact (mo (ih _ _ h)).trans (ed.symm.trans (mo (ih _ _ c2.symm)))
      · rw [if_neg c2] at h
        exact mo (ih _ _ h)
theorem labF_iff (F : List (Int × Int)) (a b : Int) : labF F a = labF F b ↔ RchP F a b := by
  refine ⟨labF_rch F a b, fun h => ?_⟩
  have := h (fun x => decide (labF F a = labF F x)) (by simp) (fun e he => by rw [labF_edge F e he])
  simpa using this

/-- Each edge makes of two labels one at the most. -/
theorem labF_many (F : List (Int × Int)) (V : List Int) (nd : V.Nodup) : ∃ L : List Int, L.Nodup ∧ (∀ l, l ∈ L → ∃ x, x ∈ V ∧ labF F x = l) ∧ V.length ≤ L.length + F.length := by
  induction F with
  | nil => exact ⟨V, nd, fun l hl => ⟨l, hl, rfl⟩, by simp⟩
  | cons e F ih =>
    obtain ⟨L, h1, h2, h3⟩ := ih
    refine ⟨L.erase (labF F e.1), h1.erase _, fun l hl => ?_, ?_⟩
    · obtain ⟨q1, q2⟩ := (h1.mem_erase_iff).1 hl
      obtain ⟨x, hx, hl⟩ := h2 l q2
      refine ⟨x, hx, ?_⟩
      simp only [labF]
      rw [if_neg (by rw [hl]; exact q1), hl]
    · rw [List.length_cons]
      by_cases c : labF F e.1 ∈ L
      · rw [List.length_erase_of_mem c]; omega
      · rw [List.erase_of_not_mem c]; omega

/-- Of so few edges no more are connected. -/
theorem conn_len {F : List (Int × Int)} {V : List Int} (nd : V.Nodup) {v : Int} (h : ∀ x, x ∈ V → RchP F v x) : V.length ≤ F.length + 1 := by
  obtain ⟨L, h1, h2, h3⟩ := labF_many F V nd
  have : L.length ≤ 1 := by
    match L, h1, h2 with
    | [], _, _ => simp
    | [_], _, _ => simp
    | a :: b :: l, h1, h2 =>
      exfalso
      obtain ⟨x, hx, ex⟩ := h2 a (by simp)
      obtain ⟨y, hy, ey⟩ := h2 b (by simp)
      have e1 := (labF_iff F v x).2 (h x hx)
      have e2 := (labF_iff F v y).2 (h y hy)
      have : a = b := by rw [← ex, ← ey, ← e1, ← e2]
      rw [List.nodup_cons] at h1
      exact h1.1 (by rw [this]; simp)
  omega

/-- In a tree every edge is a bridge. -/
theorem bridge {F : List (Int × Int)} {V : List Int} (nd : V.Nodup) {v : Int} (h : ∀ x, x ∈ V → RchP F v x) (len : V.length = F.length + 1) {e : Int × Int} (he : e ∈ F) :
    ∃ S : Int → Bool, (∀ f, f ∈ F → f ≠ e → S f.1 = S f.2) ∧ S e.1 ≠ S e.2 := by
  refine Classical.byContradiction fun hc => ?_
  have cl : ∀ S : Int → Bool, (∀ f, f ∈ F.erase e → S f.1 = S f.2) → ∀ f, f ∈ F → S f.1 = S f.2 := by
    intro S hS f hf
    have big : ∀ f, f ∈ F → f ≠ e → S f.1 = S f.2 := fun f hf hne => hS f ((List.mem_erase_of_ne hne).2 hf)
    by_cases c : f = e
    · rw [c]
      by_cases d : S e.1 = S e.2
      · exact d
      · exact absurd ⟨S, big, d⟩ hc
    · exact big f hf c
  have := conn_len (F := F.erase e) nd (v := v) (fun x hx S h1 h2 => h x hx S h1 (cl S h2))
  rw [List.length_erase_of_mem he] at this
  have := List.length_pos_of_mem he
  omega

/-- What is handed on along a chain. -/
theorem chn_keep {S : Int → Bool} {k : Bool} : ∀ (l : List Itm) (x : Itm), Chn (x :: l) → S (en x) = k → (∀ y, y ∈ l → S (en y) = S (st y)) → ∀ y, y ∈ l → S (st y) = k := by
  intro l
  induction l with
  | nil => intro x _ _ _ y hy; simp at hy
  | cons z l ih =>
    intro x hc hx hl y hy
    have hz : S (st z) = k := by rw [← hc.1]; exact hx
    rcases List.mem_cons.1 hy with rfl | q
    · exact hz
    · exact ih z hc.2 (by rw [hl z (by simp)]; exact hz) (fun y hy => hl y (by simp [hy])) y q

/-- ROUNDS OF ALL EDGES OF A TREE, EACH WAY ONCE, ARE TOURS. -/
theorem tour_of {t : List Itm} {F : List (Int × Int)} {V : List Int} (nd : t.Nodup) (rnd : Rnd t) (hv : ∀ x : Int, (x, -1) ∈ t ↔ x ∈ V) (hw : ∀ a b : Int, b ≠ -1 → ((a, b) ∈ t ↔ (a, b) ∈ F ∨ (b, a) ∈ F))
    (hF : ∀ e, e ∈ F → e.1 ∈ V ∧ e.2 ∈ V ∧ e.1 ≠ -1 ∧ e.2 ≠ -1 ∧ e.1 ≠ e.2) (vnd : V.Nodup) (len : V.length = F.length + 1) {v : Int} (conn : ∀ x, x ∈ V → RchP F v x) : Tour t := by
  have wayF : ∀ a b : Int, b ≠ -1 → (a, b) ∈ t → (b, a) ∈ t ∧ a ≠ -1 ∧ a ≠ b ∧ a ∈ V ∧ b ∈ V := by
    intro a b hb h
    rcases (hw a b hb).1 h with q | q
    · have := hF _ q
      exact ⟨(hw b a this.2.2.1).2 (Or.inr q), this.2.2.1, this.2.2.2.2, this.1, this.2.1⟩
    · have := hF _ q
      exact ⟨(hw b a this.2.2.2.1).2 (Or.inl q), this.2.2.2.1, fun e => this.2.2.2.2 e.symm, this.2.1, this.1⟩
  refine ⟨nd, rnd, fun x hx h2 => ⟨(wayF x.1 x.2 h2 hx).1, (wayF x.1 x.2 h2 hx).2.1⟩, fun x hx => ?_, fun x hx h2 => ?_⟩
  · by_cases c : x.2 = -1
    · rw [← c]; exact hx
    · exact (hv _).2 (wayF x.1 x.2 c hx).2.2.2.1
  · obtain ⟨a, b⟩ := x
    simp only at h2 ⊢
    obtain ⟨back, ha, hab, _, _⟩ := wayF a b h2 hx
    obtain ⟨r, rot⟩ := Rot.first hx
    have nd' := rot.nodup nd
    have mem : ∀ y, y ∈ (a, b) :: r → y ∈ t := fun y hy => (rot.mem y).2 hy
    have hb : (b, a) ∈ r := by
      rcases List.mem_cons.1 ((rot.mem _).1 back) with q | q
      · exact absurd (congrArg Prod.fst q).symm hab
      · exact q
    obtain ⟨A, B, rfl⟩ := List.append_of_mem hb
    obtain ⟨e, he, hee⟩ : ∃ e, e ∈ F ∧ (e = (a, b) ∨ e = (b, a)) := by
      rcases (hw a b h2).1 hx with q | q
      · exact ⟨_, q, Or.inl rfl⟩
      · exact ⟨_, q, Or.inr rfl⟩
    obtain ⟨S, s1, s2⟩ := bridge vnd conn len he
    have sab : S a ≠ S b := by
      rcases hee with rfl | rfl
      · exact s2
      · exact fun q => s2 q.symm
    have ndc := List.nodup_cons.1 nd'
    have nda := List.nodup_append.1 ndc.2
    have ndb := List.nodup_cons.1 nda.2.1
    -- every other item of the round stays on its side
    have stay : ∀ y, y ∈ t → y ≠ (a, b) → y ≠ (b, a) → S (en y) = S (st y) := by
      intro y hy n1 n2
      obtain ⟨c, d⟩ := y
      by_cases q : d = -1
      · simp [en, st, q]
      · have e1 : en (c, d) = d := by simp only [en]; rw [if_neg q]
        rw [e1]
        show S d = S c
        rcases (hw c d q).1 hy with k | k
        · refine (s1 _ k (fun z => ?_)).symm
          rcases hee with w | w
          · exact n1 (by rw [z, w])
          · exact n2 (by rw [z, w])
        · refine s1 _ k (fun z => ?_)
          rcases hee with w | w
          · rw [w] at z
            injection z with z1 z2
            exact n2 (by rw [z1, z2])
          · rw [w] at z
            injection z with z1 z2
            exact n1 (by rw [z1, z2])
    have ch := (rnd.rot rot).1
    have chA : Chn ((a, b) :: A) := by
      have : (a, b) :: (A ++ (b, a) :: B) = ((a, b) :: A) ++ (b, a) :: B := by simp
      rw [this] at ch; exact ch.left
    have chB : Chn ((b, a) :: B) := by
      have : (a, b) :: (A ++ (b, a) :: B) = ((a, b) :: A) ++ (b, a) :: B := by simp
      rw [this] at ch; exact ch.right
    have eA : en (a, b) = b := by simp only [en]; rw [if_neg h2]
    have eB : en (b, a) = a := by simp only [en]; rw [if_neg ha]
    have inA := chn_keep (S := S) (k := S b) A (a, b) chA (by rw [eA]) (fun y hy => stay y (mem y (by simp [hy])) (fun q => ndc.1 (by rw [← q]; simp [hy])) (fun q => nda.2.2 y hy (b, a) (by simp) q))
    have inB := chn_keep (S := S) (k := S a) B (b, a) chB (by rw [eB]) (fun y hy => stay y (mem y (by simp [hy])) (fun q => ndc.1 (by rw [← q]; simp [hy])) (fun q => ndb.1 (by rw [← q]; exact hy)))
    refine ⟨A, B, rot, fun x hx y hy q => ?_⟩
    have h1 : S x.1 = S b := by
      rcases List.mem_append.1 hx with k | k
      · exact inA x k
      · simp at k; rw [k]
    have h3 : S y.1 = S a := by
      rcases List.mem_append.1 hy with k | k
      · exact inB y k
      · simp at k; rw [k]
    exact sab (by rw [← h3, ← h1, q])

end Go.Proofs.YtckallochdegiaaGreat
namespace Go.Proofs.YtckallochdegiaaGreat
set_option linter.unusedVariables false
set_option linter.unusedSimpArgs false

/-- The forest's edges of a level and above. -/
def actP (es : List Edg) (i : Nat) : List (Int × Int) := (es.filter (act true i)).map key
theorem act_iff {i : Nat} {e : Edg} : act true i e = true ↔ e.tree = true ∧ (i : Int) ≤ e.lev := by simp [act]
theorem actP_mem {es : List Edg} {i : Nat} {p : Int × Int} : p ∈ actP es i ↔ ∃ e, e ∈ es ∧ e.tree = true ∧ (i : Int) ≤ e.lev ∧ key e = p := by
  simp only [actP, List.mem_map, List.mem_filter, act_iff]
  exact ⟨fun ⟨e, ⟨h1, h2, h3⟩, h4⟩ => ⟨e, h1, h2, h3, h4⟩, fun ⟨e, h1, h2, h3, h4⟩ => ⟨e, ⟨h1, h2, h3⟩, h4⟩⟩
theorem rch_iff {es : List Edg} {i : Nat} {v x : Int} : Rch es true i v x ↔ RchP (actP es i) v x := by
  constructor
  · intro h S h1 h2
    exact h S h1 (fun e he ha => h2 (key e) (actP_mem.2 ⟨e, he, (act_iff.1 ha).1, (act_iff.1 ha).2, rfl⟩))
  · intro h S h1 h2
    refine h S h1 (fun p hp => ?_)
    obtain ⟨e, he, h3, h4, rfl⟩ := actP_mem.1 hp
    exact h2 e he (act_iff.2 ⟨h3, h4⟩)

/-- Is x in v's tree of F(i)? -/
def inI (es : List Edg) (i : Nat) (v x : Int) : Bool := labF (actP es i) v == labF (actP es i) x
theorem inI_iff {es : List Edg} {i : Nat} {v x : Int} : inI es i v x = true ↔ Rch es true i v x := by
  rw [rch_iff, ← labF_iff, inI, beq_iff_eq]
theorem inI_self (es : List Edg) (i : Nat) (v : Int) : inI es i v v = true := by simp [inI]
theorem inI_comm (es : List Edg) (i : Nat) (v x : Int) : inI es i v x = inI es i x v := by rw [inI, inI, Bool.beq_comm]
theorem inI_eq {es : List Edg} {i : Nat} {v x : Int} (h : inI es i v x = true) (y : Int) : inI es i v y = inI es i x y := by
  rw [inI, beq_iff_eq] at h
  rw [inI, inI, h]
theorem inI_edge {es : List Edg} {i : Nat} {e : Edg} (he : e ∈ es) (ht : e.tree = true) (hl : (i : Int) ≤ e.lev) : inI es i e.u e.v = true := by
  rw [inI, beq_iff_eq]
  exact labF_edge _ _ (actP_mem.2 ⟨e, he, ht, hl, rfl⟩)

/-- v's tree in F(i): its vertices; is v the least; its edges; what must be met in its tour. -/
def compV (N : Nat) (es : List Edg) (i v : Nat) : List Nat := (List.range N).filter fun u => inI es i v u
def isLst (N : Nat) (es : List Edg) (i v : Nat) : Bool := (List.range N).all fun u => !inI es i v u || decide (v ≤ u)
def edgesV (es : List Edg) (i v : Nat) : List Edg := es.filter fun e => e.tree && decide ((i : Int) ≤ e.lev) && inI es i v e.u
def waysE (l : List Edg) : List Itm := l.flatMap fun e => [(e.u, e.v), (e.v, e.u)]
def wantF (N : Nat) (es : List Edg) (i v : Nat) : List Itm := (compV N es i v).map (fun u : Nat => ((u : Int), (-1 : Int))) ++ waysE (edgesV es i v)

/-- The items that numbers tell, from the vertex a on; where they end. -/
def wlk : Int → List Nat → List Itm
  | _, [] => []
  | a, d :: ds => (a, (d : Int) - 1) :: wlk (if 0 < d then (d : Int) - 1 else a) ds
def wend : Int → List Nat → Int
  | a, [] => a
  | a, d :: ds => wend (if 0 < d then (d : Int) - 1 else a) ds

def walkOut (v : Nat) (n : Nat) (t : List Nat) : List Itm := ((v : Int), (-1 : Int)) :: wlk v ((t.drop 2).take n)
/-- The tour of the tree of v; what is behind it. -/
def walkF (N : Nat) (es : List Edg) (i v : Nat) (t : List Nat) : Option (List Itm × List Nat) :=
  if 3 * (compV N es i v).length - 3 + 2 ≤ t.length ∧ t[0]?.getD 0 = v ∧ t[1]?.getD 0 = (compV N es i v).length ∧ (wantF N es i v).length = 3 * (compV N es i v).length - 3 + 1 ∧
      (∀ x, x ∈ wantF N es i v → (walkOut v (3 * (compV N es i v).length - 3) t).count x = 1) ∧ wend v ((t.drop 2).take (3 * (compV N es i v).length - 3)) = v then
    some (walkOut v (3 * (compV N es i v).length - 3) t, t.drop (3 * (compV N es i v).length - 3 + 2)) else none

/-- Edges as they may be. -/
structure EdOK (N : Nat) (es : List Edg) : Prop where
  ed : ∀ e, e ∈ es → 0 ≤ e.u ∧ e.u < e.v ∧ e.v < N ∧ 0 ≤ e.lev
  nd : (es.map key).Nodup

theorem wlk_length (ds : List Nat) : ∀ a, (wlk a ds).length = ds.length := by
  induction ds with
  | nil => intro a; rfl
  | cons d ds ih => intro a; simp [wlk, ih]
theorem wlk_itN (ds : List Nat) : ∀ a, (wlk a ds).map itN = ds := by
  induction ds with
  | nil => intro a; rfl
  | cons d ds ih => intro a; rw [wlk, List.map_cons, ih, itN]; simp
theorem en_wlk (a : Int) (d : Nat) : en (a, (d : Int) - 1) = if 0 < d then (d : Int) - 1 else a := by
  simp only [en]
  by_cases c : 0 < d
  · rw [if_neg (by omega), if_pos c]
  · rw [if_pos (by omega), if_neg c]
theorem wlk_chn (ds : List Nat) : ∀ x : Itm, Chn (x :: wlk (en x) ds) ∧ ∀ y, (x :: wlk (en x) ds).getLast? = some y → en y = wend (en x) ds := by
  induction ds with
  | nil => intro x; refine ⟨trivial, fun y hy => ?_⟩; simp [wlk] at hy; rw [hy]; rfl
  | cons d ds ih =>
    intro x
    have := ih (en x, (d : Int) - 1)
    rw [en_wlk] at this
    refine ⟨⟨rfl, this.1⟩, fun y hy => ?_⟩
    rw [wend]
    exact this.2 y (by rw [wlk, List.getLast?_cons_cons] at hy; exact hy)
/-- A chain is told by its items' numbers. -/
theorem chn_wlk : ∀ (l : List Itm) (x : Itm), Chn (x :: l) → (∀ y, y ∈ l → -1 ≤ y.2) → wlk (en x) (l.map itN) = l := by
  intro l
  induction l with
  | nil => intro x _ _; rfl
  | cons y l ih =>
    intro x hc hy
    have y2 := hy y (by simp)
    obtain ⟨a, b⟩ := y
    simp only at y2
    have ea : en x = a := hc.1
    have eb : (((b + 1).toNat : Nat) : Int) - 1 = b := by omega
    rw [List.map_cons, wlk, itN]
    simp only
    have en2 : (if 0 < (b + 1).toNat then (((b + 1).toNat : Nat) : Int) - 1 else en x) = en (a, b) := by
      rw [eb, ea]
      simp only [en]
      by_cases c : b = -1
      · rw [if_pos c, if_neg (by omega)]
      · rw [if_neg c, if_pos (by omega)]
    rw [en2, ih (a, b) hc.2 (fun z hz => hy z (by simp [hz])), eb, ea]

/-- A list that is as long as one without repeats and has all of it has nothing else. -/
theorem sub_full : ∀ (w l : List Itm), w.Nodup → (∀ x, x ∈ w → x ∈ l) → l.length ≤ w.length → l.Nodup ∧ (∀ x, x ∈ l → x ∈ w) := by
  intro w
  induction w with
  | nil => intro l _ _ h; have : l = [] := List.eq_nil_of_length_eq_zero (by simpa using h); subst this; simp
  | cons a w ih =>
    intro l nd hs hl
    obtain ⟨n1, n2⟩ := List.nodup_cons.1 nd
    have ha : a ∈ l := hs a (by simp)
    have hlen := List.length_erase_of_mem ha
    have hp := List.length_pos_of_mem ha
    rw [List.length_cons] at hl
    obtain ⟨i1, i2⟩ := ih (l.erase a) n2 (fun x hx => (List.mem_erase_of_ne (fun q : x = a => n1 (q ▸ hx))).2 (hs x (by simp [hx]))) (by omega)
    have pm := List.perm_cons_erase ha
    refine ⟨pm.nodup_iff.2 (List.nodup_cons.2 ⟨fun q => n1 (i2 a q), i1⟩), fun x hx => ?_⟩
    rcases List.mem_cons.1 (pm.mem_iff.1 hx) with q | q
    · simp [q]
    · simp [i2 x q]

section
variable {N : Nat} {es : List Edg} {i v : Nat}

theorem compV_mem {u : Nat} : u ∈ compV N es i v ↔ u < N ∧ inI es i v u = true := by simp [compV]
theorem compV_nodup : (compV N es i v).Nodup := List.Nodup.sublist List.filter_sublist List.nodup_range
theorem compV_self (h : v < N) : v ∈ compV N es i v := compV_mem.2 ⟨h, inI_self _ _ _⟩
theorem compV_pos (h : v < N) : 1 ≤ (compV N es i v).length := List.length_pos_of_mem (compV_self h)
theorem edgesV_mem {e : Edg} : e ∈ edgesV es i v ↔ e ∈ es ∧ e.tree = true ∧ (i : Int) ≤ e.lev ∧ inI es i v e.u = true := by
  simp only [edgesV, List.mem_filter, Bool.and_eq_true, decide_eq_true_eq, and_assoc]
theorem waysE_mem {l : List Edg} {x : Itm} : x ∈ waysE l ↔ ∃ e, e ∈ l ∧ (x = (e.u, e.v) ∨ x = (e.v, e.u)) := by simp [waysE]
theorem waysE_length (l : List Edg) : (waysE l).length = 2 * l.length := by
  induction l with
  | nil => rfl
  | cons e l ih =>
    have : waysE (e :: l) = (e.u, e.v) :: (e.v, e.u) :: waysE l := by simp [waysE]
    rw [this]; simp [ih]; omega
theorem wantF_vtx (h : EdOK N es) {x : Int} : (x, -1) ∈ wantF N es i v ↔ ∃ u : Nat, x = u ∧ u ∈ compV N es i v := by
  rw [wantF, List.mem_append, List.mem_map, waysE_mem]
  constructor
  · rintro (⟨u, h1, h2⟩ | ⟨e, h1, h2⟩)
    · injection h2 with h2 _
      exact ⟨u, h2.symm, h1⟩
    · exfalso
      have := h.ed e (edgesV_mem.1 h1).1
      rcases h2 with q | q <;> (injection q with _ q; omega)
  · rintro ⟨u, h1, h2⟩
    exact Or.inl ⟨u, h2, by rw [h1]⟩
theorem wantF_way {a b : Int} (hb : b ≠ -1) : (a, b) ∈ wantF N es i v ↔ ∃ e, e ∈ edgesV es i v ∧ ((a, b) = (e.u, e.v) ∨ (a, b) = (e.v, e.u)) := by
  rw [wantF, List.mem_append, List.mem_map, waysE_mem]
  constructor
  · rintro (⟨u, _, h2⟩ | h)
    · injection h2 with _ h2
      exact absurd h2.symm hb
    · exact h
  · exact fun h => Or.inr h
theorem waysE_nodup (h : EdOK N es) {l : List Edg} (hl : l.Sublist es) : (waysE l).Nodup := by
  induction l with
  | nil => simp [waysE]
  | cons e l ih =>
    have e1 : waysE (e :: l) = (e.u, e.v) :: (e.v, e.u) :: waysE l := by simp [waysE]
    have hsub : ∀ x, x ∈ e :: l → x ∈ es := fun x hx => hl.subset hx
    have nd : ((e :: l).map key).Nodup := List.Nodup.sublist (hl.map key) h.nd
    rw [List.map_cons, List.nodup_cons] at nd
    have be := h.ed e (hsub e (by simp))
    have no : ∀ f, f ∈ l → ¬ (f.u = e.u ∧ f.v = e.v) := fun f hf q => nd.1 (List.mem_map.2 ⟨f, hf, by rw [key, key, q.1, q.2]⟩)
    rw [e1, List.nodup_cons, List.nodup_cons]
    refine ⟨fun q => ?_, fun q => ?_, ih (List.Sublist.trans (List.sublist_cons_self e l) hl)⟩
    · rcases List.mem_cons.1 q with q | q
      · injection q with q _; omega
      · obtain ⟨f, hf, q⟩ := waysE_mem.1 q
        have bf := h.ed f (hsub f (by simp [hf]))
        rcases q with q | q <;> injection q with q1 q2
        · exact no f hf ⟨q1.symm, q2.symm⟩
        · omega
    · obtain ⟨f, hf, q⟩ := waysE_mem.1 q
      have bf := h.ed f (hsub f (by simp [hf]))
      rcases q with q | q <;> injection q with q1 q2
      · omega
      · exact no f hf ⟨q2.symm, q1.symm⟩
theorem wantF_nodup (h : EdOK N es) : (wantF N es i v).Nodup := by
  rw [wantF, List.nodup_append]
  refine ⟨?_, waysE_nodup h List.filter_sublist, fun x hx y hy q => ?_⟩
  · rw [List.Nodup, List.pairwise_map]
    exact List.Pairwise.imp (fun hab q => hab (by injection q with q _; omega)) (compV_nodup (N := N) (es := es) (i := i) (v := v))
  · obtain ⟨u, _, rfl⟩ := List.mem_map.1 hx
    obtain ⟨e, he, k⟩ := waysE_mem.1 hy
    have := h.ed e (edgesV_mem.1 he).1
    rw [← q] at k
    rcases k with k | k <;> (injection k with _ k; omega)
theorem wantF_length : (wantF N es i v).length = (compV N es i v).length + 2 * (edgesV es i v).length := by
  rw [wantF, List.length_append, List.length_map, waysE_length]

/-- A tour of v's tree, from v on. -/
structure WalkOK (N : Nat) (es : List Edg) (i v : Nat) (l : List Itm) : Prop where
  tr : Tour l
  hd : ∃ r, l = ((v : Int), (-1 : Int)) :: r
  mem : ∀ x, x ∈ l ↔ x ∈ wantF N es i v

theorem edgesV_ends (h : EdOK N es) {e : Edg} (he : e ∈ edgesV es i v) : e.u.toNat ∈ compV N es i v ∧ e.v.toNat ∈ compV N es i v := by
  obtain ⟨h1, h2, h3, h4⟩ := edgesV_mem.1 he
  have b := h.ed e h1
  have hu : ((e.u.toNat : Nat) : Int) = e.u := by omega
  have hv : ((e.v.toNat : Nat) : Int) = e.v := by omega
  refine ⟨compV_mem.2 ⟨by omega, by rw [hu]; exact h4⟩, compV_mem.2 ⟨by omega, ?_⟩⟩
  rw [hv, inI_eq h4]
  exact inI_edge h1 h2 h3

theorem WalkOK.size {l : List Itm} (h : EdOK N es) (k : WalkOK N es i v l) : sizeV l = (compV N es i v).length := by
  have pm : l.Perm (wantF N es i v) := (List.perm_ext_iff_of_nodup k.tr.nd (wantF_nodup h)).2 k.mem
  have := (pm.filter (fun x => decide (x.2 < 0))).length_eq
  rw [sizeV, this, wantF, List.filter_append, List.length_append]
  have e1 : ((compV N es i v).map (fun u : Nat => ((u : Int), (-1 : Int)))).filter (fun x => decide (x.2 < 0)) = (compV N es i v).map (fun u : Nat => ((u : Int), (-1 : Int))) := by
    rw [List.filter_eq_self]
    intro x hx
    obtain ⟨u, _, rfl⟩ := List.mem_map.1 hx
    simp
  have e2 : (waysE (edgesV es i v)).filter (fun x => decide (x.2 < 0)) = [] := by
    rw [List.filter_eq_nil_iff]
    intro x hx
    obtain ⟨e, he, q⟩ := waysE_mem.1 hx
    have b := h.ed e (edgesV_mem.1 he).1
    rcases q with rfl | rfl <;> simp <;> omega
  rw [e1, e2]; simp

/-- What walkF takes is a tour. -/
theorem walkF_ok (h : EdOK N es) (hv : v < N) {t r : List Nat} {l : List Itm} (k : walkF N es i v t = some (l, r)) : WalkOK N es i v l ∧ t = v :: sizeV l :: ((l.drop 1).map itN ++ r) := by
  rw [walkF] at k
  split at k
  · rename_i q
    obtain ⟨q1, q2, q3, q4, q5, q6⟩ := q
    injection k with k
    injection k with k1 k2
    obtain ⟨sz, hsz⟩ : ∃ sz, sz = (compV N es i v).length := ⟨_, rfl⟩
    have sz1 : 1 ≤ sz := by rw [hsz]; exact compV_pos hv
    rw [← hsz] at q1 q3 q4 q5 q6 k1 k2
    have dl : ((t.drop 2).take (3 * sz - 3)).length = 3 * sz - 3 := by rw [List.length_take, List.length_drop]; omega
    have ll : l.length = 3 * sz - 3 + 1 := by rw [← k1, walkOut, List.length_cons, wlk_length, dl]
    rw [k1] at q5
    have sub : ∀ x, x ∈ wantF N es i v → x ∈ l := fun x hx => List.count_pos_iff.1 (by rw [q5 x hx]; omega)
    obtain ⟨nd, m2⟩ := sub_full _ l (wantF_nodup h) sub (by rw [ll, q4]; exact Nat.le_refl _)
    have mem : ∀ x, x ∈ l ↔ x ∈ wantF N es i v := fun x => ⟨m2 x, sub x⟩
    have ev : en ((v : Int), (-1 : Int)) = v := by simp [en]
    have ch := wlk_chn ((t.drop 2).take (3 * sz - 3)) ((v : Int), (-1 : Int))
    rw [ev] at ch
    have hl : l = ((v : Int), (-1 : Int)) :: wlk v ((t.drop 2).take (3 * sz - 3)) := k1.symm
    have rnd : Rnd l := by
      rw [hl]
      refine ⟨ch.1, fun x y hx hy => ?_⟩
      rw [ch.2 x hx, q6]
      simp at hy; rw [← hy]; rfl
    have el : (edgesV es i v).length + 1 = sz := by
      rw [wantF_length, ← hsz] at q4; omega
    have T : Tour l := by
      refine tour_of (F := (edgesV es i v).map key) (V := (compV N es i v).map fun u : Nat => (u : Int)) (v := (v : Int)) nd rnd (fun x => ?_) (fun a b hb => ?_) (fun e he => ?_) ?_ ?_ (fun x hx => ?_)
      · rw [mem, wantF_vtx h, List.mem_map]
        exact ⟨fun ⟨u, h1, h2⟩ => ⟨u, h2, h1.symm⟩, fun ⟨u, h1, h2⟩ => ⟨u, h2.symm, h1⟩⟩
      · rw [mem, wantF_way hb, List.mem_map, List.mem_map]
        constructor
        · rintro ⟨e, he, q | q⟩
          · exact Or.inl ⟨e, he, q.symm⟩
          · refine Or.inr ⟨e, he, ?_⟩
            injection q with q1 q2
            rw [key, q1, q2]
        · rintro (⟨e, he, q⟩ | ⟨e, he, q⟩)
          · exact ⟨e, he, Or.inl q.symm⟩
          · refine ⟨e, he, Or.inr ?_⟩
            rw [key] at q
            injection q with q1 q2
            rw [q1, q2]
      · obtain ⟨f, hf, rfl⟩ := List.mem_map.1 he
        replace he := hf
        have b := h.ed f (edgesV_mem.1 he).1
        have c := edgesV_ends h he
        simp only [key]
        exact ⟨List.mem_map.2 ⟨_, c.1, by omega⟩, List.mem_map.2 ⟨_, c.2, by omega⟩, by omega, by omega, by omega⟩
      · rw [List.Nodup, List.pairwise_map]
        exact List.Pairwise.imp (fun hab q => hab (by omega)) (compV_nodup (N := N) (es := es) (i := i) (v := v))
      · rw [List.length_map, List.length_map, ← hsz]; omega
      · obtain ⟨u, hu, rfl⟩ := List.mem_map.1 hx
        have r := inI_iff.1 (compV_mem.1 hu).2
        intro S h1 h2
        have := r (fun y => S y && inI es i v y) (by simp [h1, inI_self]) (fun e he ha => by
          obtain ⟨t1, t2⟩ := act_iff.1 ha
          have ee := inI_edge he t1 t2
          cases c : inI es i v e.u
          · have : inI es i v e.v = false := by rw [inI_comm, inI_eq (by rw [inI_comm]; exact ee), inI_comm]; exact c
            simp [this, c]
          · have : inI es i v e.v = true := by rw [inI_eq c]; exact ee
            have := h2 (key e) (List.mem_map.2 ⟨e, edgesV_mem.2 ⟨he, t1, t2, c⟩, rfl⟩)
            simp only [key] at this
            simp [this, *])
        simp at this
        exact this.1
    have W : WalkOK N es i v l := ⟨T, ⟨_, hl⟩, mem⟩
    refine ⟨W, ?_⟩
    rw [W.size h, ← hsz, ← k2]
    conv => rhs; rw [hl]
    rw [List.drop_succ_cons, List.drop_zero, wlk_itN]
    match t, q1, q2, q3 with
    | [], q1, _, _ => simp at q1
    | [_], q1, _, _ => simp at q1
    | a :: b :: t', _, q2, q3 =>
      simp at q2 q3
      rw [q2, q3]
      simp
  · simp at k

/-- A tour is taken. -/
theorem walkF_of (h : EdOK N es) (hN : N ≤ 48) (hv : v < N) {l : List Itm} (W : WalkOK N es i v l) (r : List Nat) : walkF N es i v (v :: sizeV l :: ((l.drop 1).map itN ++ r)) = some (l, r) := by
  have hz := W.size h
  have pm : l.Perm (wantF N es i v) := (List.perm_ext_iff_of_nodup W.tr.nd (wantF_nodup h)).2 W.mem
  have ok : ∀ x, x ∈ l → OkI x := by
    intro x hx
    obtain ⟨a, b⟩ := x
    have m := (W.mem _).1 hx
    by_cases c : b = -1
    · subst c
      obtain ⟨u, h1, h2⟩ := (wantF_vtx h).1 m
      have := (compV_mem.1 h2).1
      exact ⟨by show 0 ≤ a; omega, by show a < 48; omega, Or.inl rfl⟩
    · obtain ⟨e, he, q⟩ := (wantF_way c).1 m
      have be := h.ed e (edgesV_mem.1 he).1
      rcases q with q | q <;> (injection q with q1 q2; exact ⟨by show 0 ≤ a; omega, by show a < 48; omega, Or.inr ⟨by show 0 ≤ b; omega, by show b < 48; omega, by show a ≠ b; omega⟩⟩)
  obtain ⟨r0, hl⟩ := W.hd
  have l3 := Tour.len3 l.length (Nat.le_refl _) W.tr (by rw [hl]; simp) (fun x hx hn => (ok x hx).neg.1 hn) (fun x hx => (ok x hx).1)
  have c1 : 1 ≤ (compV N es i v).length := compV_pos hv
  obtain ⟨sz, hsz⟩ : ∃ sz, sz = (compV N es i v).length := ⟨_, rfl⟩
  rw [← hsz] at hz c1
  have d1 : (l.drop 1).length = 3 * sz - 3 := by rw [List.length_drop]; omega
  have wl : (wantF N es i v).length = 3 * sz - 3 + 1 := by rw [← pm.length_eq]; omega
  have d2 : ((v :: sizeV l :: ((l.drop 1).map itN ++ r)).drop 2).take (3 * sz - 3) = (l.drop 1).map itN := by
    show ((l.drop 1).map itN ++ r).take (3 * sz - 3) = _
    have : ((l.drop 1).map itN).length = 3 * sz - 3 := by rw [List.length_map, d1]
    rw [← this, List.take_left]
  have d3 : (v :: sizeV l :: ((l.drop 1).map itN ++ r)).drop (3 * sz - 3 + 2) = r := by
    show ((l.drop 1).map itN ++ r).drop (3 * sz - 3) = r
    have : ((l.drop 1).map itN).length = 3 * sz - 3 := by rw [List.length_map, d1]
    rw [← this, List.drop_left]
  have ev : en ((v : Int), (-1 : Int)) = v := by simp [en]
  have dr : l.drop 1 = r0 := by rw [hl]; rfl
  have ch : Chn (((v : Int), (-1 : Int)) :: r0) := by rw [← hl]; exact W.tr.rnd.1
  have wk : wlk v ((l.drop 1).map itN) = r0 := by
    have := chn_wlk r0 ((v : Int), (-1 : Int)) ch (fun y hy => by
      have := ok y (by rw [hl]; simp [hy])
      rcases this.2.2 with q | q
      · omega
      · omega)
    rw [ev] at this
    rw [dr]; exact this
  have wo : walkOut v (3 * sz - 3) (v :: sizeV l :: ((l.drop 1).map itN ++ r)) = l := by rw [walkOut, d2, wk, ← hl]
  have we : wend v ((l.drop 1).map itN) = v := by
    have := (wlk_chn ((l.drop 1).map itN) ((v : Int), (-1 : Int))).2
    rw [ev, wk, ← hl] at this
    obtain ⟨y, hy⟩ : ∃ y, l.getLast? = some y := by rw [hl]; exact ⟨_, List.getLast?_cons⟩
    have c := W.tr.rnd.2 y ((v : Int), (-1 : Int)) hy (by rw [hl]; rfl)
    rw [← this y hy, c]; rfl
  rw [walkF, ← hsz, d3, wo, d2]
  have hlen : 3 * sz - 3 + 2 ≤ (v :: sizeV l :: ((l.drop 1).map itN ++ r)).length := by
    rw [List.length_cons, List.length_cons, List.length_append, List.length_map, d1]; omega
  rw [if_pos ⟨hlen, rfl, by simp [hz], wl, fun x hx => by have q1 := List.nodup_iff_count.1 W.tr.nd x; have q2 := List.count_pos_iff.2 ((W.mem x).2 hx); omega, we⟩]
end

end Go.Proofs.YtckallochdegiaaGreat
namespace Go.Proofs.YtckallochdegiaaGreat
set_option linter.unusedVariables false
set_option linter.unusedSimpArgs false

/-- The least vertices of the trees of two or more; of the others. -/
def wantsF (N : Nat) (es : List Edg) (i : Nat) : List Nat := (List.range N).filter fun v => isLst N es i v && decide (1 < (compV N es i v).length)
def onesV (N : Nat) (es : List Edg) (i : Nat) : List Nat := (List.range N).filter fun v => isLst N es i v && !decide (1 < (compV N es i v).length)
def oneT (v : Nat) : List Itm := [((v : Int), (-1 : Int))]
/-- What numbers tell a tour. -/
def numL (l : List Itm) : List Nat := (l[0]?.getD (0, 0)).1.toNat :: sizeV l :: (l.drop 1).map itN
def walksF (N : Nat) (es : List Edg) (i : Nat) : List Nat → List Nat → Option (List (List Itm) × List Nat)
  | [], t => some ([], t)
  | v :: vs, t => match walkF N es i v t with
    | none => none
    | some x => match walksF N es i vs x.2 with
      | none => none
      | some y => some (x.1 :: y.1, y.2)
/-- One level's tours; what is behind them. -/
def lvlF (N : Nat) (es : List Edg) (i : Nat) : List Nat → Option (List (List Itm) × List Nat)
  | [] => none
  | x :: t => if x = (wantsF N es i).length then (match walksF N es i (wantsF N es i) t with
    | none => none
    | some y => some ((onesV N es i).map oneT ++ y.1, y.2)) else none
/-- c levels' tours, from level i on. -/
def toursG (N : Nat) (es : List Edg) : Nat → Nat → List Nat → Option (List (List (List Itm)) × List Nat)
  | 0, _, t => some ([], t)
  | c + 1, i, t => match lvlF N es i t with
    | none => none
    | some x => match toursG N es c (i + 1) x.2 with
      | none => none
      | some y => some (x.1 :: y.1, y.2)
/-- The tours that numbers are. -/
def toursF (N : Nat) (es : List Edg) (t : List Nat) : Option (List (List (List Itm))) := match toursG N es (Nat.log2 N + 1) 0 t with
  | none => none
  | some x => if x.2 = [] then some x.1 else none
/-- Is no tree too great; are the ends of what is beside the forest in one tree? -/
def levelF (N : Nat) (es : List Edg) : Bool := ((List.range (Nat.log2 N + 1)).all fun i => (List.range N).all fun v => decide ((compV N es i v).length * 2 ^ i ≤ N)) && es.all fun e => e.tree || inI es e.lev.toNat e.u e.v

section
variable {N : Nat} {es : List Edg} {i v : Nat}

theorem isLst_iff : isLst N es i v = true ↔ ∀ u, u < N → inI es i v u = true → v ≤ u := by
  simp only [isLst, List.all_eq_true, List.mem_range, Bool.or_eq_true, Bool.not_eq_true', decide_eq_true_eq]
  constructor
  · intro h u hu hi
    rcases h u hu with q | q
    · rw [hi] at q; simp at q
    · exact q
  · intro h u hu
    cases c : inI es i v u
    · exact Or.inl rfl
    · exact Or.inr (h u hu c)
theorem lst_ex : ∀ u, u < N → ∃ v, v < N ∧ isLst N es i v = true ∧ inI es i v u = true := by
  intro u
  induction u using Nat.strongRecOn with
  | ind u ih =>
    intro hu
    by_cases c : isLst N es i u = true
    · exact ⟨u, hu, c, inI_self _ _ _⟩
    · have : ¬ ∀ x, x < N → inI es i u x = true → u ≤ x := fun q => c (isLst_iff.2 q)
      have : ∃ x, x < N ∧ inI es i u x = true ∧ x < u := Classical.byContradiction fun q => this fun x h1 h2 => by
        by_cases d : u ≤ x
        · exact d
        · exact absurd ⟨x, h1, h2, by omega⟩ q
      obtain ⟨x, h1, h2, h3⟩ := this
      obtain ⟨v, g1, g2, g3⟩ := ih x h3 h1
      exact ⟨v, g1, g2, by rw [inI_eq g3, inI_comm]; exact h2⟩
theorem lst_uniq {a b : Nat} (ha : a < N) (hb : b < N) (h1 : isLst N es i a = true) (h2 : isLst N es i b = true) (h : inI es i a b = true) : a = b := by
  have q1 := isLst_iff.1 h1 b hb h
  have q2 := isLst_iff.1 h2 a ha (by rw [inI_comm]; exact h)
  omega
theorem wantsF_mem : v ∈ wantsF N es i ↔ v < N ∧ isLst N es i v = true ∧ 1 < (compV N es i v).length := by simp [wantsF]
theorem onesV_mem : v ∈ onesV N es i ↔ v < N ∧ isLst N es i v = true ∧ ¬ 1 < (compV N es i v).length := by simp [onesV]

/-- The lists are tours of the trees of the vertices. -/
def Wks (N : Nat) (es : List Edg) (i : Nat) : List Nat → List (List Itm) → Prop
  | [], [] => True
  | v :: vs, l :: ls => WalkOK N es i v l ∧ Wks N es i vs ls
  | _, _ => False
theorem Wks.app : ∀ {a b : List Nat} {la lb : List (List Itm)}, Wks N es i a la → Wks N es i b lb → Wks N es i (a ++ b) (la ++ lb) := by
  intro a
  induction a with
  | nil => intro b la lb h k; cases la with | nil => exact k | cons x la => exact absurd h (by simp [Wks])
  | cons v a ih => intro b la lb h k; cases la with | nil => exact absurd h (by simp [Wks]) | cons x la => exact ⟨h.1, ih h.2 k⟩
theorem Wks.map (f : Nat → List Itm) : ∀ {a : List Nat}, (∀ v, v ∈ a → WalkOK N es i v (f v)) → Wks N es i a (a.map f) := by
  intro a
  induction a with
  | nil => intro _; trivial
  | cons v a ih => intro h; exact ⟨h v (by simp), ih fun u hu => h u (by simp [hu])⟩
theorem Wks.len : ∀ {a : List Nat} {la : List (List Itm)}, Wks N es i a la → la.length = a.length := by
  intro a
  induction a with
  | nil => intro la h; cases la with | nil => rfl | cons x la => exact absurd h (by simp [Wks])
  | cons v a ih => intro la h; cases la with | nil => exact absurd h (by simp [Wks]) | cons x la => simp [ih h.2]
theorem Wks.of : ∀ {a : List Nat} {la : List (List Itm)}, Wks N es i a la → ∀ t, t ∈ la → ∃ v, v ∈ a ∧ WalkOK N es i v t := by
  intro a
  induction a with
  | nil => intro la h t ht; cases la with | nil => simp at ht | cons x la => exact absurd h (by simp [Wks])
  | cons v a ih =>
    intro la h t ht
    cases la with
    | nil => simp at ht
    | cons x la =>
      rcases List.mem_cons.1 ht with rfl | q
      · exact ⟨v, by simp, h.1⟩
      · obtain ⟨u, h1, h2⟩ := ih h.2 t q
        exact ⟨u, by simp [h1], h2⟩
theorem Wks.to : ∀ {a : List Nat} {la : List (List Itm)}, Wks N es i a la → ∀ v, v ∈ a → ∃ t, t ∈ la ∧ WalkOK N es i v t := by
  intro a
  induction a with
  | nil => intro la _ v hv; simp at hv
  | cons u a ih =>
    intro la h v hv
    cases la with
    | nil => exact absurd h (by simp [Wks])
    | cons x la =>
      rcases List.mem_cons.1 hv with rfl | q
      · exact ⟨x, by simp, h.1⟩
      · obtain ⟨t, h1, h2⟩ := ih h.2 v q
        exact ⟨t, by simp [h1], h2⟩
theorem Wks.eq_map (f : Nat → List Itm) : ∀ {a : List Nat} {la : List (List Itm)}, Wks N es i a la → (∀ v t, v ∈ a → t ∈ la → WalkOK N es i v t → f v = t) → la = a.map f := by
  intro a
  induction a with
  | nil => intro la h _; cases la with | nil => rfl | cons x la => exact absurd h (by simp [Wks])
  | cons u a ih =>
    intro la h k
    cases la with
    | nil => exact absurd h (by simp [Wks])
    | cons x la =>
      rw [List.map_cons, k u x (by simp) (by simp) h.1, ih h.2 fun v t hv ht => k v t (by simp [hv]) (by simp [ht])]

theorem WalkOK.head {l : List Itm} (W : WalkOK N es i v l) : l[0]?.getD (0, 0) = ((v : Int), (-1 : Int)) := by
  obtain ⟨r, hr⟩ := W.hd
  rw [hr]; rfl
theorem WalkOK.num {l : List Itm} (W : WalkOK N es i v l) : numL l = v :: sizeV l :: (l.drop 1).map itN := by
  rw [numL, W.head]; simp

theorem walksF_ok (h : EdOK N es) : ∀ (vs : List Nat), (∀ v, v ∈ vs → v < N) → ∀ {t r : List Nat} {ls : List (List Itm)}, walksF N es i vs t = some (ls, r) → Wks N es i vs ls ∧ t = ls.flatMap numL ++ r := by
  intro vs
  induction vs with
  | nil =>
    intro _ t r ls k
    rw [walksF] at k
    injection k with k
    injection k with k1 k2
    rw [← k1, k2]; exact ⟨trivial, rfl⟩
  | cons v vs ih =>
    intro hv t r ls k
    rw [walksF] at k
    cases c : walkF N es i v t with
    | none => rw [c] at k; simp at k
    | some x =>
      rw [c] at k
      simp only at k
      cases d : walksF N es i vs x.2 with
      | none => rw [d] at k; simp at k
      | some y =>
        rw [d] at k
        simp only at k
        injection k with k
        injection k with k1 k2
        obtain ⟨a1, a2⟩ := walkF_ok h (hv v (by simp)) (l := x.1) (r := x.2) c
        obtain ⟨b1, b2⟩ := ih (fun u hu => hv u (by simp [hu])) (ls := y.1) (r := y.2) d
        rw [← k1]
        refine ⟨⟨a1, b1⟩, ?_⟩
        rw [a2, b2, List.flatMap_cons, a1.num, k2]
        simp
theorem walksF_of (h : EdOK N es) (hN : N ≤ 48) : ∀ (vs : List Nat), (∀ v, v ∈ vs → v < N) → ∀ (r : List Nat) {ls : List (List Itm)}, Wks N es i vs ls → walksF N es i vs (ls.flatMap numL ++ r) = some (ls, r) := by
  intro vs
  induction vs with
  | nil => intro _ r ls k; cases ls with | nil => rfl | cons x la => exact absurd k (by simp [Wks])
  | cons v vs ih =>
    intro hv r ls k
    cases ls with
    | nil => exact absurd k (by simp [Wks])
    | cons l ls =>
      have e : (l :: ls).flatMap numL ++ r = v :: sizeV l :: ((l.drop 1).map itN ++ (ls.flatMap numL ++ r)) := by
        rw [List.flatMap_cons, k.1.num]; simp
      rw [e, walksF, walkF_of h hN (hv v (by simp)) k.1]
      simp only
      rw [ih (fun u hu => hv u (by simp [hu])) r k.2]

/-- A tree of one vertex. -/
theorem one_ok (h : EdOK N es) (hv : v < N) (h1 : ¬ 1 < (compV N es i v).length) : WalkOK N es i v (oneT v) := by
  have p := compV_pos (N := N) (es := es) (i := i) hv
  have all : ∀ u, u ∈ compV N es i v → u = v := by
    intro u hu
    match hc : compV N es i v with
    | [] => rw [hc] at hu; simp at hu
    | [x] =>
      have := compV_self (N := N) (es := es) (i := i) hv
      rw [hc] at hu this
      simp at hu this
      omega
    | x :: y :: l => rw [hc] at h1; simp at h1
  refine ⟨tour_one _ (by omega), ⟨[], rfl⟩, fun x => ?_⟩
  obtain ⟨a, b⟩ := x
  by_cases c : b = -1
  · subst c
    rw [wantF_vtx h]
    constructor
    · intro q
      simp [oneT] at q
      exact ⟨v, q, compV_self hv⟩
    · rintro ⟨u, q1, q2⟩
      rw [q1, all u q2]; simp [oneT]
  · rw [wantF_way c]
    constructor
    · intro q; simp [oneT] at q; exact absurd q.2 c
    · rintro ⟨e, he, _⟩
      have q := edgesV_ends h he
      have b := h.ed e (edgesV_mem.1 he).1
      have := all _ q.1
      have := all _ q.2
      omega

/-- One level's tours, their sizes left out. -/
structure LT (N : Nat) (es : List Edg) (i : Nat) (ts : List (List Itm)) : Prop where
  tr : ∀ t, t ∈ ts → Tour t
  ne : ∀ t, t ∈ ts → t ≠ []
  dj : ts.Pairwise Dj
  all : ∀ v : Int, 0 ≤ v → v < N → ∃ t, t ∈ ts ∧ (v, -1) ∈ t
  rng : ∀ t, t ∈ ts → ∀ x, x ∈ t → (0 ≤ x.1 ∧ x.1 < N) ∧ (x.2 = -1 ∨ TreeE es i x.1 x.2)
theorem LI.lt {ts : List (List Itm)} (h : LI N es i ts) : LT N es i ts := ⟨h.tr, h.ne, h.dj, h.all, h.rng⟩

theorem WalkOK.fst (h : EdOK N es) {l : List Itm} (W : WalkOK N es i v l) {x : Itm} (hx : x ∈ l) : 0 ≤ x.1 ∧ x.1 < N ∧ inI es i v x.1 = true ∧ (x.2 = -1 ∨ TreeE es i x.1 x.2) := by
  obtain ⟨a, b⟩ := x
  have m := (W.mem _).1 hx
  by_cases c : b = -1
  · subst c
    obtain ⟨u, h1, h2⟩ := (wantF_vtx h).1 m
    obtain ⟨g1, g2⟩ := compV_mem.1 h2
    subst h1
    exact ⟨by show (0 : Int) ≤ u; omega, by show (u : Int) < N; omega, g2, Or.inl rfl⟩
  · obtain ⟨e, he, q⟩ := (wantF_way c).1 m
    have be := h.ed e (edgesV_mem.1 he).1
    obtain ⟨e1, e2⟩ := edgesV_ends h he
    obtain ⟨g1, g2, g3, g4⟩ := edgesV_mem.1 he
    have c2 := (compV_mem.1 e2).2
    rw [show ((e.v.toNat : Nat) : Int) = e.v from by omega] at c2
    rcases q with q | q <;> injection q with q1 q2
    · subst q1 q2
      exact ⟨by show 0 ≤ e.u; omega, by show e.u < N; omega, g4, Or.inr ⟨e, g1, g2, g3, Or.inl ⟨rfl, rfl⟩⟩⟩
    · subst q1 q2
      exact ⟨by show 0 ≤ e.v; omega, by show e.v < N; omega, c2, Or.inr ⟨e, g1, g2, g3, Or.inr ⟨rfl, rfl⟩⟩⟩

theorem wks_lt (h : EdOK N es) {vs : List Nat} {ts : List (List Itm)} (nd : vs.Nodup) (hv : ∀ v, v ∈ vs → v < N ∧ isLst N es i v = true) (ha : ∀ v, v < N → isLst N es i v = true → v ∈ vs) (W : Wks N es i vs ts) :
    LT N es i ts ∧ Cov es i ts := by
  refine ⟨⟨fun t ht => ?_, fun t ht => ?_, ?_, fun v h0 h1 => ?_, fun t ht x hx => ?_⟩, fun e he ht hl => ?_⟩
  · obtain ⟨v, _, w⟩ := W.of t ht; exact w.tr
  · obtain ⟨v, _, w⟩ := W.of t ht
    obtain ⟨r, hr⟩ := w.hd
    rw [hr]; simp
  · clear ha
    induction vs generalizing ts with
    | nil => cases ts with | nil => simp | cons x la => exact absurd W (by simp [Wks])
    | cons v vs ih =>
      cases ts with
      | nil => exact absurd W (by simp [Wks])
      | cons t ts =>
        obtain ⟨n1, n2⟩ := List.nodup_cons.1 nd
        rw [List.pairwise_cons]
        refine ⟨fun s hs x hx y hy q => ?_, ih n2 (fun u hu => hv u (by simp [hu])) W.2⟩
        obtain ⟨u, hu, w⟩ := Wks.of W.2 s hs
        have f1 := (W.1.fst h hx).2.2.1
        have f2 := (w.fst h hy).2.2.1
        have : v = u := lst_uniq (hv v (by simp)).1 (hv u (by simp [hu])).1 (hv v (by simp)).2 (hv u (by simp [hu])).2 (by rw [inI_eq f1, q, inI_comm]; exact f2)
        exact n1 (this ▸ hu)
  · obtain ⟨u, hu⟩ : ∃ u : Nat, v = u := ⟨v.toNat, by omega⟩
    subst hu
    obtain ⟨z, z1, z2, z3⟩ := lst_ex (N := N) (es := es) (i := i) u (by omega)
    obtain ⟨t, ht, w⟩ := W.to z (ha z z1 z2)
    exact ⟨t, ht, (w.mem _).2 ((wantF_vtx h).2 ⟨u, rfl, compV_mem.2 ⟨by omega, z3⟩⟩)⟩
  · obtain ⟨v, _, w⟩ := W.of t ht
    have := w.fst h hx
    exact ⟨⟨this.1, this.2.1⟩, this.2.2.2⟩
  · have be := h.ed e he
    obtain ⟨z, z1, z2, z3⟩ := lst_ex (N := N) (es := es) (i := i) e.u.toNat (by omega)
    rw [show ((e.u.toNat : Nat) : Int) = e.u from by omega] at z3
    obtain ⟨t, htt, w⟩ := W.to z (ha z z1 z2)
    exact ⟨t, htt, (w.mem _).2 ((wantF_way (by omega)).2 ⟨e, edgesV_mem.2 ⟨he, ht, hl, z3⟩, Or.inl rfl⟩)⟩

theorem LT.snd (h : EdOK N es) {ts : List (List Itm)} (L : LT N es i ts) {t : List Itm} (ht : t ∈ ts) {x : Itm} (hx : x ∈ t) (hn : x.2 < 0) : x.2 = -1 := by
  rcases (L.rng t ht x hx).2 with q | ⟨e, he, _, _, q⟩
  · exact q
  · have := h.ed e he; omega
theorem LT.li0 (h : EdOK N es) {ts : List (List Itm)} (L : LT N es i ts) : LI N es 0 ts := by
  refine ⟨L.tr, L.ne, L.dj, L.all, fun t ht x hx => ?_, fun t ht => ?_⟩
  · obtain ⟨h1, h2⟩ := L.rng t ht x hx
    refine ⟨h1, ?_⟩
    rcases h2 with q | ⟨e, e1, e2, e3, e4⟩
    · exact Or.inl q
    · exact Or.inr ⟨e, e1, e2, by have := h.ed e e1; omega, e4⟩
  · rw [Nat.pow_zero, Nat.mul_one, ← verts_length]
    refine nodup_bound (verts t) N ?_ (fun y hy => ?_)
    · rw [verts, List.Nodup, List.pairwise_map, List.pairwise_filter]
      refine List.Pairwise.imp_of_mem ?_ (L.tr t ht).nd
      intro a b ha hb hab qa qb q
      simp only [decide_eq_true_eq] at qa qb
      have r1 := (L.rng t ht a ha).1
      have r2 := (L.rng t ht b hb).1
      exact hab (Prod.ext (by omega) (by rw [L.snd h ht ha qa, L.snd h ht hb qb]))
    · simp only [verts, List.mem_map, List.mem_filter] at hy
      obtain ⟨x, ⟨hx, _⟩, rfl⟩ := hy
      have := (L.rng t ht x hx).1
      omega
/-- One tree is: reached by the edges of the forest. -/
theorem LT.conn (h : EdOK N es) {ts : List (List Itm)} (L : LT N es i ts) (C : Cov es i ts) {a b : Int} (ha0 : 0 ≤ a) (ha1 : a < N) (hb0 : 0 ≤ b) (hb1 : b < N) : inI es i a b = true ↔ Same ts a b := by
  have L0 := L.li0 h
  rw [inI_iff]
  constructor
  · intro k
    have := k (fun y => decide (tourIx ts y = tourIx ts a)) (by simp) (fun e he ha => ?_)
    · have e1 : tourIx ts b = tourIx ts a := by simpa using this
      exact (L0.same_iff ha0 ha1 hb0 hb1).2 e1.symm
    · have be := h.ed e he
      obtain ⟨q1, q2⟩ := act_iff.1 ha
      obtain ⟨t, g1, g2⟩ := C e he q1 q2
      have T := L.tr t g1
      have w := (T.way _ g2 (by show e.v ≠ -1; omega)).1
      have := (L0.same_iff (by omega) (by omega) (by omega) (by omega)).1 ⟨t, g1, T.vtx _ g2, T.vtx _ w⟩
      simp [this]
  · rintro ⟨t, ht, pa, pb⟩ S hS hc
    have T := L.tr t ht
    refine T.reach pa (fun x => S x = true) hS (fun x hx hw k => ?_) _ pb
    rcases (L.rng t ht x hx).2 with c | ⟨e, he, e1, e2, e3⟩
    · exact absurd c hw
    · have := hc e he (by simp [act, e1, e2])
      rcases e3 with ⟨a1, a2⟩ | ⟨a1, a2⟩
      · rw [← a2, ← this, a1]; exact k
      · rw [← a1, this, a2]; exact k
/-- A level's tour, from its least vertex on, is one that is taken. -/
theorem LT.walk (h : EdOK N es) {ts : List (List Itm)} (L : LT N es i ts) (C : Cov es i ts) {t : List Itm} (ht : t ∈ ts) (hv : v < N) (hm : ((v : Int), (-1 : Int)) ∈ t) : WalkOK N es i v (fromX t (v, -1)) := by
  have T := L.tr t ht
  have L0 := L.li0 h
  obtain ⟨r, e1, rot⟩ := fromX_head hm
  have same : ∀ u : Int, 0 ≤ u → u < N → (inI es i v u = true ↔ (u, -1) ∈ t) := by
    intro u h0 h1
    rw [L.conn h C (by omega) (by omega) h0 h1]
    constructor
    · rintro ⟨s, s1, s2, s3⟩
      rw [L0.uniq ht s1 hm s2 rfl]; exact s3
    · intro q; exact ⟨t, ht, hm, q⟩
  refine ⟨T.rot (fromX_rot' _ _), ⟨r, e1⟩, fun x => ?_⟩
  rw [fromX_mem]
  obtain ⟨a, b⟩ := x
  by_cases c : b = -1
  · subst c
    rw [wantF_vtx h]
    constructor
    · intro q
      have rg := (L.rng t ht _ q).1
      simp only at rg
      exact ⟨a.toNat, by omega, compV_mem.2 ⟨by omega, by rw [show ((a.toNat : Nat) : Int) = a from by omega]; exact (same a rg.1 rg.2).2 q⟩⟩
    · rintro ⟨u, q1, q2⟩
      obtain ⟨g1, g2⟩ := compV_mem.1 q2
      subst q1
      exact (same u (by omega) (by omega)).1 g2
  · rw [wantF_way c]
    constructor
    · intro q
      rcases (L.rng t ht _ q).2 with k | ⟨e, g1, g2, g3, g4⟩
      · exact absurd k c
      · simp only at g4
        have be := h.ed e g1
        have w := T.vtx _ (T.way _ q c).1
        have w0 := T.vtx _ q
        simp only at w w0
        rcases g4 with ⟨q1, q2⟩ | ⟨q1, q2⟩
        · refine ⟨e, edgesV_mem.2 ⟨g1, g2, g3, (same e.u (by omega) (by omega)).2 (by rw [q1]; exact w0)⟩, Or.inl (by rw [q1, q2])⟩
        · refine ⟨e, edgesV_mem.2 ⟨g1, g2, g3, (same e.u (by omega) (by omega)).2 (by rw [q1]; exact w)⟩, Or.inr (by rw [q1, q2])⟩
    · rintro ⟨e, he, q⟩
      obtain ⟨g1, g2, g3, g4⟩ := edgesV_mem.1 he
      have be := h.ed e g1
      obtain ⟨s, s1, s2⟩ := C e g1 g2 g3
      have S := L.tr s s1
      have hs : s = t := L0.uniq s1 ht s2 ((same e.u (by omega) (by omega)).1 g4) rfl
      subst hs
      rcases q with q | q
      · rw [q]; exact s2
      · rw [q]; exact (S.way _ s2 (by show e.v ≠ -1; omega)).1
theorem LT.least (h : EdOK N es) {ts : List (List Itm)} (L : LT N es i ts) (C : Cov es i ts) {t : List Itm} (ht : t ∈ ts) (hv : v < N) (hm : ((v : Int), (-1 : Int)) ∈ t) : isLst N es i v = true ↔ LeastAt t v := by
  have L0 := L.li0 h
  rw [isLst_iff]
  constructor
  · intro q
    refine ⟨hm, fun x hx => ?_⟩
    have rg := (L.rng t ht x hx).1
    have := q x.1.toNat (by omega) (by rw [show ((x.1.toNat : Nat) : Int) = x.1 from by omega, L.conn h C (by omega) (by omega) rg.1 rg.2]; exact ⟨t, ht, hm, (L.tr t ht).vtx x hx⟩)
    omega
  · intro q u hu hi
    rw [L.conn h C (by omega) (by omega) (by omega) (by omega)] at hi
    obtain ⟨s, s1, s2, s3⟩ := hi
    have := q.2 ((u : Int), (-1 : Int)) (by rw [L0.uniq ht s1 hm s2 rfl]; exact s3)
    simp only at this
    omega
end

end Go.Proofs.YtckallochdegiaaGreat
namespace Go.Proofs.YtckallochdegiaaGreat
set_option linter.unusedVariables false
set_option linter.unusedSimpArgs false

/-- The edges that numbers tell, rising; last is the place of the one ahead. -/
def recF (n : Nat) : Int → List Nat → Option (List Edg)
  | _, [] => some []
  | last, a :: b :: c :: r => if b ≤ a ∨ n ≤ b ∨ ((a * n + b : Nat) : Int) ≤ last ∨ Nat.log2 n < c / 2 then none else (match recF n ((a * n + b : Nat) : Int) r with
    | none => none
    | some es => some (⟨(a : Nat), (b : Nat), ((c / 2 : Nat) : Int), c % 2 == 1⟩ :: es))
  | _, _ => none

/-- The state that a text is; or what is wrong. -/
def readF (s : ByteArray) : Nat × Option Gr :=
  if 32768 < s.size then (5, none) else
  if ¬ (4 ≤ s.size ∧ s.extract 0 4 = ⟨#[72, 68, 84, 49]⟩) then (6, none) else
  match partsF (s.extract 4 s.size) with
  | none => (7, none)
  | some l => match numbersF (l[0]?.getD ⟨#[]⟩), numbersF (l[1]?.getD ⟨#[]⟩) with
    | some ns, some ms => if ns.length = 1 ∧ 1 ≤ ns[0]?.getD 0 ∧ ns[0]?.getD 0 ≤ 48 ∧ 0 < ms.length ∧ ms.length = 1 + 3 * ms[0]?.getD 0 then
        (match recF (ns[0]?.getD 0) (-1) (ms.drop 1) with
        | none => (8, none)
        | some es => match numbersF (l[2]?.getD ⟨#[]⟩) with
          | none => (9, none)
          | some t => match toursF (ns[0]?.getD 0) es t with
            | none => (9, none)
            | some T => if levelF (ns[0]?.getD 0) es = true then (0, some ⟨ns[0]?.getD 0, es, T⟩) else (10, none))
      else (8, none)
    | _, _ => (8, none)

section
variable {N : Nat} {es : List Edg} {i v : Nat}

/-- The numbers of a level's tours. -/
def lvN (ts : List (List Itm)) : List Nat := (ts.filter fun l => decide (1 < l.length)).length :: (ts.filter fun l => decide (1 < l.length)).flatMap numL
/-- A level's tours as they are read. -/
def LvOK (N : Nat) (es : List Edg) (i : Nat) (ts : List (List Itm)) : Prop := ∃ ls, Wks N es i (wantsF N es i) ls ∧ ts = (onesV N es i).map oneT ++ ls

theorem lv_filter (h : EdOK N es) {ls : List (List Itm)} (W : Wks N es i (wantsF N es i) ls) : ((onesV N es i).map oneT ++ ls).filter (fun l => decide (1 < l.length)) = ls := by
  rw [List.filter_append]
  have e1 : ((onesV N es i).map oneT).filter (fun l => decide (1 < l.length)) = [] := by
    rw [List.filter_eq_nil_iff]
    intro l hl
    obtain ⟨u, _, rfl⟩ := List.mem_map.1 hl
    simp [oneT]
  have e2 : ls.filter (fun l => decide (1 < l.length)) = ls := by
    rw [List.filter_eq_self]
    intro l hl
    obtain ⟨v, hv, w⟩ := W.of l hl
    have := (wantsF_mem.1 hv).2.2
    rw [← w.size h] at this
    have := sizeV_le l
    simp; omega
  rw [e1, e2]; rfl
theorem LvOK.lvN (h : EdOK N es) {ls : List (List Itm)} (W : Wks N es i (wantsF N es i) ls) : lvN ((onesV N es i).map oneT ++ ls) = (wantsF N es i).length :: ls.flatMap numL := by
  rw [Go.Proofs.YtckallochdegiaaGreat.lvN, lv_filter h W, W.len]
theorem LvOK.lt (h : EdOK N es) {ts : List (List Itm)} (k : LvOK N es i ts) : LT N es i ts ∧ Cov es i ts ∧ ∀ t, t ∈ ts → ∃ v, v < N ∧ isLst N es i v = true ∧ WalkOK N es i v t := by
  obtain ⟨ls, W, rfl⟩ := k
  have W1 : Wks N es i (onesV N es i) ((onesV N es i).map oneT) := Wks.map oneT fun v hv => one_ok h (onesV_mem.1 hv).1 (onesV_mem.1 hv).2.2
  have WA := W1.app W
  have hv : ∀ v, v ∈ onesV N es i ++ wantsF N es i → v < N ∧ isLst N es i v = true := by
    intro v hv
    rcases List.mem_append.1 hv with q | q
    · exact ⟨(onesV_mem.1 q).1, (onesV_mem.1 q).2.1⟩
    · exact ⟨(wantsF_mem.1 q).1, (wantsF_mem.1 q).2.1⟩
  have nd : (onesV N es i ++ wantsF N es i).Nodup := by
    rw [List.nodup_append]
    refine ⟨List.Nodup.sublist List.filter_sublist List.nodup_range, List.Nodup.sublist List.filter_sublist List.nodup_range, fun a ha b hb q => ?_⟩
    subst q
    exact (onesV_mem.1 ha).2.2 (wantsF_mem.1 hb).2.2
  have := wks_lt h nd hv (fun v h1 h2 => by
    by_cases c : 1 < (compV N es i v).length
    · exact List.mem_append_right _ (wantsF_mem.2 ⟨h1, h2, c⟩)
    · exact List.mem_append_left _ (onesV_mem.2 ⟨h1, h2, c⟩)) WA
  refine ⟨this.1, this.2, fun t ht => ?_⟩
  obtain ⟨v, h1, h2⟩ := WA.of t ht
  exact ⟨v, (hv v h1).1, (hv v h1).2, h2⟩

theorem lvlF_ok (h : EdOK N es) {t r : List Nat} {ts : List (List Itm)} (k : lvlF N es i t = some (ts, r)) : LvOK N es i ts ∧ t = lvN ts ++ r := by
  cases t with
  | nil => rw [lvlF] at k; simp at k
  | cons x t =>
    rw [lvlF] at k
    split at k
    · rename_i c
      cases d : walksF N es i (wantsF N es i) t with
      | none => rw [d] at k; simp at k
      | some y =>
        rw [d] at k
        simp only at k
        injection k with k
        injection k with k1 k2
        obtain ⟨W, e⟩ := walksF_ok h _ (fun v hv => (wantsF_mem.1 hv).1) (ls := y.1) (r := y.2) d
        rw [← k1, LvOK.lvN h W, ← c, e, k2]
        exact ⟨⟨y.1, W, rfl⟩, by simp⟩
    · simp at k
/-- Levels' tours as they are read, from level i on. -/
def Trs (N : Nat) (es : List Edg) : Nat → List (List (List Itm)) → Prop
  | _, [] => True
  | i, ts :: T => LvOK N es i ts ∧ Trs N es (i + 1) T
theorem Trs.at_ : ∀ {T : List (List (List Itm))} {i : Nat}, Trs N es i T → ∀ j, j < T.length → LvOK N es (i + j) (T[j]?.getD []) := by
  intro T
  induction T with
  | nil => intro i _ j hj; simp at hj
  | cons ts T ih =>
    intro i k j hj
    cases j with
    | zero => exact k.1
    | succ j =>
      have := ih k.2 j (by simpa using hj)
      rw [show i + 1 + j = i + (j + 1) from by omega] at this
      exact this
theorem Trs.map (f : Nat → List (List Itm)) : ∀ (c i : Nat), (∀ j, i ≤ j → j < i + c → LvOK N es j (f j)) → Trs N es i ((List.range' i c).map f) := by
  intro c
  induction c with
  | zero => intro i _; trivial
  | succ c ih =>
    intro i h
    rw [List.range'_succ, List.map_cons]
    exact ⟨h i (Nat.le_refl _) (by omega), ih (i + 1) fun j h1 h2 => h j (by omega) (by omega)⟩
theorem toursG_ok (h : EdOK N es) : ∀ (c i : Nat) {t r : List Nat} {T : List (List (List Itm))}, toursG N es c i t = some (T, r) → T.length = c ∧ Trs N es i T ∧ t = T.flatMap lvN ++ r := by
  intro c
  induction c with
  | zero =>
    intro i t r T k
    rw [toursG] at k
    injection k with k
    injection k with k1 k2
    rw [← k1, k2]; exact ⟨rfl, trivial, rfl⟩
  | succ c ih =>
    intro i t r T k
    rw [toursG] at k
    cases d : lvlF N es i t with
    | none => rw [d] at k; simp at k
    | some x =>
      rw [d] at k
      simp only at k
      cases f : toursG N es c (i + 1) x.2 with
      | none => rw [f] at k; simp at k
      | some y =>
        rw [f] at k
        simp only at k
        injection k with k
        injection k with k1 k2
        obtain ⟨a1, a2⟩ := lvlF_ok h (ts := x.1) (r := x.2) d
        obtain ⟨b1, b2, b3⟩ := ih (i + 1) (T := y.1) (r := y.2) f
        rw [← k1, ← k2]
        refine ⟨by simp [b1], ⟨a1, b2⟩, ?_⟩
        rw [a2, b3, List.flatMap_cons]; simp
theorem toursF_ok (h : EdOK N es) {t : List Nat} {T : List (List (List Itm))} (k : toursF N es t = some T) : T.length = Nat.log2 N + 1 ∧ Trs N es 0 T ∧ t = T.flatMap lvN := by
  rw [toursF] at k
  cases d : toursG N es (Nat.log2 N + 1) 0 t with
  | none => rw [d] at k; simp at k
  | some x =>
    rw [d] at k
    simp only at k
    split at k
    · rename_i c
      injection k with k
      obtain ⟨a1, a2, a3⟩ := toursG_ok h _ _ (T := x.1) (r := x.2) d
      rw [c, List.append_nil] at a3
      rw [← k]; exact ⟨a1, a2, a3⟩
    · simp at k
theorem lt_place {n : Nat} {a b c d : Int} (hb0 : 0 ≤ b) (hb : b < n) (hd0 : 0 ≤ d) (hd : d < n) : a * n + b < c * n + d ↔ a < c ∨ (a = c ∧ b < d) := by
  constructor
  · intro h
    by_cases q : a < c
    · exact Or.inl q
    · by_cases p : a = c
      · subst p; exact Or.inr ⟨rfl, by omega⟩
      · exfalso
        have : (c + 1) * (n : Int) ≤ a * n := Int.mul_le_mul_of_nonneg_right (by omega) (by omega)
        rw [Int.add_mul] at this
        omega
  · rintro (h | ⟨rfl, h⟩)
    · have : (a + 1) * (n : Int) ≤ c * n := Int.mul_le_mul_of_nonneg_right (by omega) (by omega)
      rw [Int.add_mul] at this
      omega
    · omega

theorem recF_ok {n : Nat} : ∀ (m : List Nat) (last : Int) (es : List Edg), recF n last m = some es → m = edNs es ∧ (∀ e, e ∈ es → 0 ≤ e.u ∧ e.u < e.v ∧ e.v < n ∧ 0 ≤ e.lev ∧ e.lev ≤ Nat.log2 n) ∧ Ris es ∧ ∀ e, e ∈ es → last < e.u * n + e.v
  | [], last, es, k => by rw [recF] at k; injection k with k; subst k; exact ⟨rfl, by simp, by simp [Ris], by simp⟩
  | [_], last, es, k => by simp [recF] at k
  | [_, _], last, es, k => by simp [recF] at k
  | a :: b :: c :: r, last, es, k => by
    rw [recF] at k
    split at k
    · simp at k
    · rename_i q
      have q1 : a < b := by omega
      have q2 : b < n := by omega
      have q3 : last < ((a * n + b : Nat) : Int) := by omega
      have q4 : c / 2 ≤ Nat.log2 n := by omega
      cases d : recF n ((a * n + b : Nat) : Int) r with
      | none => rw [d] at k; simp at k
      | some es' =>
        rw [d] at k
        simp only at k
        injection k with k
        obtain ⟨h1, h2, h3, h4⟩ := recF_ok r _ es' d
        have pc : ((a * n + b : Nat) : Int) = (a : Int) * n + b := by simp
        rw [← k]
        refine ⟨?_, fun e he => ?_, ?_, fun e he => ?_⟩
        · have : edNs ((⟨(a : Nat), (b : Nat), ((c / 2 : Nat) : Int), c % 2 == 1⟩ : Edg) :: es') = edN ⟨(a : Nat), (b : Nat), ((c / 2 : Nat) : Int), c % 2 == 1⟩ ++ edNs es' := by simp [edNs]
          rw [this, ← h1, edN]
          simp only [Int.toNat_natCast, List.cons_append, List.nil_append]
          congr 3
          by_cases z : c % 2 = 1
          · simp [z]; omega
          · simp [z]; omega
        · rcases List.mem_cons.1 he with rfl | z
          · exact ⟨by show (0 : Int) ≤ a; omega, by show (a : Int) < b; omega, by show (b : Int) < n; omega, by show (0 : Int) ≤ (c / 2 : Nat); omega, by show ((c / 2 : Nat) : Int) ≤ _; omega⟩
          · exact h2 e z
        · rw [Ris, List.pairwise_cons]
          refine ⟨fun e he => ?_, h3⟩
          have z := h4 e he
          have y := h2 e he
          rw [pc, lt_place (by omega) (by omega) (by omega) (by omega)] at z
          rw [ltE_iff]; exact z
        · rcases List.mem_cons.1 he with rfl | z
          · show last < (a : Int) * n + b
            omega
          · have := h4 e z
            omega
theorem ris_nodup {es : List Edg} (h : Ris es) : (es.map key).Nodup := by
  rw [List.Nodup, List.pairwise_map]
  refine List.Pairwise.imp (fun {a b} hab q => ?_) h
  rw [ltE_iff] at hab
  simp only [key, Prod.mk.injEq] at q
  omega
theorem ris_sort {es : List Edg} (h : Ris es) : sortE es = es := sortE_eq (ris_nodup h) h fun _ => Iff.rfl
end

end Go.Proofs.YtckallochdegiaaGreat
namespace Go.Proofs.YtckallochdegiaaGreat
set_option linter.unusedVariables false
set_option linter.unusedSimpArgs false

section
variable {G : Gr} {i v : Nat}

theorem GI.edOK (h : GI G) : EdOK G.N G.edges := ⟨fun e he => by have := h.ed e he; omega, h.nd⟩

/-- v's tour, from its least vertex on. -/
theorem tourAt_of (hI : GI G) (hi : i ≤ Nat.log2 G.N) (hv : v < G.N) : ∃ (t : List Itm) (z : Nat), t ∈ lv G i ∧ ((v : Int), (-1 : Int)) ∈ t ∧ LeastAt t z ∧ z < G.N ∧ tourAt G i v = fromX t (z, -1) := by
  have L := hI.li i hi
  obtain ⟨t, ht, hvt⟩ := L.all (v : Int) (by omega) (by omega)
  have et : lessT G i v = t := LI.lessT_at hI hi ht hvt
  have la := leastV_at (L.tr t ht) (hI.okI hi ht) hvt
  have r := (L.rng t ht _ la.1).1
  simp only at r
  have ez : ((leastV t v).toNat : Int) = leastV t v := by omega
  exact ⟨t, (leastV t v).toNat, ht, hvt, by rw [ez]; exact la, by omega, by rw [tourAt, et, ez]⟩
theorem tourAt_lst (hI : GI G) (hi : i ≤ Nat.log2 G.N) (hv : v < G.N) (h : isLst G.N G.edges i v = true) : ∃ t, t ∈ lv G i ∧ LeastAt t v ∧ tourAt G i v = fromX t (v, -1) ∧ WalkOK G.N G.edges i v (tourAt G i v) := by
  obtain ⟨t, z, ht, hvt, la, hz, e⟩ := tourAt_of hI hi hv
  have L := (hI.li i hi).lt
  have lv' := (L.least hI.edOK (hI.cv i hi) ht hv hvt).1 h
  have : (z : Int) = v := la.uniq lv'
  rw [this] at e
  exact ⟨t, ht, lv', e, by rw [e]; exact L.walk hI.edOK (hI.cv i hi) ht hv hvt⟩
theorem want_iff (hI : GI G) (hi : i ≤ Nat.log2 G.N) (hv : v < G.N) : (isLst G.N G.edges i v && decide (1 < (compV G.N G.edges i v).length)) = true ↔ ((tourAt G i v)[0]?.getD (0, 0)).1 = (v : Int) ∧ 1 < (tourAt G i v).length := by
  obtain ⟨t, z, ht, hvt, la, hz, e⟩ := tourAt_of hI hi hv
  have L := (hI.li i hi).lt
  obtain ⟨r, hr, rot⟩ := fromX_head la.1
  have hh : ((tourAt G i v)[0]?.getD (0, 0)).1 = (z : Int) := by rw [e, hr]; rfl
  have lt := L.least hI.edOK (hI.cv i hi) ht hv hvt
  have W := L.walk hI.edOK (hI.cv i hi) ht hv hvt
  have sz : sizeV t = (compV G.N G.edges i v).length := by rw [← W.size hI.edOK, sizeV_rot (fromX_rot' _ _)]
  have l3 := hI.len3 hi ht
  have ln : (tourAt G i v).length = t.length := by rw [e, fromX_length]
  rw [Bool.and_eq_true, decide_eq_true_eq, hh, ln, lt, ← sz]
  constructor
  · rintro ⟨h1, h2⟩
    exact ⟨la.uniq h1, by omega⟩
  · rintro ⟨h1, h2⟩
    exact ⟨by rw [← h1]; exact la, by omega⟩

theorem lvF_nums (hI : GI G) (hi : i ≤ Nat.log2 G.N) : ∀ m, m ≤ G.N → lvF G i m = (((List.range m).filter fun v => isLst G.N G.edges i v && decide (1 < (compV G.N G.edges i v).length)).length, numsB (((List.range m).filter fun v => isLst G.N G.edges i v && decide (1 < (compV G.N G.edges i v).length)).flatMap fun v => numL (tourAt G i v))) := by
  intro m
  induction m with
  | zero => intro _; rfl
  | succ m ih =>
    intro hm
    have w := want_iff hI hi (v := m) (by omega)
    rw [lvF, ih (by omega), List.range_succ, List.filter_append]
    by_cases c : (isLst G.N G.edges i m && decide (1 < (compV G.N G.edges i m).length)) = true
    · rw [if_pos (w.1 c), List.filter_cons_of_pos (by exact c)]
      obtain ⟨t, _, _, _, W⟩ := tourAt_lst hI hi (v := m) (by omega) (by simp at c; exact c.1)
      rw [List.filter_nil, List.length_append, List.flatMap_append, numsB_append]
      have : [m].flatMap (fun v => numL (tourAt G i v)) = m :: sizeV (tourAt G i m) :: ((tourAt G i m).drop 1).map itN := by
        rw [List.flatMap_cons, W.num]; simp
      rw [this, roundB_nums, ← numsB_cons]
      rfl
    · rw [if_neg (fun q => c (w.2 q)), List.filter_cons_of_neg (by exact c), List.filter_nil, List.append_nil]
/-- The numbers of level i. -/
def lvNG (G : Gr) (i : Nat) : List Nat := (wantsF G.N G.edges i).length :: (wantsF G.N G.edges i).flatMap fun v => numL (tourAt G i v)
theorem toursB_nums (hI : GI G) : ∀ m, m ≤ Nat.log2 G.N + 1 → toursB G m = numsB ((List.range m).flatMap fun i => lvNG G i) := by
  intro m
  induction m with
  | zero => intro _; rfl
  | succ m ih =>
    intro hm
    rw [toursB, ih (by omega), List.range_succ, List.flatMap_append, numsB_append, lvF_nums hI (by omega) G.N (Nat.le_refl _)]
    congr 1
    rw [List.flatMap_cons, List.flatMap_nil, List.append_nil, lvNG, numsB_cons]
    rfl
theorem flat_range {α : Type} (T : List α) (d : α) (f : α → List Nat) : T.flatMap f = (List.range T.length).flatMap fun i => f (T[i]?.getD d) := by
  have : T = (List.range T.length).map fun i => T[i]?.getD d := by
    apply List.ext_getElem (by simp)
    intro k h1 h2
    simp [h1]
  conv => lhs; rw [this]
  rw [List.flatMap_map]
end

section
variable {N : Nat} {es : List Edg} {T : List (List (List Itm))}
/-- What is read is a state. -/
theorem read_GI (h1 : 1 ≤ N) (h48 : N ≤ 48) (he : ∀ e, e ∈ es → 0 ≤ e.u ∧ e.u < e.v ∧ e.v < N ∧ 0 ≤ e.lev ∧ e.lev ≤ Nat.log2 N) (hr : Ris es) (hl : T.length = Nat.log2 N + 1) (hT : Trs N es 0 T) (hL : levelF N es = true) : GI ⟨N, es, T⟩ ∧ NS ⟨N, es, T⟩ := by
  have hE : EdOK N es := ⟨fun e h => by have := he e h; omega, ris_nodup hr⟩
  have at_ : ∀ i, i ≤ Nat.log2 N → LvOK N es i (T[i]?.getD []) := fun i hi => by have := hT.at_ i (by omega); rw [Nat.zero_add] at this; exact this
  simp only [levelF, Bool.and_eq_true, List.all_eq_true, List.mem_range, decide_eq_true_eq] at hL
  obtain ⟨L1, L2⟩ := hL
  refine ⟨⟨h1, h48, hl, he, ris_nodup hr, fun i hi => ?_, fun i hi => ((at_ i hi).lt hE).2.1⟩, fun e hm ht => ?_⟩
  · obtain ⟨a, _, c⟩ := (at_ i hi).lt hE
    refine ⟨a.tr, a.ne, a.dj, a.all, a.rng, fun t htt => ?_⟩
    obtain ⟨v, v1, v2, v3⟩ := c t htt
    rw [v3.size hE]
    exact L1 i (Nat.lt_succ_of_le hi) v v1
  · have b := he e hm
    obtain ⟨a, c, _⟩ := (at_ e.lev.toNat (by omega)).lt hE
    have := L2 e hm
    rw [ht, Bool.false_or] at this
    exact (a.conn hE c (by omega) (by omega) (by omega) (by omega)).1 this
/-- The numbers of what is read. -/
theorem read_nums (hI : GI ⟨N, es, T⟩) (hT : Trs N es 0 T) : toursB ⟨N, es, T⟩ T.length = numsB (T.flatMap lvN) := by
  have hl : T.length = Nat.log2 N + 1 := hI.tl
  rw [toursB_nums hI T.length (by show T.length ≤ Nat.log2 N + 1; omega), flat_range T [] lvN]
  congr 1
  have : ∀ i, i ∈ List.range T.length → lvNG ⟨N, es, T⟩ i = lvN (T[i]?.getD []) := by
    intro i hi
    rw [List.mem_range] at hi
    have hi' : i ≤ Nat.log2 N := by omega
    obtain ⟨ls, W, e⟩ := hT.at_ i hi
    rw [Nat.zero_add] at W e
    have hE := hI.edOK
    have : ls = (wantsF N es i).map (tourAt ⟨N, es, T⟩ i) := W.eq_map _ fun v t hv ht w => by
      obtain ⟨h1, h2, _⟩ := wantsF_mem.1 hv
      obtain ⟨s, s1, s2, s3, _⟩ := tourAt_lst hI (i := i) hi' (v := v) h1 h2
      obtain ⟨r, hr⟩ := w.hd
      have tin : t ∈ lv ⟨N, es, T⟩ i := by
        show t ∈ T[i]?.getD []
        rw [e]; exact List.mem_append_right _ ht
      have : s = t := (hI.li i hi').uniq s1 tin s2.1 (by rw [hr]; simp : ((v : Int), (-1 : Int)) ∈ t) rfl
      rw [s3, this, hr, ← List.nil_append (((v : Int), (-1 : Int)) :: r), fromX_at (by simp)]
      simp
    rw [e, LvOK.lvN hE W, lvNG, this, List.flatMap_map]
  rw [List.flatMap_def, List.flatMap_def, List.map_congr_left this]
end

/-- A text that begins so. -/
theorem magic_split {s : ByteArray} (h4 : 4 ≤ s.size) (h : s.extract 0 4 = ⟨#[72, 68, 84, 49]⟩) : s = ⟨#[72, 68, 84, 49]⟩ ++ s.extract 4 s.size := by
  rw [← h]; exact ext_split s 4 h4

/-- WHAT IS ACCEPTED IS A STATE, AND IS SAVED JUST SO. -/
theorem readF_good {s : ByteArray} {n : Nat} {G : Gr} (h : readF s = (n, some G)) : n = 0 ∧ GI G ∧ NS G ∧ bytesB G = s ∧ Ris G.edges := by
  unfold readF at h
  split at h
  · simp at h
  rename_i c0
  split at h
  · simp at h
  rename_i c1
  have c1 := Classical.not_not.1 c1
  split at h
  · simp at h
  rename_i l hp
  split at h
  · rename_i ns ms hn hm
    split at h
    · rename_i c2
      obtain ⟨d1, d2, d3, d4, d5⟩ := c2
      split at h
      · simp at h
      rename_i es hes
      split at h
      · simp at h
      rename_i t ht
      split at h
      · simp at h
      rename_i T hT
      split at h
      · rename_i hL
        injection h with h1 h2
        injection h2 with h2
        obtain ⟨N, hN⟩ : ∃ N, N = ns[0]?.getD 0 := ⟨_, rfl⟩
        rw [← hN] at d2 d3 hes hT hL h2
        obtain ⟨e1, e2, e3, _⟩ := recF_ok _ _ _ hes
        have hE : EdOK N es := ⟨fun e he => by have := e2 e he; omega, ris_nodup e3⟩
        obtain ⟨t1, t2, t3⟩ := toursF_ok hE hT
        obtain ⟨gi, gn⟩ := read_GI d2 d3 e2 e3 t1 t2 hL
        rw [← h2]
        refine ⟨h1.symm, gi, gn, ?_, e3⟩
        obtain ⟨a, b, c, hl, _, _, _, hs⟩ := partsF_inv hp
        subst hl
        simp at hn hm ht
        have fa := (numbersF_inv hn).1
        have fb := (numbersF_inv hm).1
        have fc := (numbersF_inv ht).1
        have na : ns = [N] := by
          match ns, d1 with
          | [x], _ => simp at hN; rw [hN]
        have nb : ms = es.length :: edNs es := by
          match ms, d4, d5, e1 with
          | x :: m, _, d5, e1 =>
            simp at d5 e1
            have := edNs_length es
            rw [← e1] at this
            rw [e1, show x = es.length from by omega]
        rw [na, numsB_one] at fa
        rw [nb, ← edgesB_nums] at fb
        rw [t3, ← read_nums gi t2] at fc
        have ms := magic_split c1.1 c1.2
        rw [hs, fa, fb, fc] at ms
        rw [bytesB]
        show _ = s
        rw [ris_sort e3]
        conv => rhs; rw [ms]
        simp only [ByteArray.append_assoc]
      · simp at h
    · simp at h
  · simp at h

end Go.Proofs.YtckallochdegiaaGreat
namespace Go.Proofs.YtckallochdegiaaGreat
set_option linter.unusedVariables false
set_option linter.unusedSimpArgs false

/-- The same rounds, wherever they begin and lie. -/
def RotEq (A B : List (List Itm)) : Prop := (∀ t, t ∈ A → ∃ s, s ∈ B ∧ Rot t s) ∧ (∀ s, s ∈ B → ∃ t, t ∈ A ∧ Rot t s)
/-- Two graphs that are alike but for the order of their edges and tours. -/
structure Alike (G G' : Gr) : Prop where
  n : G'.N = G.N
  ed : ∀ e, e ∈ G'.edges ↔ e ∈ G.edges
  tr : ∀ i, i ≤ Nat.log2 G.N → RotEq (lv G i) (lv G' i)

section
variable {N : Nat} {es : List Edg} {i : Nat}
end

section
variable {G : Gr} {i : Nat}
/-- A state with its edges in order. -/
def srt (G : Gr) : Gr := ⟨G.N, sortE G.edges, G.tours⟩
/-- A level's tours as they are read back. -/
def backT (G : Gr) (i : Nat) : List (List Itm) := (onesV G.N G.edges i).map oneT ++ (wantsF G.N G.edges i).map (tourAt G i)
end

end Go.Proofs.YtckallochdegiaaGreat
namespace Go.Proofs.YtckallochdegiaaGreat
set_option linter.unusedVariables false
set_option linter.unusedSimpArgs false

/-- What may stand in a round of N vertices. -/
def OkN (N : Nat) (x : Itm) : Prop := 0 ≤ x.1 ∧ x.1 < N ∧ (x.2 = -1 ∨ (0 ≤ x.2 ∧ x.2 < N ∧ x.2 ≠ x.1))
theorem OkN.ok {N : Nat} {x : Itm} (h : OkN N x) (hN : N ≤ 48) : OkI x := by
  obtain ⟨h1, h2, h3⟩ := h
  refine ⟨h1, by omega, ?_⟩
  rcases h3 with q | ⟨q1, q2, q3⟩
  · exact Or.inl q
  · exact Or.inr ⟨q1, by omega, fun e => q3 e.symm⟩

open Classical in
/-- The round that numbers tell, as the program reads it; what is behind it. -/
noncomputable def rrF (N : Nat) : List Nat → Option (List Itm × List Nat)
  | f :: z :: r => if f < N ∧ 2 ≤ z ∧ z ≤ N ∧ 3 * z - 3 ≤ r.length ∧ (∀ x, x ∈ wlk f (r.take (3 * z - 3)) → OkN N x) ∧ wend f (r.take (3 * z - 3)) = f then some (((f : Int), (-1 : Int)) :: wlk f (r.take (3 * z - 3)), r.drop (3 * z - 3)) else none
  | _ => none

/-- Where a round begins. -/
def hdv (l : List Itm) : Int := (l[0]?.getD (0, 0)).1

/-- What the program asks of a round, S seen before. -/
structure Fit (es : List Edg) (i : Nat) (S l : List Itm) : Prop where
  lo : ∀ x, x ∈ l → hdv l ≤ x.1
  wy : ∀ x, x ∈ l → x.2 = -1 ∨ TreeE es i x.1 x.2
  nd : l.Nodup
  nw : ∀ x, x ∈ l → x ∉ S
  sz : l.length + 2 = 3 * sizeV l

open Classical in
/-- c rounds behind those that were read. -/
noncomputable def rdsF (N : Nat) (es : List Edg) (i : Nat) : Nat → Int → List (List Itm) → List Nat → Option (List (List Itm) × List Nat)
  | 0, _, ls, t => some (ls, t)
  | c + 1, last, ls, t => match rrF N t with
    | none => none
    | some x => if last < hdv x.1 ∧ Fit es i ls.flatten x.1 then rdsF N es i c (hdv x.1) (ls ++ [x.1]) x.2 else none

open Classical in
/-- One level, as the program reads it. -/
noncomputable def plvF (N : Nat) (es : List Edg) (i : Nat) : List Nat → Option (List (List Itm) × List Nat)
  | [] => none
  | c :: t => match rdsF N es i c (-1) [] t with
    | none => none
    | some x => if ∀ a b : Int, TreeE es i a b → (a, b) ∈ x.1.flatten then some x else none

/-- A round that was taken. -/
structure RdOK (N : Nat) (es : List Edg) (i : Nat) (l : List Itm) : Prop where
  hd : ∃ f : Nat, f < N ∧ l = ((f : Int), (-1 : Int)) :: l.drop 1
  z2 : 2 ≤ sizeV l
  zN : sizeV l ≤ N
  ok : ∀ x, x ∈ l → OkN N x
  rnd : Rnd l
  lo : ∀ x, x ∈ l → hdv l ≤ x.1
  wy : ∀ x, x ∈ l → x.2 = -1 ∨ TreeE es i x.1 x.2
  sz : l.length + 2 = 3 * sizeV l
/-- The rounds that were taken. -/
structure Good (N : Nat) (es : List Edg) (i : Nat) (ls : List (List Itm)) : Prop where
  ok : ∀ l, l ∈ ls → RdOK N es i l
  nd : ls.flatten.Nodup
  up : ls.Pairwise fun a b => hdv a < hdv b

section
variable {N : Nat} {es : List Edg} {i : Nat} {l : List Itm}

theorem hdv_cons {f : Int} {r : List Itm} (h : l = (f, -1) :: r) : hdv l = f := by rw [h]; rfl

theorem rrF_ok {t r : List Nat} {l : List Itm} (h : rrF N t = some (l, r)) : ∃ f z : Nat, t = f :: z :: ((l.drop 1).map itN ++ r) ∧ f < N ∧ l = ((f : Int), (-1 : Int)) :: l.drop 1 ∧ 2 ≤ z ∧ z ≤ N ∧ l.length + 2 = 3 * z ∧ (∀ x, x ∈ l → OkN N x) ∧ Rnd l := by
  match t, h with
  | f :: z :: t, h =>
    rw [rrF] at h
    split at h
    · rename_i q
      obtain ⟨q1, q2, q3, q4, q5, q6⟩ := q
      injection h with h
      injection h with h1 h2
      have ev : en ((f : Int), (-1 : Int)) = f := by simp [en]
      have ch := wlk_chn (t.take (3 * z - 3)) ((f : Int), (-1 : Int))
      rw [ev] at ch
      have dr : l.drop 1 = wlk f (t.take (3 * z - 3)) := by rw [← h1]; rfl
      refine ⟨f, z, ?_, q1, ?_, q2, q3, ?_, ?_, ?_⟩
      · rw [dr, wlk_itN, ← h2, List.take_append_drop]
      · rw [dr, ← h1]
      · rw [← h1, List.length_cons, wlk_length, List.length_take]; omega
      · intro x hx
        rw [← h1] at hx
        rcases List.mem_cons.1 hx with rfl | q
        · exact ⟨by show (0 : Int) ≤ f; omega, by show (f : Int) < N; omega, Or.inl rfl⟩
        · exact q5 x q
      · rw [← h1]
        refine ⟨ch.1, fun x y hx hy => ?_⟩
        rw [ch.2 x hx, q6]
        simp at hy; rw [← hy]; rfl
    · simp at h

theorem RdOK.hdv (h : RdOK N es i l) : ∃ f : Nat, f < N ∧ Go.Proofs.YtckallochdegiaaGreat.hdv l = f ∧ ((f : Int), (-1 : Int)) ∈ l := by
  obtain ⟨f, h1, h2⟩ := h.hd
  exact ⟨f, h1, hdv_cons h2, by rw [h2]; simp⟩
theorem RdOK.num (h : RdOK N es i l) : ∃ f : Nat, f < N ∧ Go.Proofs.YtckallochdegiaaGreat.hdv l = f ∧ numL l = f :: sizeV l :: (l.drop 1).map itN := by
  obtain ⟨f, h1, h2⟩ := h.hd
  refine ⟨f, h1, hdv_cons h2, ?_⟩
  have : (l[0]?.getD (0, 0)).1 = (f : Int) := hdv_cons h2
  rw [numL, this]; simp

/-- A round's numbers, and that they are read. -/
theorem RdOK.rr (h : RdOK N es i l) (r : List Nat) : rrF N (numL l ++ r) = some (l, r) := by
  obtain ⟨f, h1, h2⟩ := h.hd
  obtain ⟨f', _, h3, h4⟩ := h.num
  have : f' = f := by have := hdv_cons h2; omega
  subst this
  have sz := h.sz
  have d1 : (l.drop 1).length = 3 * sizeV l - 3 := by rw [List.length_drop]; omega
  have d2 : ((l.drop 1).map itN ++ r).take (3 * sizeV l - 3) = (l.drop 1).map itN := by
    have : ((l.drop 1).map itN).length = 3 * sizeV l - 3 := by rw [List.length_map, d1]
    rw [← this, List.take_left]
  have d3 : ((l.drop 1).map itN ++ r).drop (3 * sizeV l - 3) = r := by
    have : ((l.drop 1).map itN).length = 3 * sizeV l - 3 := by rw [List.length_map, d1]
    rw [← this, List.drop_left]
  have ev : en ((f' : Int), (-1 : Int)) = f' := by simp [en]
  have ch : Chn (((f' : Int), (-1 : Int)) :: l.drop 1) := by rw [← h2]; exact h.rnd.1
  have wk : wlk f' ((l.drop 1).map itN) = l.drop 1 := by
    have := chn_wlk (l.drop 1) ((f' : Int), (-1 : Int)) ch (fun y hy => by
      have := (h.ok y (List.mem_of_mem_drop hy)).2.2
      omega)
    rw [ev] at this; exact this
  have we : wend f' ((l.drop 1).map itN) = f' := by
    have := (wlk_chn ((l.drop 1).map itN) ((f' : Int), (-1 : Int))).2
    rw [ev, wk, ← h2] at this
    obtain ⟨y, hy⟩ : ∃ y, l.getLast? = some y := by rw [h2]; exact ⟨_, List.getLast?_cons⟩
    have c := h.rnd.2 y ((f' : Int), (-1 : Int)) hy (by rw [h2]; rfl)
    rw [← this y hy, c]; rfl
  rw [h4, List.cons_append, List.cons_append, rrF, d2, d3, wk, if_pos, ← h2]
  refine ⟨h1, h.z2, h.zN, ?_, fun x hx => h.ok x (List.mem_of_mem_drop hx), we⟩
  rw [List.length_append, List.length_map, d1]; omega

theorem flat_one (ls : List (List Itm)) (l : List Itm) : (ls ++ [l]).flatten = ls.flatten ++ l := by simp

theorem rdsF_ok : ∀ (c : Nat) (last : Int) (ls : List (List Itm)) (t : List Nat) {ls' : List (List Itm)} {r : List Nat}, Good N es i ls → (∀ l, l ∈ ls → hdv l ≤ last) → rdsF N es i c last ls t = some (ls', r) → ∃ ms, ls' = ls ++ ms ∧ ms.length = c ∧ t = ms.flatMap numL ++ r ∧ Good N es i ls' := by
  intro c
  induction c with
  | zero =>
    intro last ls t ls' r g _ h
    rw [rdsF] at h
    injection h with h
    injection h with h1 h2
    subst h1 h2
    exact ⟨[], by simp, rfl, by simp, g⟩
  | succ c ih =>
    intro last ls t ls' r g hl h
    rw [rdsF] at h
    cases hr : rrF N t with
    | none => rw [hr] at h; simp at h
    | some x =>
      obtain ⟨l, t2⟩ := x
      rw [hr] at h
      simp only at h
      split at h
      · rename_i q
        obtain ⟨q1, q2⟩ := q
        obtain ⟨f, z, e1, e2, e3, e4, e5, e6, e7, e8⟩ := rrF_ok hr
        have zs : z = sizeV l := by have := q2.sz; omega
        have R : RdOK N es i l := ⟨⟨f, e2, e3⟩, by omega, by omega, e7, e8, q2.lo, q2.wy, q2.sz⟩
        have g2 : Good N es i (ls ++ [l]) := by
          refine ⟨fun k hk => ?_, ?_, ?_⟩
          · rcases List.mem_append.1 hk with p | p
            · exact g.ok k p
            · simp at p; rw [p]; exact R
          · rw [flat_one, List.nodup_append]
            exact ⟨g.nd, q2.nd, fun a ha b hb p => q2.nw b hb (p ▸ ha)⟩
          · rw [List.pairwise_append]
            refine ⟨g.up, by simp, fun a ha b hb => ?_⟩
            simp at hb; rw [hb]
            have := hl a ha
            omega
        obtain ⟨ms, m1, m2, m3, m4⟩ := ih (hdv l) (ls ++ [l]) t2 g2 (fun k hk => by
          rcases List.mem_append.1 hk with p | p
          · have := hl k p; omega
          · simp at p; rw [p]; exact Int.le_refl _) h
        refine ⟨l :: ms, by rw [m1]; simp, by simp [m2], ?_, m4⟩
        obtain ⟨f', _, n1, n2⟩ := R.num
        have : f' = f := by have := hdv_cons e3; omega
        subst this
        rw [e1, List.flatMap_cons, n2, m3, zs]; simp
      · simp at h

theorem rdsF_of : ∀ (ms ls : List (List Itm)) (last : Int) (r : List Nat), Good N es i (ls ++ ms) → (∀ l, l ∈ ms → last < hdv l) → rdsF N es i ms.length last ls (ms.flatMap numL ++ r) = some (ls ++ ms, r) := by
  intro ms
  induction ms with
  | nil => intro ls last r _ _; simp [rdsF]
  | cons l ms ih =>
    intro ls last r g hl
    have R := g.ok l (by simp)
    have e : (l :: ms).flatMap numL ++ r = numL l ++ (ms.flatMap numL ++ r) := by rw [List.flatMap_cons]; simp
    have ap : ls ++ l :: ms = (ls ++ [l]) ++ ms := by simp
    have nd := g.nd
    rw [ap, List.flatten_append, flat_one, List.nodup_append, List.nodup_append] at nd
    have up := g.up
    rw [List.pairwise_append, List.pairwise_cons] at up
    have F : Fit es i ls.flatten l := ⟨R.lo, R.wy, nd.1.2.1, fun x hx q => nd.1.2.2 x q x hx rfl, R.sz⟩
    rw [List.length_cons, rdsF, e, R.rr]
    simp only
    rw [if_pos ⟨hl l (by simp), F⟩, ih (ls ++ [l]) (hdv l) r (by rw [← ap]; exact g) (fun k hk => up.2.1.1 k hk)]
    simp

theorem nd_le {α : Type} [BEq α] [LawfulBEq α] : ∀ (w l : List α), w.Nodup → (∀ x, x ∈ w → x ∈ l) → w.length ≤ l.length := by
  intro w
  induction w with
  | nil => intro l _ _; simp
  | cons a w ih =>
    intro l nd hs
    obtain ⟨n1, n2⟩ := List.nodup_cons.1 nd
    have ha : a ∈ l := hs a (by simp)
    have hlen := List.length_erase_of_mem ha
    have hp := List.length_pos_of_mem ha
    have := ih (l.erase a) n2 (fun x hx => (List.mem_erase_of_ne (fun q : x = a => n1 (q ▸ hx))).2 (hs x (by simp [hx])))
    rw [List.length_cons]; omega

theorem inI_tree {a b : Int} (h : TreeE es i a b) (v : Int) : inI es i v a = inI es i v b := by
  obtain ⟨e, h1, h2, h3, h4⟩ := h
  have k := inI_edge h1 h2 h3
  have := inI_eq k v
  rcases h4 with ⟨rfl, rfl⟩ | ⟨rfl, rfl⟩
  · rw [inI_comm es i v, this, inI_comm]
  · rw [inI_comm es i v, ← this, inI_comm]

/-- All of a round is in one tree. -/
theorem RdOK.comp (h : RdOK N es i l) : ∀ x, x ∈ l → inI es i (Go.Proofs.YtckallochdegiaaGreat.hdv l) x.1 = true := by
  obtain ⟨f, h1, h2⟩ := h.hd
  have hf := hdv_cons h2
  have ch : Chn (((f : Int), (-1 : Int)) :: l.drop 1) := by rw [← h2]; exact h.rnd.1
  have key := chn_keep (S := inI es i f) (k := true) (l.drop 1) ((f : Int), (-1 : Int)) ch (by simp [en, inI_self]) (fun y hy => by
    have w := h.wy y (List.mem_of_mem_drop hy)
    by_cases c : y.2 = -1
    · simp [en, st, c]
    · simp only [en, st]
      rw [if_neg c]
      exact (inI_tree (w.resolve_left c) f).symm)
  intro x hx
  rw [hf]
  rw [h2] at hx
  rcases List.mem_cons.1 hx with rfl | q
  · exact inI_self _ _ _
  · exact key x q

/-- v's tree is reached by its own edges. -/
theorem comp_rch {v u : Nat} (hu : u ∈ compV N es i v) : RchP ((edgesV es i v).map key) v u := by
  have r := inI_iff.1 (compV_mem.1 hu).2
  intro S h1 h2
  have := r (fun y => S y && inI es i v y) (by simp [h1, inI_self]) (fun e he ha => by
    obtain ⟨t1, t2⟩ := act_iff.1 ha
    have ee := inI_edge he t1 t2
    cases c : inI es i v e.u
    · have : inI es i v e.v = false := by rw [inI_comm, inI_eq (by rw [inI_comm]; exact ee), inI_comm]; exact c
      simp [this, c]
    · have : inI es i v e.v = true := by rw [inI_eq c]; exact ee
      have := h2 (key e) (List.mem_map.2 ⟨e, edgesV_mem.2 ⟨he, t1, t2, c⟩, rfl⟩)
      simp only [key] at this
      simp [this, *])
  simp at this
  exact this.1
theorem comp_le (v : Nat) : (compV N es i v).length ≤ (edgesV es i v).length + 1 := by
  have := conn_len (F := (edgesV es i v).map key) (V := (compV N es i v).map fun u : Nat => (u : Int)) (v := (v : Int)) (by
    rw [List.Nodup, List.pairwise_map]
    exact List.Pairwise.imp (fun hab q => hab (by omega)) (compV_nodup (N := N) (es := es) (i := i) (v := v))) (fun x hx => by
    obtain ⟨u, hu, rfl⟩ := List.mem_map.1 hx
    exact comp_rch hu)
  rw [List.length_map, List.length_map] at this
  exact this

theorem lens_flat : ∀ (L : List (List Itm)), (∀ l, l ∈ L → l.length + 2 = 3 * sizeV l) → L.flatten.length + 2 * L.length = 3 * sizeV L.flatten := by
  intro L
  induction L with
  | nil => intro _; rfl
  | cons l L ih =>
    intro h
    have h1 := h l (by simp)
    have h2 := ih fun k hk => h k (by simp [hk])
    rw [List.flatten_cons, List.length_append, sizeV_append, List.length_cons]
    omega

theorem sub_flat {A B : List (List Itm)} (h : A.Sublist B) : A.flatten.Sublist B.flatten := by
  induction h with
  | slnil => exact List.Sublist.refl _
  | cons a _ ih => rw [List.flatten_cons]; exact List.Sublist.trans ih (List.sublist_append_right _ _)
  | cons_cons a _ ih => rw [List.flatten_cons, List.flatten_cons]; exact List.Sublist.append (List.Sublist.refl _) ih
theorem len_split (p : Itm → Bool) : ∀ l : List Itm, l.length = (l.filter p).length + (l.filter fun x => !p x).length := by
  intro l
  induction l with
  | nil => rfl
  | cons a l ih =>
    rw [List.filter_cons, List.filter_cons, List.length_cons]
    cases p a
    · simp only [Bool.not_false, if_true, List.length_cons]
      rw [if_neg (by simp)]; omega
    · simp only [Bool.not_true, if_true, List.length_cons]
      rw [if_neg (by simp)]; omega

/-- ROUNDS OF ALL WAYS, EACH ONCE, WITH AS MANY VERTICES AS THEIR LENGTHS ASK FOR, ARE THE TREES' OWN. -/
theorem Good.one (E : EdOK N es) {ls : List (List Itm)} (g : Good N es i ls) (cov : ∀ a b : Int, TreeE es i a b → (a, b) ∈ ls.flatten) {l : List Itm} (hl : l ∈ ls) {f : Nat} (hf : hdv l = f) (hfN : f < N) :
    sizeV l = (compV N es i f).length ∧ (wantF N es i f).length = l.length ∧ ∀ x, x ∈ l ↔ x ∈ wantF N es i f := by
  obtain ⟨L, hL⟩ : ∃ L, L = ls.filter fun k => inI es i f (hdv k) := ⟨_, rfl⟩
  have lL : l ∈ L := by rw [hL, List.mem_filter]; exact ⟨hl, by rw [hf]; exact inI_self _ _ _⟩
  have sub : L.Sublist ls := by rw [hL]; exact List.filter_sublist
  have okL : ∀ k, k ∈ L → RdOK N es i k := fun k hk => g.ok k (sub.subset hk)
  have ndL : L.flatten.Nodup := List.Nodup.sublist (sub_flat sub) g.nd
  have lens := lens_flat L fun k hk => (okL k hk).sz
  have inC : ∀ x, x ∈ L.flatten → inI es i f x.1 = true := by
    intro x hx
    obtain ⟨k, h1, h2⟩ := List.mem_flatten.1 hx
    have c := (okL k h1).comp x h2
    have d : inI es i f (hdv k) = true := by rw [hL, List.mem_filter] at h1; exact h1.2
    rw [inI_eq d]; exact c
  have okX : ∀ x, x ∈ L.flatten → OkN N x ∧ (x.2 = -1 ∨ TreeE es i x.1 x.2) := by
    intro x hx
    obtain ⟨k, h1, h2⟩ := List.mem_flatten.1 hx
    exact ⟨(okL k h1).ok x h2, (okL k h1).wy x h2⟩
  -- vertices
  have vC : sizeV L.flatten ≤ (compV N es i f).length := by
    have := nd_le (L.flatten.filter fun x => decide (x.2 < 0)) ((compV N es i f).map fun u : Nat => ((u : Int), (-1 : Int))) (List.Nodup.sublist List.filter_sublist ndL) (fun x hx => by
      obtain ⟨h1, h2⟩ := List.mem_filter.1 hx
      have o := (okX x h1).1
      simp only [decide_eq_true_eq] at h2
      refine List.mem_map.2 ⟨x.1.toNat, compV_mem.2 ⟨by have := o.1; have := o.2.1; omega, ?_⟩, ?_⟩
      · rw [Int.toNat_of_nonneg o.1]; exact inC x h1
      · rw [Int.toNat_of_nonneg o.1]
        refine Prod.ext rfl ?_
        show -1 = x.2
        have := o.2.2; omega)
    rw [List.length_map] at this
    exact this
  -- ways
  have wE : 2 * (edgesV es i f).length ≤ (L.flatten.filter fun x => !decide (x.2 < 0)).length := by
    rw [← waysE_length]
    refine nd_le _ _ (waysE_nodup E List.filter_sublist) (fun x hx => ?_)
    obtain ⟨e, he, q⟩ := waysE_mem.1 hx
    obtain ⟨e1, e2, e3, e4⟩ := edgesV_mem.1 he
    have be := E.ed e e1
    have tr : TreeE es i x.1 x.2 := by
      rcases q with rfl | rfl
      · exact ⟨e, e1, e2, e3, Or.inl ⟨rfl, rfl⟩⟩
      · exact ⟨e, e1, e2, e3, Or.inr ⟨rfl, rfl⟩⟩
    have xC : inI es i f x.1 = true := by
      rcases q with rfl | rfl
      · exact e4
      · show inI es i f e.v = true
        rw [← inI_tree ⟨e, e1, e2, e3, Or.inl ⟨rfl, rfl⟩⟩ (f : Int)]; exact e4
    obtain ⟨k, k1, k2⟩ := List.mem_flatten.1 (cov x.1 x.2 tr)
    refine List.mem_filter.2 ⟨List.mem_flatten.2 ⟨k, ?_, k2⟩, ?_⟩
    · rw [hL, List.mem_filter]
      refine ⟨k1, ?_⟩
      have c := (g.ok k k1).comp _ k2
      rw [inI_comm, inI_eq c, inI_comm]; exact xC
    · rcases q with rfl | rfl
      · simp; omega
      · simp; omega
  have split : L.flatten.length = sizeV L.flatten + (L.flatten.filter fun x => !decide (x.2 < 0)).length := by
    exact len_split (fun x : Itm => decide (x.2 < 0)) L.flatten
  have cl := comp_le (N := N) (es := es) (i := i) f
  have k1 : 1 ≤ L.length := List.length_pos_of_mem lL
  have k2 : L.length = 1 := by omega
  have hX : L.flatten = l := by
    match L, lL, k2 with
    | [a], h, _ => simp at h; rw [h]; simp
  rw [hX] at vC wE split ndL inC okX lens
  rw [k2] at lens
  have len : (wantF N es i f).length = l.length := by rw [wantF_length]; omega
  have subW : ∀ x, x ∈ l → x ∈ wantF N es i f := by
    intro x hx
    obtain ⟨o1, o2⟩ := okX x hx
    have c := inC x hx
    obtain ⟨a, b⟩ := x
    simp only at o2 c
    by_cases q : b = -1
    · subst q
      have := o1.1; have := o1.2.1
      simp only at *
      exact (wantF_vtx E).2 ⟨a.toNat, by omega, compV_mem.2 ⟨by omega, by rw [Int.toNat_of_nonneg (by omega)]; exact c⟩⟩
    · obtain ⟨e, e1, e2, e3, e4⟩ := o2.resolve_left q
      refine (wantF_way q).2 ⟨e, edgesV_mem.2 ⟨e1, e2, e3, ?_⟩, ?_⟩
      · rcases e4 with ⟨p1, p2⟩ | ⟨p1, p2⟩
        · rw [p1]; exact c
        · rw [inI_tree ⟨e, e1, e2, e3, Or.inl ⟨rfl, rfl⟩⟩ (f : Int), p2]; exact c
      · rcases e4 with ⟨p1, p2⟩ | ⟨p1, p2⟩
        · exact Or.inl (by rw [p1, p2])
        · exact Or.inr (by rw [p1, p2])
  have full := sub_full l (wantF N es i f) ndL subW (by omega)
  exact ⟨by omega, len, fun x => ⟨subW x, full.2 x⟩⟩

theorem Good.walk (E : EdOK N es) {ls : List (List Itm)} (g : Good N es i ls) (cov : ∀ a b : Int, TreeE es i a b → (a, b) ∈ ls.flatten) {l : List Itm} (hl : l ∈ ls) :
    ∃ f : Nat, hdv l = f ∧ f ∈ wantsF N es i ∧ WalkOK N es i f l := by
  have R := g.ok l hl
  obtain ⟨f, h1, h2⟩ := R.hd
  have hf := hdv_cons h2
  obtain ⟨s1, s2, s3⟩ := g.one E cov hl hf h1
  have rr := R.rr []
  obtain ⟨f', _, n1, n2⟩ := R.num
  have : f' = f := by omega
  subst this
  have sz := R.sz
  have z2 := R.z2
  have ndl : l.Nodup := (List.pairwise_flatten.1 g.nd).1 l hl
  have wk : walkF N es i f' (numL l ++ []) = some (l, []) := by
    rw [List.append_nil] at rr ⊢
    rw [n2] at rr ⊢
    rw [rrF] at rr
    split at rr
    · rename_i q
      obtain ⟨_, _, _, q4, _, q6⟩ := q
      injection rr with rr
      injection rr with r1 r2
      have wo : walkOut f' (3 * (compV N es i f').length - 3) (f' :: sizeV l :: (l.drop 1).map itN) = l := by
        rw [walkOut, ← s1]; exact r1
      rw [walkF, wo, ← s1, if_pos]
      · congr 1
        exact Prod.ext rfl r2
      · refine ⟨by simp only [List.length_cons]; omega, rfl, rfl, by rw [s2]; omega, fun x hx => ?_, q6⟩
        have c1 := List.nodup_iff_count.1 ndl x
        have c2 := List.count_pos_iff.2 ((s3 x).2 hx)
        omega
    · simp at rr
  have W := (walkF_ok E h1 wk).1
  refine ⟨f', hf, wantsF_mem.2 ⟨h1, isLst_iff.2 (fun u hu hi => ?_), by omega⟩, W⟩
  have m := (s3 ((u : Int), (-1 : Int))).2 ((wantF_vtx E).2 ⟨u, rfl, compV_mem.2 ⟨hu, hi⟩⟩)
  have := R.lo _ m
  simp only at this
  omega

theorem inc_eq : ∀ (a b : List Nat), a.Pairwise (fun x y => x < y) → b.Pairwise (fun x y => x < y) → (∀ x, x ∈ a ↔ x ∈ b) → a = b := by
  intro a
  induction a with
  | nil =>
    intro b _ _ h
    cases b with
    | nil => rfl
    | cons y b => exact absurd ((h y).2 (by simp)) (by simp)
  | cons x a ih =>
    intro b ha hb h
    cases b with
    | nil => exact absurd ((h x).1 (by simp)) (by simp)
    | cons y b =>
      obtain ⟨a1, a2⟩ := List.pairwise_cons.1 ha
      obtain ⟨b1, b2⟩ := List.pairwise_cons.1 hb
      have e : x = y := by
        rcases List.mem_cons.1 ((h x).1 (by simp)) with q | q
        · exact q
        · rcases List.mem_cons.1 ((h y).2 (by simp)) with p | p
          · exact p.symm
          · have := a1 y p; have := b1 x q; omega
      subst e
      rw [ih b a2 b2 fun z => ?_]
      constructor
      · intro hz
        have := a1 z hz
        rcases List.mem_cons.1 ((h z).1 (by simp [hz])) with q | q
        · omega
        · exact q
      · intro hz
        have := b1 z hz
        rcases List.mem_cons.1 ((h z).2 (by simp [hz])) with q | q
        · omega
        · exact q

theorem wks_of_map : ∀ {ls : List (List Itm)} {vs : List Nat}, vs = ls.map (fun l => (hdv l).toNat) → (∀ l, l ∈ ls → ∃ f : Nat, hdv l = f ∧ WalkOK N es i f l) → Wks N es i vs ls := by
  intro ls
  induction ls with
  | nil => intro vs h _; rw [h]; trivial
  | cons l ls ih =>
    intro vs h k
    rw [h, List.map_cons]
    obtain ⟨f, h1, h2⟩ := k l (by simp)
    refine ⟨?_, ih rfl fun m hm => k m (by simp [hm])⟩
    rw [h1, Int.toNat_natCast]; exact h2

theorem Good.wks (E : EdOK N es) {ls : List (List Itm)} (g : Good N es i ls) (cov : ∀ a b : Int, TreeE es i a b → (a, b) ∈ ls.flatten) : Wks N es i (wantsF N es i) ls := by
  refine wks_of_map (inc_eq _ _ ?_ ?_ fun v => ?_) fun l hl => ?_
  · exact List.Pairwise.sublist List.filter_sublist List.pairwise_lt_range
  · rw [List.pairwise_map]
    refine List.Pairwise.imp_of_mem (fun {a b} ha hb h => ?_) g.up
    obtain ⟨x, _, h1, _⟩ := (g.ok a ha).hdv
    obtain ⟨y, _, h2, _⟩ := (g.ok b hb).hdv
    omega
  · constructor
    · intro hv
      obtain ⟨v1, v2, v3⟩ := wantsF_mem.1 hv
      have cl := comp_le (N := N) (es := es) (i := i) v
      obtain ⟨e, he⟩ : ∃ e, e ∈ edgesV es i v := by
        cases q : edgesV es i v with
        | nil => rw [q] at cl; simp at cl; omega
        | cons e r => exact ⟨e, by simp⟩
      obtain ⟨e1, e2, e3, e4⟩ := edgesV_mem.1 he
      obtain ⟨l, l1, l2⟩ := List.mem_flatten.1 (cov e.u e.v ⟨e, e1, e2, e3, Or.inl ⟨rfl, rfl⟩⟩)
      obtain ⟨f, f1, f2, f3⟩ := g.walk E cov l1
      obtain ⟨w1, w2, _⟩ := wantsF_mem.1 f2
      have c := (g.ok l l1).comp _ l2
      rw [f1] at c
      have : f = v := lst_uniq w1 v1 w2 v2 (by rw [inI_eq c, inI_comm]; exact e4)
      exact List.mem_map.2 ⟨l, l1, by rw [f1, Int.toNat_natCast, this]⟩
    · intro hv
      obtain ⟨l, l1, l2⟩ := List.mem_map.1 hv
      obtain ⟨f, f1, f2, _⟩ := g.walk E cov l1
      rw [f1, Int.toNat_natCast] at l2
      rw [← l2]; exact f2
  · obtain ⟨f, f1, _, f3⟩ := g.walk E cov hl
    exact ⟨f, f1, f3⟩

end

end Go.Proofs.YtckallochdegiaaGreat
namespace Go.Proofs.YtckallochdegiaaGreat
set_option linter.unusedVariables false
set_option linter.unusedSimpArgs false

section
variable {N : Nat} {es : List Edg} {i : Nat}

theorem wks_map : ∀ {vs : List Nat} {ls : List (List Itm)}, Wks N es i vs ls → vs = ls.map (fun l => (hdv l).toNat) := by
  intro vs
  induction vs with
  | nil => intro ls h; cases ls with | nil => rfl | cons x la => exact absurd h (by simp [Wks])
  | cons v vs ih =>
    intro ls h
    cases ls with
    | nil => exact absurd h (by simp [Wks])
    | cons l ls =>
      obtain ⟨r, hr⟩ := h.1.hd
      rw [List.map_cons, ← ih h.2, hdv_cons hr, Int.toNat_natCast]

theorem WalkOK.okN (E : EdOK N es) {v : Nat} {l : List Itm} (w : WalkOK N es i v l) {x : Itm} (hx : x ∈ l) : OkN N x := by
  obtain ⟨f1, f2, _, f4⟩ := w.fst E hx
  refine ⟨f1, f2, ?_⟩
  rcases f4 with q | ⟨e, he, _, _, q⟩
  · exact Or.inl q
  · have := E.ed e he
    rcases q with ⟨q1, q2⟩ | ⟨q1, q2⟩
    · exact Or.inr ⟨by omega, by omega, by omega⟩
    · exact Or.inr ⟨by omega, by omega, by omega⟩

theorem Wks.rdok (E : EdOK N es) (hN : N ≤ 48) {ls : List (List Itm)} (W : Wks N es i (wantsF N es i) ls) : ∀ l, l ∈ ls → RdOK N es i l := by
  intro l hl
  obtain ⟨v, hv, w⟩ := W.of l hl
  obtain ⟨v1, v2, v3⟩ := wantsF_mem.1 hv
  obtain ⟨r, hr⟩ := w.hd
  have hh := hdv_cons hr
  have sz := w.size E
  have cN : (compV N es i v).length ≤ N := by
    have := List.length_filter_le (fun u : Nat => inI es i v u) (List.range N)
    rw [List.length_range] at this
    exact this
  refine ⟨⟨v, v1, by rw [hr]; rfl⟩, by omega, by omega, fun x hx => w.okN E hx, w.tr.rnd, fun x hx => ?_, fun x hx => (w.fst E hx).2.2.2, ?_⟩
  · obtain ⟨f1, f2, f3, _⟩ := w.fst E hx
    have := isLst_iff.1 v2 x.1.toNat (by omega) (by rw [Int.toNat_of_nonneg f1]; exact f3)
    rw [hh]; omega
  · exact Tour.len3 l.length (Nat.le_refl _) w.tr (by rw [hr]; simp) (fun x hx hn => ((w.okN E hx).ok hN).neg.1 hn) (fun x hx => (w.okN E hx).1)

theorem Wks.good (E : EdOK N es) (hN : N ≤ 48) {ls : List (List Itm)} (W : Wks N es i (wantsF N es i) ls) : Good N es i ls ∧ ∀ a b : Int, TreeE es i a b → (a, b) ∈ ls.flatten := by
  have ok := W.rdok E hN
  obtain ⟨L, C, _⟩ := LvOK.lt E (i := i) (ts := (onesV N es i).map oneT ++ ls) ⟨ls, W, rfl⟩
  have dj := (List.pairwise_append.1 L.dj).2.1
  refine ⟨⟨ok, ?_, ?_⟩, ?_⟩
  · refine List.pairwise_flatten.2 ⟨fun l hl => ?_, List.Pairwise.imp (fun {a b} h => ?_) dj⟩
    · obtain ⟨v, _, w⟩ := W.of l hl
      exact w.tr.nd
    · intro x hx y hy q
      exact h x hx y hy (by rw [q])
  · have p : (wantsF N es i).Pairwise (fun x y => x < y) := List.Pairwise.sublist List.filter_sublist List.pairwise_lt_range
    rw [wks_map W, List.pairwise_map] at p
    refine List.Pairwise.imp_of_mem (fun {a b} ha hb h => ?_) p
    obtain ⟨x, _, h1, _⟩ := (ok a ha).hdv
    obtain ⟨y, _, h2, _⟩ := (ok b hb).hdv
    omega
  · rintro a b ⟨e, e1, e2, e3, e4⟩
    have be := E.ed e e1
    obtain ⟨t, t1, t2⟩ := C e e1 e2 e3
    have tl : t ∈ ls := by
      rcases List.mem_append.1 t1 with q | q
      · obtain ⟨u, _, rfl⟩ := List.mem_map.1 q
        simp [oneT] at t2
        omega
      · exact q
    obtain ⟨v, _, w⟩ := W.of t tl
    refine List.mem_flatten.2 ⟨t, tl, ?_⟩
    rcases e4 with ⟨rfl, rfl⟩ | ⟨rfl, rfl⟩
    · exact t2
    · exact (w.tr.way _ t2 (by show e.v ≠ -1; omega)).1

theorem good_nil : Good N es i [] := ⟨by simp, by simp, by simp⟩

/-- What the program takes as a level is what the document asks for. -/
theorem plv_some (E : EdOK N es) (hN : N ≤ 48) {t r : List Nat} {ls : List (List Itm)} (h : plvF N es i t = some (ls, r)) : lvlF N es i t = some ((onesV N es i).map oneT ++ ls, r) ∧ Wks N es i (wantsF N es i) ls := by
  match t, h with
  | c :: t, h =>
    rw [plvF] at h
    cases hr : rdsF N es i c (-1) [] t with
    | none => rw [hr] at h; simp at h
    | some x =>
      rw [hr] at h
      simp only at h
      split at h
      · rename_i cov
        injection h with h
        subst h
        obtain ⟨ms, m1, m2, m3, g⟩ := rdsF_ok c (-1) [] t good_nil (by simp) hr
        rw [List.nil_append] at m1
        subst m1
        have W := g.wks E cov
        refine ⟨?_, W⟩
        rw [lvlF, if_pos (by rw [← m2, W.len]), m3, walksF_of E hN _ (fun v hv => (wantsF_mem.1 hv).1) r W]
      · simp at h

theorem plv_of (E : EdOK N es) (hN : N ≤ 48) {r : List Nat} {ls : List (List Itm)} (W : Wks N es i (wantsF N es i) ls) : plvF N es i ((wantsF N es i).length :: (ls.flatMap numL ++ r)) = some (ls, r) := by
  obtain ⟨g, cov⟩ := W.good E hN
  have := rdsF_of ls [] (-1) r g (fun l hl => by obtain ⟨f, _, h, _⟩ := (g.ok l hl).hdv; omega)
  rw [List.nil_append] at this
  rw [plvF, ← W.len, this]
  simp only
  rw [if_pos cov]

theorem plv_none (E : EdOK N es) (hN : N ≤ 48) {t : List Nat} (h : plvF N es i t = none) : lvlF N es i t = none := by
  cases k : lvlF N es i t with
  | none => rfl
  | some x =>
    exfalso
    obtain ⟨⟨ls, W, e⟩, e2⟩ := lvlF_ok E (ts := x.1) (r := x.2) k
    rw [e, LvOK.lvN E W, List.cons_append] at e2
    rw [e2, plv_of E hN W] at h
    simp at h

/-- What is laid at the least vertices, when the rounds ls have been laid. -/
structure LayI (N : Nat) (ls : List (List Itm)) (R : Nat → List Itm) : Prop where
  at_ : ∀ l, l ∈ ls → ∀ f : Nat, hdv l = f → R f = l.map pv
  mid : ∀ l, l ∈ ls → ∀ z : Nat, ((z : Int), (-1 : Int)) ∈ l → (z : Int) ≠ hdv l → R z = []
  no : ∀ z : Nat, (∀ l, l ∈ ls → ((z : Int), (-1 : Int)) ∉ l) → R z = if z < N then [((z : Int), (z : Int))] else []
/-- What laying a round leaves. -/
def layS (R : Nat → List Itm) (l : List Itm) : Nat → List Itm := fun z => if (z : Int) = hdv l then l.map pv else if ((z : Int), (-1 : Int)) ∈ l then [] else R z

theorem LayI.start : LayI N [] (fun z => if z < N then [((z : Int), (z : Int))] else []) := ⟨by simp, by simp, fun z _ => rfl⟩

theorem LayI.step {ls : List (List Itm)} {R : Nat → List Itm} (h : LayI N ls R) (ok : ∀ k, k ∈ ls → RdOK N es i k) {l : List Itm} (R1 : RdOK N es i l) (nw : ∀ x, x ∈ l → x ∉ ls.flatten) : LayI N (ls ++ [l]) (layS R l) := by
  obtain ⟨f, f1, f2, f3⟩ := R1.hdv
  have out : ∀ k, k ∈ ls → ∀ z : Nat, ((z : Int), (-1 : Int)) ∈ k → ((z : Int), (-1 : Int)) ∉ l := fun k hk z hz q => nw _ q (List.mem_flatten.2 ⟨k, hk, hz⟩)
  refine ⟨fun k hk g hg => ?_, fun k hk z hz hn => ?_, fun z hz => ?_⟩
  · rcases List.mem_append.1 hk with q | q
    · obtain ⟨g', _, g2, g3⟩ := (ok k q).hdv
      have : g' = g := by omega
      subst this
      have o := out k q g' g3
      rw [layS, if_neg (fun e => o (by rw [e, f2]; exact f3)), if_neg o]
      exact h.at_ k q g' hg
    · simp at q
      subst q
      rw [layS, if_pos hg.symm]
  · rcases List.mem_append.1 hk with q | q
    · have o := out k q z hz
      rw [layS, if_neg (fun e => o (by rw [e, f2]; exact f3)), if_neg o]
      exact h.mid k q z hz hn
    · simp at q
      subst q
      rw [layS, if_neg hn, if_pos hz]
  · have o := hz l (by simp)
    rw [layS, if_neg (fun e => o (by rw [e, f2]; exact f3)), if_neg o]
    exact h.no z fun k hk => hz k (by simp [hk])

/-- A vertex that stands in no round yet is a tree by itself. -/
theorem LayI.alone {ls : List (List Itm)} {R : Nat → List Itm} (h : LayI N ls R) (hN : N ≤ 48) (ok : ∀ k, k ∈ ls → RdOK N es i k) {v : Nat} (hv : v < N) (hn : ∀ l, l ∈ ls → ((v : Int), (-1 : Int)) ∉ l) : R v = [((v : Int), (v : Int))] ∧ ∀ z, z ≠ v → ((v : Int), (v : Int)) ∉ R z := by
  refine ⟨by rw [h.no v hn, if_pos hv], fun z hz q => ?_⟩
  by_cases c : ∃ l, l ∈ ls ∧ ((z : Int), (-1 : Int)) ∈ l
  · obtain ⟨l, l1, l2⟩ := c
    by_cases d : (z : Int) = hdv l
    · rw [h.at_ l l1 z d.symm] at q
      obtain ⟨x, hx, e⟩ := List.mem_map.1 q
      have := pv_inj (((ok l l1).ok x hx).ok hN) (y := ((v : Int), (-1 : Int))) ⟨by show (0 : Int) ≤ v; omega, by show (v : Int) < 48; omega, Or.inl rfl⟩ (by rw [e, pv_vtx])
      exact hn l l1 (this ▸ hx)
    · rw [h.mid l l1 z l2 d] at q
      simp at q
  · rw [h.no z fun l hl k => c ⟨l, hl, k⟩] at q
    split at q
    · simp at q; omega
    · simp at q

theorem LayI.fr (E : EdOK N es) (hN : N ≤ 48) {ls : List (List Itm)} {R : Nat → List Itm} (h : LayI N ls R) (W : Wks N es i (wantsF N es i) ls) : FR R ((onesV N es i).map oneT ++ ls) := by
  have ok := W.rdok E hN
  obtain ⟨L, C, _⟩ := LvOK.lt E (i := i) (ts := (onesV N es i).map oneT ++ ls) ⟨ls, W, rfl⟩
  have dj := (List.pairwise_append.1 L.dj).2.2
  refine ⟨fun t ht v hv => ?_, fun v hv hn => ?_⟩
  · rcases List.mem_append.1 ht with q | q
    · obtain ⟨u, hu, rfl⟩ := List.mem_map.1 q
      have e : v = u := by
        have := hv.1
        simp [oneT] at this
        omega
      subst e
      rw [show fromX (oneT v) ((v : Int), (-1 : Int)) = oneT v from fromX_at (a := []) (b := []) (by simp), h.no v (fun l hl k => dj (oneT v) q l hl _ (by simp [oneT]) _ k rfl), if_pos (onesV_mem.1 hu).1]
      simp [oneT, pv]
    · have R1 := ok t q
      obtain ⟨f, f1, f2⟩ := R1.hd
      have hf := hdv_cons f2
      have e : (v : Int) = f := hv.uniq ⟨by rw [f2]; simp, fun x hx => by rw [← hf]; exact R1.lo x hx⟩
      have e2 : fromX t ((v : Int), (-1 : Int)) = t := by
        rw [e]
        conv => lhs; rw [f2]
        rw [show fromX (((f : Int), (-1 : Int)) :: t.drop 1) ((f : Int), (-1 : Int)) = ((f : Int), (-1 : Int)) :: t.drop 1 ++ [] from fromX_at (a := []) (by simp), List.append_nil, ← f2]
      rw [e2, h.at_ t q v (by rw [hf, e])]
  · by_cases c : ∃ l, l ∈ ls ∧ ((v : Int), (-1 : Int)) ∈ l
    · obtain ⟨l, l1, l2⟩ := c
      by_cases d : (v : Int) = hdv l
      · exact ⟨l, List.mem_append_right _ l1, l2, fun x hx => by rw [d]; exact (ok l l1).lo x hx⟩
      · exact absurd (h.mid l l1 v l2 d) hn
    · rw [h.no v fun l hl k => c ⟨l, hl, k⟩] at hn
      split at hn
      · rename_i hvN
        obtain ⟨z, z1, z2, z3⟩ := lst_ex (N := N) (es := es) (i := i) v hvN
        by_cases g : 1 < (compV N es i z).length
        · exfalso
          obtain ⟨l, l1, l2⟩ := W.to z (wantsF_mem.2 ⟨z1, z2, g⟩)
          exact c ⟨l, l1, (l2.mem _).2 ((wantF_vtx E).2 ⟨v, rfl, compV_mem.2 ⟨hvN, z3⟩⟩)⟩
        · have e : v = z := by
            have m1 := compV_self (N := N) (es := es) (i := i) z1
            have m2 : v ∈ compV N es i z := compV_mem.2 ⟨hvN, z3⟩
            match hc : compV N es i z with
            | [] => rw [hc] at m1; simp at m1
            | [x] => rw [hc] at m1 m2; simp at m1 m2; omega
            | x :: y :: l => rw [hc] at g; simp at g
          subst e
          exact ⟨oneT v, List.mem_append_left _ (List.mem_map.2 ⟨v, onesV_mem.2 ⟨hvN, z2, g⟩, rfl⟩), by simp [oneT], fun x hx => by simp [oneT] at hx; rw [hx]; exact Int.le_refl _⟩
      · exact absurd rfl hn

/-- Is it an edge of F(i)? -/
theorem look_tree (E : EdOK N es) {u v : Nat} : ((look es u v).2.1 = true ∧ (i : Int) ≤ (look es u v).2.2) ↔ TreeE es i u v := by
  have kk : ∀ e, e ∈ es → ((e.u = (u : Int) ∧ e.v = v) ∨ (e.u = (v : Int) ∧ e.v = u)) → key e = (min (u : Int) v, max (u : Int) v) := by
    intro e he q
    have be := E.ed e he
    rw [key]
    rcases q with ⟨p1, p2⟩ | ⟨p1, p2⟩
    · rw [p1, p2]; congr 1 <;> omega
    · rw [p1, p2]; congr 1 <;> omega
  rcases findIx_has es (min (u : Int) v) (max (u : Int) v) with ⟨h, hn⟩ | ⟨k, h, k1, _, k2⟩
  · rw [look_no h]
    refine ⟨fun q => by simp at q, fun q => ?_⟩
    obtain ⟨e, e1, _, _, e4⟩ := q
    exact absurd (List.mem_map.2 ⟨e, e1, kk e e1 e4⟩) hn
  · rw [look_at h]
    simp only
    have hm : es[k]?.getD e0 ∈ es := by rw [get_eq k1]; exact List.getElem_mem k1
    constructor
    · rintro ⟨q1, q2⟩
      refine ⟨_, hm, q1, q2, ?_⟩
      rw [key] at k2
      injection k2 with k2 k3
      omega
    · rintro ⟨e, e1, e2, e3, e4⟩
      obtain ⟨j, hj, ej⟩ := List.mem_iff_getElem.1 e1
      have := find_key E.nd hj (a := min (u : Int) v) (b := max (u : Int) v) (by rw [get_eq hj, ej]; exact kk e e1 e4)
      have : k = j := by omega
      subst this
      rw [get_eq hj, ej]
      exact ⟨e2, e3⟩
end

end Go.Proofs.YtckallochdegiaaGreat
