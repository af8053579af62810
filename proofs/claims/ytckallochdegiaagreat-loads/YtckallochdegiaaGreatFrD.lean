import Derived.Test.YtckallochdegiaaGreatFrA
import Derived.Test.YtckallochdegiaaGreatRdA
import Derived.Lib.ConvBytes
import Derived.Test.YtckallochdegiaaGreatLdA
namespace Go.Proofs.YtckallochdegiaaGreat
set_option linter.unusedVariables false
set_option linter.unusedSimpArgs false
open Go.RowKit

theorem rd_more {n d p : Nat} (hn : n < p) (hp : p ≤ 128 ^ 3) (h1 : 128 ≤ d) (h2 : d < 256) : wrap64 ((n : Int) + wrap64 (((d : Int) - 128) * (p : Int))) = ((n + d % 128 * p : Nat) : Int) := by
  obtain ⟨q, rfl⟩ : ∃ q, d = 128 + q := ⟨d - 128, by omega⟩
  have e1 : (128 + q) % 128 = q := by omega
  have e2 : (((128 + q : Nat) : Int) - 128) = (q : Int) := by omega
  have m : q * p ≤ 127 * 128 ^ 3 := Nat.mul_le_mul (by omega) hp
  rw [e1, e2, show (q : Int) * (p : Int) = ((q * p : Nat) : Int) by simp]
  generalize q * p = m at *
  simp only [wrap64]
  omega
theorem rd_last {n d p : Nat} (hn : n < p) (hp : p ≤ 128 ^ 3) (h2 : d < 128) : wrap64 ((n : Int) + wrap64 ((d : Int) * (p : Int))) = ((n + d % 128 * p : Nat) : Int) := by
  have e1 : d % 128 = d := by omega
  have m : d * p ≤ 127 * 128 ^ 3 := Nat.mul_le_mul (by omega) hp
  rw [e1, show (d : Int) * (p : Int) = ((d * p : Nat) : Int) by simp]
  generalize d * p = m at *
  simp only [wrap64]
  omega

/-- What read answers. -/
def FrdR (s : ByteArray) (w : World) (e : Ending) (w' : World) : Prop := ∃ x d : Nat, e = .returned (.tuple #[.int .i64 x, .int .i64 d]) ∧ x < 2 ^ 28 ∧ ((d = 0 ∧ (firstF s).2.2 = false) ∨ (0 < d ∧ d ≤ 4 ∧ d ≤ s.size ∧ firstF s = (x, s.extract d s.size, true))) ∧ Below w.heap.size w w'

set_option maxRecDepth 100000 in
set_option maxHeartbeats 2000000 in
theorem fread_any (w : World) (s : ByteArray) (hs : s.size ≤ 2 ^ 40) : Calls Tryz.prog 105 #[.string s] w (FrdR s w) := by
  go_enter Tryz.func105, Tryz.ntmps105
  go_wp2_with fail
  go_loopw [4, 5, 6] (fun a b c wr => ∃ (n k : Nat), k ≤ 4 ∧ k ≤ s.size ∧ n < 128 ^ k ∧ a = .int .i64 n ∧ b = .int .i64 ((128 ^ k : Nat) : Int) ∧ c = .int .i64 k ∧ Hid (Below w.heap.size w wr) ∧ Hid (firstF s = frF s (4 - k) k n)) (fun _ _ c _ => 4 - (intOf c).toNat)
  case atStart => exact ⟨0, 0, by omega, by omega, by omega, rfl, rfl, rfl, Below.refl _ _, rfl⟩
  case round =>
    obtain ⟨n, k, hk, hks, hn, rfl, rfl, rfl, HB, HF⟩ := hrel
    have pk : 128 ^ k ≤ 128 ^ 4 := Nat.pow_le_pow_right (by omega) hk
    by_cases c : k < s.size
    · have c' : (k : Int) < (s.size : Int) := by omega
      by_cases d : k < 4
      · have d' : (k : Int) < 4 := by omega
        have pk3 : 128 ^ k ≤ 128 ^ 3 := Nat.pow_le_pow_right (by omega) (by omega)
        have pk1 : 128 ^ (k + 1) = 128 * 128 ^ k := by rw [Nat.pow_succ, Nat.mul_comm]
        have HP1 := hid pk1
        have hf4 : 4 - k = (4 - (k + 1)) + 1 := by omega
        have HF2 : Hid (firstF s = if s[k].toNat < 128 then (n + s[k].toNat % 128 * 128 ^ k, s.extract (k + 1) s.size, decide (0 < s[k].toNat) || decide (k = 0)) else frF s (4 - (k + 1)) (k + 1) (n + s[k].toNat % 128 * 128 ^ k)) := by show _ = _; rw [HF.out, hf4, frF, dif_pos c]
        have pk4 : 128 ^ (k + 1) ≤ 128 ^ 4 := Nat.pow_le_pow_right (by omega) (by omega)
        clear pk1 hf4 HF
        have HP4 : Hid (128 * 128 ^ k ≤ 2 ^ 28) := by show _ ≤ _; rw [← HP1.out]; omega
        clear pk4
        generalize 128 ^ k = p at hn pk pk3 HP1 HF2 HP4 ⊢
        have hlt : n + s[k].toNat % 128 * p < 128 * p := fst_lt hn _
        have HLt := hid hlt
        clear hlt
        have h256 : s[k].toNat < 256 := s[k].toNat_lt
        have HV1 : Hid (128 ≤ s[k].toNat → wrap64 ((n : Int) + wrap64 (((s[k].toNat : Int) - 128) * (p : Int))) = ((n + s[k].toNat % 128 * p : Nat) : Int)) := fun q => rd_more hn pk3 q h256
        have HV2 : Hid (s[k].toNat < 128 → wrap64 ((n : Int) + wrap64 ((s[k].toNat : Int) * (p : Int))) = ((n + s[k].toNat % 128 * p : Nat) : Int)) := fun q => rd_last hn pk3 q
        by_cases e : 128 ≤ s[k].toNat
        · have e' : (128 : Int) ≤ (s[k].toNat : Int) := by omega
          have HF3 : Hid (firstF s = frF s (4 - (k + 1)) (k + 1) (n + s[k].toNat % 128 * p)) := by show _ = _; rw [HF2.out, if_neg (by omega)]
          clear HF2
          go_wp2
          refine ⟨⟨_, k + 1, by omega, by omega, ?_, by rw [← HV1.out e], by rw [HP1.out]; go_num, by go_num, HB, HF3⟩, by simp [intOf]; omega⟩
          rw [HP1.out]; exact HLt.out
        · have e' : ¬ (128 : Int) ≤ (s[k].toNat : Int) := by omega
          have HF3 : Hid (firstF s = (n + s[k].toNat % 128 * p, s.extract (k + 1) s.size, decide (0 < s[k].toNat) || decide (k = 0))) := by show _ = _; rw [HF2.out, if_pos (by omega)]
          clear HF2
          have HV := hid (HV2.out (by omega))
          clear HV1 HV2
          have HLt2 : Hid (n + s[k].toNat % 128 * p < 2 ^ 28) := Nat.lt_of_lt_of_le HLt.out HP4.out
          by_cases z : k = 0
          · have z' : ¬ (0 : Int) < (k : Int) := by omega
            have HZ : Hid (firstF s = (n + s[k].toNat % 128 * p, s.extract (k + 1) s.size, true)) := by show _ = _; rw [HF3.out]; simp [z]
            clear z HF3
            go_wp2_with fail
            go_ret2
            exact ⟨_, k + 1, by rw [← HV.out]; rfl, HLt2.out, Or.inr ⟨by omega, by omega, by omega, HZ.out⟩, HB.out⟩
          · have z' : (0 : Int) < (k : Int) := by omega
            by_cases f : s[k].toNat = 0
            · have f' : ((s[k].toNat : Int) == 0) = true := by simp [f]
              have HZ : Hid ((firstF s).2.2 = false) := by show _ = _; rw [HF3.out]; simp [z, f]
              clear HF3 HV HLt HLt2
              go_wp2_with fail
              go_ret2
              exact ⟨0, 0, rfl, by omega, Or.inl ⟨rfl, HZ.out⟩, HB.out⟩
            · have f' : ((s[k].toNat : Int) == 0) = false := by simp; omega
              have HZ : Hid (firstF s = (n + s[k].toNat % 128 * p, s.extract (k + 1) s.size, true)) := by show _ = _; rw [HF3.out]; simp; omega
              clear HF3
              go_wp2_with fail
              go_ret2
              exact ⟨_, k + 1, by rw [← HV.out]; rfl, HLt2.out, Or.inr ⟨by omega, by omega, by omega, HZ.out⟩, HB.out⟩
      · have d' : ¬ (k : Int) < 4 := by omega
        have HF3 : Hid (firstF s = (0, ⟨#[]⟩, false)) := by show _ = _; rw [HF.out, show 4 - k = 0 by omega, frF]
        clear HF
        go_wp2_with fail
        go_ret2
        exact ⟨0, 0, rfl, by omega, Or.inl ⟨rfl, by rw [HF3.out]⟩, HB.out⟩
    · have c' : ¬ (k : Int) < (s.size : Int) := by omega
      have HF3 : Hid (firstF s = (0, ⟨#[]⟩, false)) := by
        show _ = _
        rw [HF.out]
        cases 4 - k with
        | zero => rw [frF]
        | succ f => rw [frF, dif_neg c]
      clear HF
      go_wp2_with fail
      go_ret2
      exact ⟨0, 0, rfl, by omega, Or.inl ⟨rfl, by rw [HF3.out]⟩, HB.out⟩

/-- How long a text is. -/
def flen : Value → Nat
  | .string s => s.size
  | _ => 0

/-- What Numbers answers. -/
def FNumsR (s : ByteArray) (w : World) (e : Ending) (w' : World) : Prop :=
  ((numbersF s = none ∧ e = .returned (.tuple #[.slice none 0 0, .bool false])) ∨ (∃ v l, numbersF s = some l ∧ e = .returned (.tuple #[v, .bool true]) ∧ NumsAt w' w.heap.size v l ∧ l.length ≤ s.size)) ∧ Below w.heap.size w w'

theorem numsAt_nil (w : World) : NumsAt (w.alloc (.cells #[] 3)) w.heap.size (.slice (some ⟨w.heap.size, 0, none⟩) 0 0) [] := by
  refine ⟨?_, fun n hn => by simp at hn⟩
  have := World.ownsRow_lit (base := w.heap.size) (e := 3) (size := 1) w #[] 0 (Nat.le_refl _) (by unfold maxLen; omega) rfl
  simpa using this

set_option maxRecDepth 100000 in
set_option maxHeartbeats 2000000 in
theorem fnums_any (w : World) (s : ByteArray) (hs : s.size ≤ 2 ^ 40) : Calls Tryz.prog 81 #[.string s] w (FNumsR s w) := by
  obtain ⟨i3, q0, q1, q2, q3⟩ := info_parts Tryz.info3
  go_enter Tryz.func81, Tryz.ntmps81
  go_wp2_with fail
  go_loopw [0, 4] (fun a b wr => ∃ (t : ByteArray) (l : List Nat), a = .string t ∧ t.size + l.length ≤ s.size ∧ Hid (NumsAt wr w.heap.size b l) ∧ Hid (Below w.heap.size w wr) ∧ Hid (numbersF s = numsG t.size t l)) (fun a _ _ => flen a)
  case atStart => exact ⟨s, [], rfl, by simp, numsAt_nil w, (Below.refl _ _).alloc (Nat.le_refl _) _, rfl⟩
  case round =>
    obtain ⟨t, l, rfl, hl, hN, hB, HF⟩ := hrel
    have hsz := hB.out.size
    by_cases c : 0 < t.size
    · have c' : (0 : Int) < (t.size : Int) := by omega
      have HF2 : Hid (numbersF s = if (firstF t).2.2 = true then numsG (t.size - 1) (firstF t).2.1 (l ++ [(firstF t).1]) else none) := by
        show _ = _
        rw [HF.out, show t.size = (t.size - 1) + 1 by omega, numsG, if_pos (by omega)]
        simp
      clear HF
      go_wp2_with fail
      refine (fread_any _ t (by omega)).mono ?_
      rintro e w1 ⟨x, d, rfl, hx, hd, hb⟩
      have HB1 : Hid (Below w.heap.size w w1) := hB.out.trans (hb.mono hsz)
      have HN1 : Hid (NumsAt w1 w.heap.size u4 l) := ⟨owns_below hN.out.1 hb (Nat.le_refl _), hN.out.2⟩
      have hsz1 := HB1.out.size
      clear hb hN hB
      rcases hd with ⟨rfl, hd⟩ | ⟨d0, d4, ds, hd⟩
      · have HF3 : Hid (numbersF s = none) := by show _ = _; rw [HF2.out, hd]; simp
        clear HF2 hd
        go_wp2_with fail
        go_ret2
        exact ⟨Or.inl ⟨HF3.out, rfl⟩, HB1.out⟩
      · have es : (t.extract d t.size).size = t.size - d := by rw [ByteArray.size_extract]; omega
        have HF3 : Hid (numbersF s = numsG (t.extract d t.size).size (t.extract d t.size) (l ++ [x])) := by
          show _ = _
          rw [HF2.out, hd]
          simp only [if_true]
          exact numsG_fuel _ _ _ _ (by omega) (Nat.le_refl _)
        have HEs := hid es
        have HM : Hid (l.length + 1 ≤ maxLen) := by show _ ≤ _; unfold maxLen; omega
        have d1 : ((d : Int) == 0) = false := by simp; omega
        have d2 : (d : Int) ≤ (t.size : Int) := by omega
        clear HF2 hd es
        go_wp2_with (at_builtin; refine wpList_append_own _ rfl _ _ 25 rfl w.heap.size 3 i3 _ 1 8 Tryz.underlying25 q0 q1 q2 q3 rfl (by decide) _ l.length _ rfl (HN1.out.1.alloc _) ⟨w1.heap.size, 0, none⟩ 1 1 [.int .i64 x] rfl rfl (one_cell w1 _ _) (fun y hy => by simp at hy; subst hy; rfl) HM.out (by omega) (by simp; omega) ?_; intro v' w3 ho hg _)
        have R1 : NumsAt w3 w.heap.size v' (l ++ [x]) := by
          refine ⟨by rw [List.length_append, List.map_append]; exact ho, fun m hm => ?_⟩
          rcases List.mem_append.1 hm with q | q
          · exact HN1.out.2 m q
          · simp at q; subst q; exact hx
        have R2 : Below w.heap.size w w3 := (HB1.out.alloc hsz1 _).grown hg (by simp; omega) (fun k hk => (HN1.out.1.lt k hk).1)
        exact ⟨⟨t.extract d t.size, l ++ [x], by trivial, by rw [List.length_append, HEs.out]; simp; omega, R1, R2, HF3⟩, by show (t.extract d t.size).size < t.size; rw [HEs.out]; omega⟩
    · have c' : ¬ (0 : Int) < (t.size : Int) := by omega
      have HF3 : Hid (numbersF s = some l) := by show _ = _; rw [HF.out, show t.size = 0 by omega, numsG]
      clear HF
      go_wp2_with fail
      go_ret2
      exact ⟨Or.inr ⟨_, l, HF3.out, rfl, hN.out, by omega⟩, hB.out⟩

theorem ext_ext (s : ByteArray) (d i j : Nat) (h : d + j ≤ s.size) : (s.extract d s.size).extract i j = s.extract (d + i) (d + j) := by
  apply bl_inj
  have tk : (bl s).take s.size = bl s := by rw [← bl_len]; exact List.take_length
  rw [bl_ext, bl_ext, bl_ext, tk, List.take_drop, List.drop_drop]
theorem ext_tail (s : ByteArray) (d i : Nat) (h : d ≤ s.size) : (s.extract d s.size).extract i (s.extract d s.size).size = s.extract (d + i) s.size := by
  have e : (s.extract d s.size).size = s.size - d := by rw [ByteArray.size_extract]; omega
  rw [e, ext_ext s d i (s.size - d) (by omega), show d + (s.size - d) = s.size by omega]

theorem toL_iff {a b : ByteArray} : a.toList = b.toList ↔ a = b := by
  rw [ByteArray.toList_eq, ByteArray.toList_eq]
  exact ⟨fun h => ByteArray.ext (Array.toList_inj.1 h), fun h => by rw [h]⟩

/-- '[]byte(s)'. -/
theorem fconv (w : World) (s : ByteArray) : ∃ (cap : Nat) (wB : World), (convert 9 106 (.string s)).run Tryz.prog w = .ok (.slice (some ⟨w.heap.size, 0, none⟩) s.size cap) wB ∧ s.size ≤ cap ∧ w.heap.size < wB.heap.size ∧ Below w.heap.size w wB ∧ ∀ j, j < s.size → wB.cell? ⟨w.heap.size, j, none⟩ = some (.int .u8 (byteAt s j : Int)) := by
  have hcell := fun j hj => Go.Lib.bytesWorld_cell w 5 s j hj
  refine ⟨_, _, Go.Lib.run_convert_string_bytes (P := Tryz.prog) w 9 106 5 s (u := .string) (by kernel_rfl) (by kernel_rfl) (by kernel_rfl), ?_, by rw [Go.Lib.bytesWorld_size]; omega, ⟨rfl, rfl, rfl, by rw [Go.Lib.bytesWorld_size]; omega, fun k hk => Go.Lib.bytesWorld_at_old w _ s k hk⟩, fun j hj => ?_⟩
  · exact grownCap_ge _ _ _ _
  · rw [hcell j hj, byteAt, dif_pos hj]
    have hj' : j < s.data.size := hj
    rw [List.getD_eq_getElem?_getD, Array.getElem?_toList, Array.getElem?_eq_getElem hj']
    rfl

/-- What Split answers. -/
def SplitR (t : ByteArray) (w : World) (e : Ending) (w' : World) : Prop :=
  ((partF t = none ∧ e = .returned (.tuple #[.string ⟨#[]⟩, .string ⟨#[]⟩, .bool false])) ∨ (∃ x : ByteArray × ByteArray, partF t = some x ∧ e = .returned (.tuple #[.string x.1, .string x.2, .bool true]) ∧ x.1.size + x.2.size ≤ t.size)) ∧ Below w.heap.size w w'

set_option maxRecDepth 100000 in
set_option maxHeartbeats 4000000 in
theorem fsplit_any (w : World) (t : ByteArray) (hs : t.size ≤ 1000000000) : Calls Tryz.prog 80 #[.string t] w (SplitR t w) := by
  go_enter Tryz.func80, Tryz.ntmps80
  go_wp2_with fail
  refine (fread_any w t (by omega)).mono ?_
  rintro e w1 ⟨n, d, rfl, hn, hd, hb1⟩
  have HB1 := hid hb1
  clear hb1
  rcases hd with ⟨rfl, hd⟩ | ⟨d0, d4, ds, hd⟩
  · have HP : Hid (partF t = none) := by show _ = _; rw [partF, if_neg (fun q => by rw [hd] at q; simp at q)]
    clear hd
    go_wp2_with fail
    go_ret3
    exact ⟨Or.inl ⟨HP.out, rfl⟩, HB1.out⟩
  · have d1 : ((d : Int) == 0) = false := by simp; omega
    have es : (t.extract d t.size).size = t.size - d := by rw [ByteArray.size_extract]; omega
    by_cases c : d + n + 4 ≤ t.size
    · have HPt : Hid (partF t = if sumB (t.extract d (d + n)) = t.extract (d + n) (d + n + 4) then some (t.extract d (d + n), t.extract (d + n + 4) t.size) else none) := by
        show _ = _
        have x1 := ext_ext t d 0 n (by omega)
        have x2 := ext_ext t d n (n + 4) (by omega)
        have x3 := ext_tail t d (n + 4) ds
        rw [Nat.add_zero] at x1
        rw [← Nat.add_assoc] at x2 x3
        rw [partF, hd]
        rw [es] at x3
        simp only [x1, x2, es]
        rw [x3]
        by_cases q : sumB (t.extract d (d + n)) = t.extract (d + n) (d + n + 4)
        · rw [if_pos q, if_pos ⟨trivial, by omega, q⟩]
        · rw [if_neg q, if_neg (fun p => q p.2.2)]
      have c1 : ¬ (t.size : Int) - (d : Int) - 4 < (n : Int) := by omega
      have c2 : IntKind.i64.wrap ((t.size : Int) - (d : Int)) = (t.size : Int) - d := by rw [IntKind.wrap_i64]; omega
      have c3 : IntKind.i64.wrap ((t.size : Int) - (d : Int) - 4) = (t.size : Int) - d - 4 := by rw [IntKind.wrap_i64]; omega
      have c4 : IntKind.i64.wrap ((d : Int) + (n : Int)) = ((d + n : Nat) : Int) := by rw [IntKind.wrap_i64]; omega
      have c5 : IntKind.i64.wrap (((d + n : Nat) : Int) + 4) = ((d + n + 4 : Nat) : Int) := by rw [IntKind.wrap_i64]; omega
      have es2 : (t.extract d (d + n)).size = n := by rw [ByteArray.size_extract]; omega
      have es3 : (t.extract (d + n + 4) t.size).size = t.size - (d + n + 4) := by rw [ByteArray.size_extract]; omega
      have HEs := hid (And.intro es2 es3)
      clear hd es
      go_wp2_with fail
      generalize t.extract d (d + n) = ct at HPt HEs ⊢
      obtain ⟨cap, wB, hcv, hcap, hlt, hbB, hcell⟩ := fconv w1 ct
      have HBB := hid hbB
      have HCe := hid hcell
      clear hbB hcell
      rw [hcv]
      clear hcv
      go_wp2_with fail
      refine (seal_any wB w1.heap.size cap ct (by have := HEs.out.1; omega) hlt hcap HCe.out).mono ?_
      rintro e w2 ⟨v2, rfl, hS2, hb2⟩
      have s4 := sumB_size ct
      obtain ⟨sg, sc, hs1, hs2, hs3, hs4, hs5, _, hs7⟩ := hS2.at_ (by omega)
      have hcv2 := fun m => bytes_conv (w2.drewN m) sg sc (sumB ct) hs7
      have hcv3 := bytes_conv w2 sg sc (sumB ct) hs7
      have hcv4 := bytes_conv w2.drew sg sc (sumB ct) hs7
      subst hs1
      have HB2 : Hid (Below w.heap.size w w2) := HB1.out.trans ((HBB.out.trans (hb2.mono HBB.out.size)).mono HB1.out.size)
      clear hS2 hb2 hs7 hs4 s4
      generalize sumB ct = sm at HPt hcv2 hcv3 hcv4 ⊢
      have f1 : (d : Int) + (n : Int) ≤ (d : Int) + (n : Int) + 4 := by omega
      have f2 : (d : Int) + (n : Int) + 4 ≤ (t.size : Int) := by omega
      have f3 : (0 : Int) ≤ (d : Int) + (n : Int) := by omega
      have f4 : ((d : Int) + (n : Int)).toNat = d + n := by omega
      have f5 : ((d : Int) + (n : Int) + 4).toNat = d + n + 4 := by omega
      have f6 : IntKind.i64.wrap ((d : Int) + (n : Int) + 4) = (d : Int) + (n : Int) + 4 := by rw [IntKind.wrap_i64]; omega
      have f7 : ((d : Int) + (n : Int) + 4) ≤ (t.size : Int) ∧ (0 : Int) ≤ (d : Int) + (n : Int) + 4 := by omega
      obtain ⟨bd, hbd⟩ : ∃ bd, bd = (!(t.extract (d + n) (d + n + 4)).toList == sm.toList) := ⟨_, rfl⟩
      have HQ : Hid (bd = false ↔ sm = t.extract (d + n) (d + n + 4)) := by
        show _ ↔ _
        rw [hbd]
        constructor
        · intro q
          have := toL_iff.1 (show (t.extract (d + n) (d + n + 4)).toList = sm.toList by simpa using q)
          exact this.symm
        · intro q
          rw [q]; simp
      cases bd with
      | true =>
        have cb := hbd.symm
        have HP : Hid (partF t = none) := by show _ = _; rw [HPt.out, if_neg (fun q => by have := HQ.out.2 q; simp at this)]
        clear hbd HPt HQ
        go_wp2_with fail
        go_region
        all_goals
          go_wp2_with fail
          go_ret3
          exact ⟨Or.inl ⟨HP.out, rfl⟩, Below.drew HB2.out⟩
      | false =>
        have cb := hbd.symm
        have HP : Hid (partF t = some (ct, t.extract (d + n + 4) t.size)) := by show _ = _; rw [HPt.out, if_pos (HQ.out.1 rfl)]
        have HL : Hid (ct.size + (t.extract (d + n + 4) t.size).size ≤ t.size) := by show _ ≤ _; have := HEs.out; omega
        clear hbd HPt HQ
        go_wp2_with fail
        go_region
        all_goals
          go_wp2_with fail
          go_region
          all_goals
            go_wp2_with fail
            go_ret3
            exact ⟨Or.inr ⟨_, HP.out, rfl, HL.out⟩, Below.drew (Below.drew HB2.out)⟩
    · have HP : Hid (partF t = none) := by
        show _ = _
        rw [partF, hd]
        simp only
        rw [es, if_neg (fun q => by omega)]
      have c1 : (t.size : Int) - (d : Int) - 4 < (n : Int) := by omega
      have c2 : IntKind.i64.wrap ((t.size : Int) - (d : Int)) = (t.size : Int) - d := by rw [IntKind.wrap_i64]; omega
      have c3 : IntKind.i64.wrap ((t.size : Int) - (d : Int) - 4) = (t.size : Int) - d - 4 := by rw [IntKind.wrap_i64]; omega
      clear hd es
      go_wp2_with fail
      go_ret3
      exact ⟨Or.inl ⟨HP.out, rfl⟩, HB1.out⟩

end Go.Proofs.YtckallochdegiaaGreat
namespace Go.Proofs.YtckallochdegiaaGreat
set_option linter.unusedVariables false
set_option linter.unusedSimpArgs false
open Go.RowKit

/-- Lay, m vertices taken. -/
def layM (R : Nat → List Itm) (ms : List Nat) : Nat → List Itm := fun z => if z ∈ ms then [] else R z

theorem nums_at {w : World} {B : Nat} {v : Value} {l : List Nat} (h : NumsAt w B v l) : v = .slice none 0 0 ∧ l = [] ∨ ∃ g c, v = .slice (some ⟨g, 0, none⟩) l.length c ∧ g < w.heap.size ∧ B ≤ g ∧ l.length ≤ c ∧ c ≤ maxLen ∧ ∀ j, j < l.length → w.cell? ⟨g, j, none⟩ = some (.int .i64 ((l[j]?.getD 0 : Nat) : Int)) := by
  by_cases c : 0 < l.length
  · obtain ⟨g, c, h1, h2, h3, h4, h5, _, h7⟩ := h.at_ c
    exact Or.inr ⟨g, c, h1, h2, h3, h4, h5, h7⟩
  · have e : l = [] := List.eq_nil_of_length_eq_zero (by omega)
    subst e
    rcases h.1.2 with ⟨k1, _⟩ | ⟨g, cap, cur, k1, k2, k3, k4, k5, _⟩
    · exact Or.inl ⟨k1, rfl⟩
    · exact Or.inr ⟨g, cap, k1, (Array.getElem?_eq_some_iff.1 k3).1, k2, k4, k5, fun j hj => by simp at hj⟩

set_option maxRecDepth 100000 in
set_option maxHeartbeats 2000000 in
theorem Lay_any (w : World) (b o : Nat) (F : Nat → Value) (R : Nat → List Itm) (lb lo lc : Nat) (l : List Itm) (f : Nat) (h : Fo w b o F R) (hp : PAt w (.slice (some ⟨lb, lo, none⟩) l.length lc) l lb lo lc) (hf : f < 48) (hl : PLeast l f) (hlen : l.length ≤ 3000)
    (hok : ∀ x, x ∈ l → 0 ≤ x.1 ∧ x.1 < 48) (hnd : (vtxs l).Nodup) (hal : ∀ v, v ∈ vtxs l → R v = [((v : Int), (v : Int))] ∧ ∀ z, z ≠ v → ((v : Int), (v : Int)) ∉ R z) :
    Calls Tryz.prog 109 #[ptrA b o, .slice (some ⟨lb, lo, none⟩) l.length lc] w (LnkR w b o F (fun z => if z = f then fromX l (f, f) else if z ∈ vtxs l then [] else R z)) := by
  have HF := hid h
  have HP := hid hp
  have HL := hid hl
  have HOk := hid hok
  have HNd := hid hnd
  have HAl := hid hal
  have HV48 : Hid (∀ v, v ∈ vtxs l → v < 48) := fun v hv => by
    simp only [vtxs, List.mem_map, List.mem_filter] at hv
    obtain ⟨x, ⟨hx, _⟩, rfl⟩ := hv
    have := hok x hx; omega
  clear h hp hl hok hnd hal
  go_enter Tryz.func109, Tryz.ntmps109
  go_wp2_with fail
  refine (Vertices_any w lb lo lc l HP.out hlen HOk.out).mono ?_
  rintro e w1 ⟨val, rfl, hn, hb1⟩
  have HN := hid hn
  have HB1 := hid hb1
  have HF1 := hid (HF.out.below hb1)
  have HP1 := hid (HP.out.below hb1 (Nat.le_refl _))
  have hVl : (vtxs l).length ≤ 3000 := Nat.le_trans (vtxs_le l) hlen
  have hpos : 0 < (vtxs l).length := by
    have m := HL.out.1
    refine List.length_pos_of_mem (a := f) ?_
    simp only [vtxs, List.mem_map, List.mem_filter]
    exact ⟨_, ⟨m, by simp⟩, by simp⟩
  obtain ⟨ms, hms⟩ : ∃ ms, ms = vtxs l := ⟨_, rfl⟩
  rw [← hms] at hVl HN HV48 HAl HNd hpos
  have HMs := hid hms
  clear hn hb1 hms
  rcases nums_at HN.out with ⟨_, e0⟩ | ⟨g, c, rfl, hg, hBg, hc1, hc2, hcell⟩
  · rw [e0] at hpos; simp at hpos
  have HCe := hid hcell
  unfold maxLen at hc2
  clear hcell
  have hgb : Hid (¬ g = b) := by show ¬ g = b; have := HF.out.row.lt; omega
  go_wp2_with fail
  go_loopw [11] (fun q wr => ∃ m : Nat, m ≤ ms.length ∧ q = .int .i64 m ∧ Hid (∃ F', Fo wr b o F' (layM R (ms.take m)) ∧ Frm o F F') ∧ Hid (But (fun k => k = b) w1 wr)) (fun q _ => ms.length - (intOf q).toNat)
  case atStart => exact ⟨0, by omega, rfl, ⟨F, HF1.out.congr (fun z _ => by simp [layM]), Frm.refl _ _⟩, But.refl _ _⟩
  case round =>
    obtain ⟨m, hm, rfl, hX, hB⟩ := hrel
    by_cases cm : m < ms.length
    · have cm' : (m : Int) < (ms.length : Int) := by omega
      have d : wr.cell? ⟨g, m, none⟩ = some (.int .i64 ((ms[m]?.getD 0 : Nat) : Int)) := by
        rw [World.cell?_of_block (w := w1) (a := ⟨g, m, none⟩) (hB.out.block g hg hgb.out)]
        exact HCe.out m cm
      have hv : ms[m]?.getD 0 = ms[m] := by rw [List.getElem?_eq_getElem cm]; rfl
      have hmem : ms[m]?.getD 0 ∈ ms := by rw [hv]; exact List.getElem_mem cm
      have hnin : ms[m]?.getD 0 ∉ ms.take m := by
        rw [hv]
        intro q
        obtain ⟨j, hj, e⟩ := List.mem_take_iff_getElem.1 q
        exact (List.pairwise_iff_getElem.1 HNd.out) j m (by omega) cm (by omega) e
      have hstep : ∀ z, z ∈ ms.take (m + 1) ↔ z ∈ ms.take m ∨ z = ms[m]?.getD 0 := by
        intro z
        rw [List.take_succ_eq_append_getElem cm, List.mem_append, hv]; simp
      have h48 := HV48.out _ hmem
      have al := HAl.out _ hmem
      have HSt := hid hstep
      have HNi := hid hnin
      have HAl2 := hid al
      generalize ms[m]?.getD 0 = v at d h48 HSt HNi HAl2
      clear hv hmem hnin hstep al
      obtain ⟨F', x1, x2⟩ := hX.out
      have HX1 := hid x1
      have HX2 := hid x2
      clear hX x1 x2
      go_wp2_with fail
      refine (take_any wr b o F' (layM R (ms.take m)) v v v HX1.out h48 (by simp only [layM]; rw [if_neg HNi.out, HAl2.out.1]; simp) (fun z hz => by
        simp only [layM]
        split
        · simp
        · exact HAl2.out.2 z (by omega)) (by simp only [layM]; rw [if_neg HNi.out, HAl2.out.1]; simp)).mono ?_
      rintro e w2 ⟨val, rfl, -, hf2, hb2⟩
      have HF2 : Hid (∃ F', Fo w2 b o F' (layM R (ms.take (m + 1))) ∧ Frm o F F') := by
        refine ⟨_, hf2.congr (fun z _ => ?_), HX2.out.trans (fun j hj => ?_)⟩
        · simp only [layM]
          by_cases c : z = v
          · rw [if_pos c, if_pos ((HSt.out z).2 (Or.inr c))]
          · rw [if_neg c]
            by_cases e : z ∈ ms.take m
            · rw [if_pos e, if_pos ((HSt.out z).2 (Or.inl e))]
            · rw [if_neg e, if_neg (fun q => ((HSt.out z).1 q).elim e c)]
        · show (if j = o + v then _ else F' j) = F' j
          rw [if_neg (by omega)]
      have HB2 : Hid (But (fun k => k = b) w1 w2) := hB.out.same hb2
      clear hf2 hb2
      go_wp2
      exact ⟨⟨m + 1, by omega, by go_num, HF2, HB2⟩, by simp [intOf]; omega⟩
    · have hme : m = ms.length := by omega
      subst hme
      obtain ⟨F', x1, x2⟩ := hX.out
      rw [List.take_length] at x1
      have HX1 := hid x1
      have HX2 := hid x2
      clear hX x1 x2
      have HP2 : Hid (PAt wr (.slice (some ⟨lb, lo, none⟩) l.length lc) l lb lo lc) := HP1.out.block (hB.out.block lb HP1.out.lt (fun q => HF1.out.noIt lb q HP1.out.lt HP1.out.ty))
      go_wp2_with fail
      refine (put_any wr b o F' (layM R ms) lb lo lc l f HX1.out HP2.out hf HL.out (by omega)).mono ?_
      rintro e w3 ⟨F3, rfl, hf3, hm3, hb3⟩
      have HR : Hid (LnkR w b o F (fun z => if z = f then fromX l (f, f) else if z ∈ vtxs l then [] else R z) (.returned (.tuple #[])) w3) := by
        refine ⟨F3, rfl, hf3.congr (fun z _ => ?_), HX2.out.trans hm3, ((But.of HB1.out).trans (S' := fun k => k = b) hB.out (fun _ _ q => q)).same hb3⟩
        rw [← HMs.out]; rfl
      clear hf3 hm3 hb3
      go_wp2_with fail
      go_end0
      exact HR.out

end Go.Proofs.YtckallochdegiaaGreat
namespace Go.Proofs.YtckallochdegiaaGreat
set_option linter.unusedVariables false
set_option linter.unusedSimpArgs false
open Go.RowKit

/-- A row that one owns stays where blocks of its type are left alone. -/
theorem rowns_but {w w' : World} {B n t sz : Nat} {v : Value} {xs : List Value} {S : Nat → Prop} (h : w.ownsRow B t sz v n xs) (k : But S w w') (hS : ∀ q, S q → q < w.heap.size → ¬ TyAt w q t) : w'.ownsRow B t sz v n xs := by
  refine ⟨h.1, ?_⟩
  rcases h.2 with q | ⟨g, cap, cur, hv, hB, hg, hle⟩
  · exact Or.inl q
  · exact Or.inr ⟨g, cap, cur, hv, hB, by rw [k.block g (Array.getElem?_eq_some_iff.1 hg).1 (fun q => hS g q (Array.getElem?_eq_some_iff.1 hg).1 ⟨cur, hg⟩)]; exact hg, hle⟩
theorem nums_but {w w' : World} {B : Nat} {v : Value} {l : List Nat} {S : Nat → Prop} (h : NumsAt w B v l) (k : But S w w') (hS : ∀ q, S q → q < w.heap.size → ¬ TyAt w q 3) : NumsAt w' B v l := ⟨rowns_but h.1 k hS, h.2⟩

/-- A reader: its numbers' slice v, k of them read. -/
def Rdr (w : World) (rb : Nat) (v : Value) (k : Nat) : Prop := ∃ F, w.rowIs rb 125 2 F ∧ F 0 = v ∧ F 1 = .int .i64 k

section
variable {w w' : World} {rb k : Nat} {v : Value}
theorem Rdr.lt (h : Rdr w rb v k) : rb < w.heap.size := by obtain ⟨F, h, _⟩ := h; exact h.lt
theorem Rdr.ty (h : Rdr w rb v k) : TyAt w rb 125 := by obtain ⟨F, h, _⟩ := h; exact rowIs_ty h
theorem Rdr.but {S : Nat → Prop} (h : Rdr w rb v k) (b : But S w w') (hS : ¬ S rb) : Rdr w' rb v k := by
  obtain ⟨F, h1, h2⟩ := h
  exact ⟨F, row_but h1 b hS, h2⟩
theorem Rdr.below (h : Rdr w rb v k) (b : Below w.heap.size w w') : Rdr w' rb v k := h.but (S := fun _ => False) (But.of b) (fun q => q)
theorem Rdr.set (h : Rdr w rb v k) (k' : Nat) : Rdr (w.setCell ⟨rb, 1, none⟩ (.int .i64 k')) rb v k' := by
  obtain ⟨F, h1, h2, h3⟩ := h
  exact ⟨_, h1.set _ _, by rw [if_neg (by omega)]; exact h2, by rw [if_pos rfl]⟩
end

/-- What next answers. -/
def NextR (rb : Nat) (v : Value) (ts : List Nat) (k : Nat) (w : World) (e : Ending) (w' : World) : Prop :=
  ((k < ts.length ∧ e = .returned (.int .i64 ((ts[k]?.getD 0 : Nat) : Int)) ∧ Rdr w' rb v (k + 1)) ∨ (ts.length ≤ k ∧ e = .returned (.int .i64 (-1)) ∧ Rdr w' rb v k)) ∧ But (fun q => q = rb) w w'

set_option maxRecDepth 100000 in
set_option maxHeartbeats 2000000 in
theorem rnext_any (w : World) (rb B : Nat) (v : Value) (ts : List Nat) (k : Nat) (h : Rdr w rb v k) (hn : NumsAt w B v ts) (hk : k ≤ 2 ^ 40) (hl : ts.length ≤ 2 ^ 40) : Calls Tryz.prog 106 #[ptr rb] w (NextR rb v ts k w) := by
  have HR := hid h
  obtain ⟨F, h1, h2, h3⟩ := h
  have c0 := h1.cell (i := 0) (by omega)
  have c1 := h1.cell (i := 1) (by omega)
  have fz := h1.frozen
  rw [h2] at c0
  rw [h3] at c1
  by_cases c : k < ts.length
  · obtain ⟨g, cc, rfl, hg, _, hc1, hc2, _, hcell⟩ := hn.at_ (show 0 < ts.length by omega)
    have d := hcell k c
    have c' : (k : Int) < (ts.length : Int) := by omega
    unfold maxLen at hc2
    clear h1 h2 h3 hcell hn
    generalize hx : ts[k]?.getD 0 = x at d
    have HX := hid hx
    clear hx
    go_enter Tryz.func106, Tryz.ntmps106
    go_wp2_with fail
    go_quiet (fail)
    go_wp2_with fail
    go_quiet (fail)
    go_wp2
    go_ret
    have hd : ∀ m, Below w.heap.size w (w.drewN m) := fun m => Below.drewN' _ (Below.refl _ _)
    exact ⟨Or.inl ⟨c, by rw [HX.out]; rfl, (HR.out.below (hd _)).set (k + 1)⟩, (But.of (S := fun q => q = rb) (hd _)).same (But.setCell _ ⟨rb, 1, none⟩ (.int .i64 ((k + 1 : Nat) : Int)))⟩
  · rcases nums_at hn with ⟨rfl, rfl⟩ | ⟨g, cc, rfl, hg, _, hc1, hc2, _⟩
    · have c' : (0 : Int) ≤ (k : Int) := by omega
      clear h1 h2 h3 hn
      go_enter Tryz.func106, Tryz.ntmps106
      go_wp2_with fail
      go_quiet (fail)
      go_wp2
      go_ret
      exact ⟨Or.inr ⟨by simp, rfl, HR.out.below (Below.drewN' _ (Below.refl _ _))⟩, But.of (Below.drewN' _ (Below.refl _ _))⟩
    · have c' : (ts.length : Int) ≤ (k : Int) := by omega
      unfold maxLen at hc2
      clear h1 h2 h3 hn
      go_enter Tryz.func106, Tryz.ntmps106
      go_wp2_with fail
      go_quiet (fail)
      go_wp2
      go_ret
      exact ⟨Or.inr ⟨by omega, rfl, HR.out.below (Below.drewN' _ (Below.refl _ _))⟩, But.of (Below.drewN' _ (Below.refl _ _))⟩

/-- The items seen. -/
def Sn (w : World) (sb : Nat) (sn : Nat → Nat → Bool) : Prop := ∃ F, w.rowIs sb 143 2304 F ∧ ∀ a c, a < 48 → c < 48 → F (a * 48 + c) = .bool (sn a c)
section
variable {w w' : World} {sb : Nat} {sn : Nat → Nat → Bool}
theorem Sn.lt (h : Sn w sb sn) : sb < w.heap.size := by obtain ⟨F, h, _⟩ := h; exact h.lt
theorem Sn.ty (h : Sn w sb sn) : TyAt w sb 143 := by obtain ⟨F, h, _⟩ := h; exact rowIs_ty h
theorem Sn.but {S : Nat → Prop} (h : Sn w sb sn) (b : But S w w') (hS : ¬ S sb) : Sn w' sb sn := by
  obtain ⟨F, h1, h2⟩ := h
  exact ⟨F, row_but h1 b hS, h2⟩
theorem Sn.below (h : Sn w sb sn) (b : Below w.heap.size w w') : Sn w' sb sn := h.but (S := fun _ => False) (But.of b) (fun q => q)
def sn1 (sn : Nat → Nat → Bool) (a c : Nat) : Nat → Nat → Bool := fun x y => if x = a ∧ y = c then true else sn x y
theorem Sn.set (h : Sn w sb sn) {a c : Nat} (ha : a < 48) (hc : c < 48) : Sn (w.setCell ⟨sb, a * 48 + c, none⟩ (.bool true)) sb (sn1 sn a c) := by
  obtain ⟨F, h1, h2⟩ := h
  refine ⟨_, h1.set _ _, fun x y hx hy => ?_⟩
  simp only [sn1]
  by_cases e : x = a ∧ y = c
  · obtain ⟨rfl, rfl⟩ := e
    rw [if_pos rfl, if_pos ⟨rfl, rfl⟩]
  · rw [if_neg (by omega), if_neg e]; exact h2 x y hx hy
end

set_option maxRecDepth 100000 in
set_option maxHeartbeats 2000000 in
theorem see_any (w : World) (sb : Nat) (sn : Nat → Nat → Bool) (a c : Nat) (h : Sn w sb sn) (ha : a < 48) (hc : c < 48) :
    Calls Tryz.prog 123 #[ptr sb, .agg #[.int .i64 a, .int .i64 c]] w fun e w' => e = .returned (.bool (!sn a c)) ∧ Sn w' sb (sn1 sn a c) ∧ But (fun q => q = sb) w w' := by
  have HS := hid h
  obtain ⟨F, h1, h2⟩ := h
  have d := h1.cell (i := a * 48 + c) (by omega)
  rw [h2 a c ha hc] at d
  have fz := h1.frozen
  have hlt := h1.lt
  have ha' : (a : Int) < 48 := by omega
  have hc' : (c : Int) < 48 := by omega
  clear h1 h2
  go_enter Tryz.func123, Tryz.ntmps123
  go_wp2_with fail
  go_quiet (fail)
  have HD : Hid (∀ m ob, Below w.heap.size w ((w.alloc ob).drewN m)) := fun m ob => Below.drewN' _ ((Below.refl _ _).alloc (Nat.le_refl _) ob)
  go_wp2_with fail
  go_region
  go_wp2
  go_ret
  exact ⟨rfl, (HS.out.below (HD.out _ _)).set ha hc, (But.of (S := fun q => q = sb) (HD.out _ _)).same (But.setCell _ ⟨sb, a * 48 + c, none⟩ (.bool true))⟩

set_option maxRecDepth 100000 in
set_option maxHeartbeats 2000000 in
theorem isWay_any (w : World) (b n : Nat) (E : Nat → Nat → E3) (R : Nat → Nat → List Itm) (r : Int) (F : Nat → Value) (u v i : Nat) (h : IdxP w b n E R r F) (hu : u < 48) (hv : v < 48) :
    Calls Tryz.prog 122 #[ptr b, .int .i64 u, .int .i64 v, .int .i64 i] w fun e w' => e = .returned (.bool ((E u v).2.1 && decide ((i : Int) ≤ (E u v).2.2))) ∧ Below w.heap.size w w' := by
  have hlt := h.row.lt
  have c0 := h.c0 u v hu hv
  have c1 := h.c1 u v hu hv
  have c2 := h.c2 u v hu hv
  have hu' : (u : Int) < 48 := by omega
  have hv' : (v : Int) < 48 := by omega
  clear h
  generalize E u v = e at c0 c1 c2
  obtain ⟨e1, e2, e3⟩ := e
  simp only at c0 c1 c2 ⊢
  cases e2
  · go_enter Tryz.func122, Tryz.ntmps122
    go_wp2_with fail
    go_ret
    exact ⟨rfl, (Below.refl _ _).alloc (Nat.le_refl _) _⟩
  · go_enter Tryz.func122, Tryz.ntmps122
    go_wp2_with fail
    go_ret
    exact ⟨by simp, (Below.refl _ _).alloc (Nat.le_refl _) _⟩

end Go.Proofs.YtckallochdegiaaGreat
namespace Go.Proofs.YtckallochdegiaaGreat
set_option linter.unusedVariables false
set_option linter.unusedSimpArgs false
open Go.RowKit

theorem rlk_app (ds es : List Nat) : ∀ a, wlk a (ds ++ es) = wlk a ds ++ wlk (wend a ds) es ∧ wend a (ds ++ es) = wend (wend a ds) es := by
  induction ds with
  | nil => intro a; exact ⟨rfl, rfl⟩
  | cons d ds ih =>
    intro a
    have := ih (if 0 < d then (d : Int) - 1 else a)
    rw [List.cons_append, wlk, wlk, wend, wend, this.1, this.2]
    exact ⟨rfl, rfl⟩
theorem rtake_more {r : List Nat} {j : Nat} (h : j < r.length) : r.take (j + 1) = r.take j ++ [r[j]?.getD 0] := by
  rw [List.take_succ_eq_append_getElem h, List.getElem?_eq_getElem h]; rfl
theorem rlk_step {r : List Nat} {j : Nat} (a : Int) (h : j < r.length) : wlk a (r.take (j + 1)) = wlk a (r.take j) ++ [(wend a (r.take j), ((r[j]?.getD 0 : Nat) : Int) - 1)] ∧ wend a (r.take (j + 1)) = if 0 < r[j]?.getD 0 then ((r[j]?.getD 0 : Nat) : Int) - 1 else wend a (r.take j) := by
  rw [rtake_more h]
  have := rlk_app (r.take j) [r[j]?.getD 0] a
  rw [this.1, this.2]
  exact ⟨rfl, rfl⟩
/-- An item that was read stands in the round. -/
theorem rlk_mem {r : List Nat} {j m : Nat} (a : Int) (h : j < r.length) (hm : j < m) : (wend a (r.take j), ((r[j]?.getD 0 : Nat) : Int) - 1) ∈ wlk a (r.take m) := by
  have e : r.take m = r.take (j + 1) ++ (r.take m).drop (j + 1) := by
    have := (List.take_append_drop (j + 1) (r.take m)).symm
    rw [List.take_take, Nat.min_eq_left (by omega)] at this
    exact this
  rw [e, (rlk_app _ _ a).1, (rlk_step a h).1]
  simp

section
variable {N f z : Nat} {r : List Nat}
theorem rrF_no (h : ¬ (f < N ∧ 2 ≤ z ∧ z ≤ N)) : rrF N (f :: z :: r) = none := by
  rw [rrF, if_neg (fun q => h ⟨q.1, q.2.1, q.2.2.1⟩)]
theorem rrF_short (h : ¬ 3 * z - 3 ≤ r.length) : rrF N (f :: z :: r) = none := by
  rw [rrF, if_neg (fun q => h q.2.2.2.1)]
theorem rrF_item {j : Nat} (hj : j < r.length) (hm : j < 3 * z - 3) (h : ¬ OkN N (wend f (r.take j), ((r[j]?.getD 0 : Nat) : Int) - 1)) : rrF N (f :: z :: r) = none := by
  rw [rrF, if_neg (fun q => h (q.2.2.2.2.1 _ (rlk_mem _ hj hm)))]
theorem rrF_end (h : ¬ wend f (r.take (3 * z - 3)) = f) : rrF N (f :: z :: r) = none := by
  rw [rrF, if_neg (fun q => h q.2.2.2.2.2)]
theorem rrF_yes (h1 : f < N) (h2 : 2 ≤ z) (h3 : z ≤ N) (h4 : 3 * z - 3 ≤ r.length) (h5 : ∀ x, x ∈ wlk f (r.take (3 * z - 3)) → OkN N x) (h6 : wend f (r.take (3 * z - 3)) = f) : rrF N (f :: z :: r) = some (((f : Int), (-1 : Int)) :: wlk f (r.take (3 * z - 3)), r.drop (3 * z - 3)) := by
  rw [rrF, if_pos ⟨h1, h2, h3, h4, h5, h6⟩]
end

/-- next, its answer a number. -/
theorem next_x (w : World) (rb B : Nat) (v : Value) (ts : List Nat) (k : Nat) (h : Rdr w rb v k) (hn : NumsAt w B v ts) (hk : k ≤ 2 ^ 40) (hl : ts.length ≤ 2 ^ 40) :
    Calls Tryz.prog 106 #[ptr rb] w fun e w' => ∃ (x : Int) (k' : Nat), e = .returned (.int .i64 x) ∧ x < 2 ^ 28 ∧ ((k < ts.length ∧ k' = k + 1 ∧ x = ((ts[k]?.getD 0 : Nat) : Int)) ∨ (ts.length ≤ k ∧ k' = k ∧ x = -1)) ∧ Rdr w' rb v k' ∧ But (fun q => q = rb) w w' := by
  refine (rnext_any w rb B v ts k h hn hk hl).mono ?_
  rintro e w' ⟨h1 | h1, h2⟩
  · refine ⟨_, k + 1, h1.2.1, ?_, Or.inl ⟨h1.1, rfl, rfl⟩, h1.2.2, h2⟩
    have := hn.2 (ts[k]?.getD 0) (by rw [List.getElem?_eq_getElem h1.1]; exact List.getElem_mem h1.1)
    omega
  · exact ⟨-1, k, h1.2.1, by omega, Or.inr ⟨h1.1, rfl, rfl⟩, h1.2.2, h2⟩

/-- What readRound answers. -/
def RoundR (n rb : Nat) (v : Value) (ts : List Nat) (k : Nat) (w : World) (e : Ending) (w' : World) : Prop :=
  ((rrF n (ts.drop k) = none ∧ e = .returned (.slice none 0 0)) ∨ (∃ l r k' val, rrF n (ts.drop k) = some (l, r) ∧ e = .returned val ∧ w'.ownsRow w.heap.size 146 2 val l.length (itemCells (l.map pv)) ∧ k' ≤ ts.length ∧ ts.drop k' = r ∧ Rdr w' rb v k')) ∧ But (fun q => q = rb) w w'

theorem rd_owns {w w' : World} {B rb k : Nat} {v u : Value} {n : Nat} {xs : List Value} (h : w.ownsRow B 146 2 u n xs) (hr : Rdr w rb v k) (b : But (fun q => q = rb) w w') : w'.ownsRow B 146 2 u n xs :=
  rowns_but h b (fun q hq _ hty => by subst hq; exact hty.ne hr.ty (by decide) rfl)
theorem rd_nums {w w' : World} {B rb k : Nat} {v u : Value} {l : List Nat} (h : NumsAt w B u l) (hr : Rdr w rb v k) (b : But (fun q => q = rb) w w') : NumsAt w' B u l :=
  nums_but h b (fun q hq _ hty => by subst hq; exact hty.ne hr.ty (by decide) rfl)

set_option maxRecDepth 100000 in
set_option maxHeartbeats 4000000 in
theorem readRound_any (w : World) (b n rb B : Nat) (v : Value) (ts : List Nat) (k : Nat) (hcn : w.cell? ⟨b, 0, none⟩ = some (.int .i64 n)) (hb : b < w.heap.size) (hne : ¬ b = rb) (h48 : n ≤ 48) (hr : Rdr w rb v k) (hn : NumsAt w B v ts) (hk : k ≤ ts.length) (hl : ts.length ≤ 2 ^ 30) :
    Calls Tryz.prog 107 #[ptr b, ptr rb] w (RoundR n rb v ts k w) := by
  have HR := hid hr
  have HN := hid hn
  have HCn := hid hcn
  have HNe := hid hne
  obtain ⟨i74, q0, q1, q2, q3⟩ := info_parts Tryz.info146
  clear hr hn hcn hne
  go_enter Tryz.func107, Tryz.ntmps107
  go_wp2_with fail
  refine (next_x w rb B v ts k HR.out HN.out (by omega) (by omega)).mono ?_
  rintro e w1 ⟨x1, k1, rfl, hx1, hX1, hr1, hb1⟩
  have HR1 := hid hr1
  have HN1 := hid (rd_nums HN.out HR.out hb1)
  have HB1 := hid hb1
  clear hr1 hb1
  go_wp2_with fail
  refine (next_x w1 rb B v ts k1 HR1.out HN1.out (by omega) (by omega)).mono ?_
  rintro e w2 ⟨x2, k2, rfl, hx2, hX2, hr2, hb2⟩
  have HR2 := hid hr2
  have HN2 := hid (rd_nums HN1.out HR1.out hb2)
  have HB2 : Hid (But (fun q => q = rb) w w2) := HB1.out.same hb2
  have HC2 : Hid (w2.cell? ⟨b, 0, none⟩ = some (.int .i64 n)) := by
    show _ = _
    rw [World.cell?_of_block (w := w) (a := ⟨b, 0, none⟩) (HB2.out.block b hb HNe.out)]; exact HCn.out
  clear hr2 hb2 HB1 HN1 HR1
  go_wp2_with fail
  refine (isVertex_any b n x1 _ HC2.out).mono ?_
  rintro e w' ⟨rfl, hw⟩
  replace hw := hw.symm
  subst hw
  -- when the beginning does not serve
  have HBad : Hid (¬ (vtx n x1 = true ∧ 2 ≤ x2 ∧ x2 ≤ (n : Int)) → RoundR n rb v ts k w (.returned (.slice none 0 0)) w2) := by
    intro q
    refine ⟨Or.inl ⟨?_, rfl⟩, HB2.out⟩
    rcases hX1 with ⟨a1, rfl, a3⟩ | ⟨a1, _, _⟩
    · rcases hX2 with ⟨c1, c2, c3⟩ | ⟨c1, c2, c3⟩
      · have e : ts.drop k = ts[k]?.getD 0 :: ts[k + 1]?.getD 0 :: ts.drop (k + 2) := by
          rw [List.drop_eq_getElem_cons a1, List.drop_eq_getElem_cons c1, List.getElem?_eq_getElem a1, List.getElem?_eq_getElem c1]; rfl
        rw [e]
        refine rrF_no (fun p => q ⟨vtx_yes (by omega) (by omega), by omega, by omega⟩)
      · have e : ts.drop k = [ts[k]?.getD 0] := by
          rw [List.drop_eq_getElem_cons a1, List.drop_eq_nil_of_le (by omega), List.getElem?_eq_getElem a1]; rfl
        rw [e]; rfl
    · rw [List.drop_eq_nil_of_le (by omega)]; rfl
  cases hv : vtx n x1
  · have HRt := hid (HBad.out (by rw [hv]; simp))
    clear HBad hX1 hX2
    go_wp2_with fail
    go_ret
    exact HRt.out
  by_cases c2 : x2 < 2
  · have HRt := hid (HBad.out (fun q => by omega))
    clear HBad hX1 hX2
    go_wp2_with fail
    go_ret
    exact HRt.out
  by_cases c3 : (n : Int) < x2
  · have HRt := hid (HBad.out (fun q => by omega))
    have hc := HC2.out
    clear HBad hX1 hX2
    go_wp2_with fail
    go_ret
    exact HRt.out
  clear HBad
  have hvv : 0 ≤ x1 ∧ x1 < n := by simpa [vtx] using hv
  obtain ⟨a1, rfl, a3⟩ : k < ts.length ∧ k1 = k + 1 ∧ x1 = ((ts[k]?.getD 0 : Nat) : Int) := by rcases hX1 with q | ⟨_, _, q⟩; exact q; omega
  obtain ⟨d1, rfl, d3⟩ : k + 1 < ts.length ∧ k2 = k + 1 + 1 ∧ x2 = ((ts[k + 1]?.getD 0 : Nat) : Int) := by rcases hX2 with q | ⟨_, _, q⟩; exact q; omega
  have HE : Hid (ts.drop k = ts[k]?.getD 0 :: ts[k + 1]?.getD 0 :: ts.drop (k + 2)) := by
    show _ = _
    rw [List.drop_eq_getElem_cons a1, List.drop_eq_getElem_cons d1, List.getElem?_eq_getElem a1, List.getElem?_eq_getElem d1]; rfl
  generalize ts[k]?.getD 0 = f at a3 HE
  generalize ts[k + 1]?.getD 0 = z at d3 HE
  subst a3 d3
  have hf : f < n := by omega
  have hz2 : 2 ≤ z := by omega
  have hzn : z ≤ n := by omega
  have hc := HC2.out
  obtain ⟨rs, hrs⟩ : ∃ rs, rs = ts.drop (k + 2) := ⟨_, rfl⟩
  have HGet : Hid (∀ j, ts[k + 2 + j]?.getD 0 = rs[j]?.getD 0) := fun j => by rw [hrs, List.getElem?_drop]
  have hrl : rs.length = ts.length - (k + 2) := by rw [hrs, List.length_drop]
  rw [← hrs] at HE
  have HRs := hid hrs
  clear hX1 hX2 hrs hv hvv
  have own0 : (w2.alloc (.cells #[.int .i64 f, .int .i64 f] 146)).ownsRow w.heap.size 146 2 (.slice (some ⟨w2.heap.size, 0, none⟩) 1 1) 1 (itemCells ([((f : Int), (-1 : Int))].map pv)) := by
    have := World.ownsRow_lit (base := w.heap.size) (e := 146) (size := 2) w2 #[.int .i64 (f : Int), .int .i64 (f : Int)] 1 HB2.out.size (by unfold maxLen; omega) rfl
    simpa [itemCells, pv] using this
  have HOwn0 := hid own0
  have HRl := hid hrl
  have HA := hid (And.intro a1 d1)
  have c2' : ¬ (z : Int) < 2 := c2
  have c3' : ¬ (n : Int) < (z : Int) := c3
  clear own0 hrl a1 d1 c2 c3 hx1 hx2
  have hz3 : IntKind.i64.wrap (3 * (z : Int)) = 3 * (z : Int) := by rw [IntKind.wrap_i64]; omega
  have hz4 : IntKind.i64.wrap (3 * (z : Int) - 3) = 3 * (z : Int) - 3 := by rw [IntKind.wrap_i64]; omega
  go_wp2_with fail
  simp only [show decide ((z : Int) < 2) = false from by simp; omega, show decide (n < z) = false from by simp; omega, Bool.or_false, Bool.or_self]
  clear c2' c3'
  go_loopw [7, 8, 9] (fun a c d wr => ∃ (j : Nat) (p : Int), j ≤ 3 * z - 3 ∧ j ≤ rs.length ∧ 0 ≤ p ∧ p < n ∧ c = .int .i64 p ∧ d = .int .i64 j ∧ Hid (p = wend f (rs.take j)) ∧ Hid (∀ x, x ∈ wlk f (rs.take j) → OkN n x) ∧ Hid (wr.ownsRow w.heap.size 146 2 a (j + 1) (itemCells ((((f : Int), (-1 : Int)) :: wlk f (rs.take j)).map pv))) ∧ Hid (Rdr wr rb v (k + 2 + j)) ∧ Hid (NumsAt wr B v ts) ∧ Hid (But (fun q => q = rb) w wr)) (fun _ _ d _ => 3 * z - 3 - (intOf d).toNat)
  case atStart =>
    have hal := (Below.refl w2.heap.size w2).alloc (Nat.le_refl _) (.cells #[.int .i64 f, .int .i64 f] 146)
    exact ⟨0, f, by omega, by omega, by omega, by omega, rfl, rfl, by show _ = _; simp [wend], fun x hx => by simp [wlk] at hx, HOwn0, HR2.out.below hal, nums_but HN2.out (S := fun _ => False) (But.of hal) (fun _ q => q.elim), HB2.out.alloc _⟩
  case round =>
    obtain ⟨j, p, hj, hjr, hp0, hp1, rfl, rfl, HP, HOk, HOw, HRd, HNu, HBu⟩ := hrel
    by_cases cj : j < 3 * z - 3
    · have cj' : (j : Int) < 3 * (z : Int) - 3 := by omega
      go_wp2_with fail
      refine (next_x wr rb B v ts (k + 2 + j) HRd.out HNu.out (by have := HRl.out; have := HA.out; omega) (by omega)).mono ?_
      rintro e w3 ⟨x, k3, rfl, hx, hX, hr3, hb3⟩
      have HR3 := hid hr3
      have HN3 := hid (rd_nums HNu.out HRd.out hb3)
      have HO3 := hid (rd_owns HOw.out HRd.out hb3)
      have HB3 : Hid (But (fun q => q = rb) w w3) := HBu.out.same hb3
      have HC3 : Hid (w3.cell? ⟨b, 0, none⟩ = some (.int .i64 n)) := by
        show _ = _
        rw [World.cell?_of_block (w := w) (a := ⟨b, 0, none⟩) (HB3.out.block b hb HNe.out)]; exact HCn.out
      have hs3 := HB3.out.size
      have HNo : Hid (rrF n (ts.drop k) = none → RoundR n rb v ts k w (.returned (.slice none 0 0)) w3) := fun q => ⟨Or.inl ⟨q, rfl⟩, HB3.out⟩
      clear hr3 hb3 HOw HNu HRd HBu
      rcases hX with ⟨g1, rfl, rfl⟩ | ⟨g1, rfl, rfl⟩
      · have hjl : j < rs.length := by have := HRl.out; omega
        have ex := HGet.out j
        rw [ex] at hx ⊢
        have HSt := hid (rlk_step (r := rs) (j := j) (f : Int) hjl)
        have HIt : Hid (¬ OkN n (p, ((rs[j]?.getD 0 : Nat) : Int) - 1) → rrF n (ts.drop k) = none) := fun q => by
          rw [HE.out]
          exact rrF_item hjl cj (by rw [← HP.out]; exact q)
        rw [← HP.out] at HSt
        generalize rs[j]?.getD 0 = d at hx HSt HIt
        clear ex
        have HM : Hid (j + 1 + 1 ≤ maxLen) := by show _ ≤ _; unfold maxLen; omega
        have HM2 : Hid (j + 1 + 1 ≤ 1000) := by show _ ≤ _; omega
        -- the item that is appended
        have HNx : Hid (∀ (q : Int) (v' : Value) (w5 : World), (d = 0 ∧ q = p ∨ ¬ d = 0 ∧ q = (d : Int) - 1 ∧ q ≠ p ∧ q < n) → w5.ownsRow w.heap.size 146 2 v' (j + 1 + 1) (itemCells ((((f : Int), (-1 : Int)) :: wlk f (rs.take j)).map pv) ++ itemCells [(p, q)]) → Rdr w5 rb v (k + 2 + j + 1) → NumsAt w5 B v ts → But (fun q => q = rb) w w5 →
            ∃ (j' : Nat) (p' : Int), j' ≤ 3 * z - 3 ∧ j' ≤ rs.length ∧ 0 ≤ p' ∧ p' < n ∧ Value.int .i64 q = .int .i64 p' ∧ Value.int .i64 ((j : Int) + 1) = .int .i64 j' ∧ Hid (p' = wend f (rs.take j')) ∧ Hid (∀ x, x ∈ wlk f (rs.take j') → OkN n x) ∧ Hid (w5.ownsRow w.heap.size 146 2 v' (j' + 1) (itemCells ((((f : Int), (-1 : Int)) :: wlk f (rs.take j')).map pv))) ∧ Hid (Rdr w5 rb v (k + 2 + j')) ∧ Hid (NumsAt w5 B v ts) ∧ Hid (But (fun q => q = rb) w w5)) := by
          intro q v' w5 hq ho hr hnu hbu
          have ok : OkN n (p, (d : Int) - 1) := by
            refine ⟨hp0, hp1, ?_⟩
            rcases hq with ⟨e, _⟩ | ⟨e, e2, e3, e4⟩
            · left; show (d : Int) - 1 = -1; omega
            · right
              rw [← e2]
              exact ⟨by show 0 ≤ q; omega, e4, e3⟩
          have pvq : pv (p, (d : Int) - 1) = (p, q) := by
            rcases hq with ⟨e, e2⟩ | ⟨e, e2, _, _⟩
            · rw [e, e2]; simp [pv]
            · rw [← e2]; exact pv_way (by omega)
          refine ⟨j + 1, q, by omega, by omega, by rcases hq with q | q <;> omega, by rcases hq with q | q <;> omega, rfl, by simp, ?_, fun x hx => ?_, ?_, hr, hnu, hbu⟩
          · show q = _
            rw [HSt.out.2]
            rcases hq with ⟨e, e2⟩ | ⟨e, e2, _, _⟩
            · rw [e, e2]; simp
            · rw [if_pos (by omega), e2]
          · rw [HSt.out.1] at hx
            rcases List.mem_append.1 hx with m | m
            · exact HOk.out x m
            · simp at m; rw [m]; exact ok
          · show World.ownsRow _ _ _ _ _ _ _
            rw [HSt.out.1, List.map_cons, List.map_append, List.map_cons, List.map_nil, pvq]
            have e : pv ((f : Int), (-1 : Int)) :: ((wlk f (rs.take j)).map pv ++ [(p, q)]) = ((((f : Int), (-1 : Int)) :: wlk f (rs.take j)).map pv) ++ [(p, q)] := by simp
            rw [e, itemCells_append]; exact ho
        generalize hCs : itemCells ((((f : Int), (-1 : Int)) :: wlk f (rs.take j)).map pv) = cs at HO3 HNx
        clear hCs HSt HOk HP
        by_cases d0 : d = 0
        · subst d0
          clear HIt HNo
          go_wp2_with (at_builtin; refine wpList_append_own _ rfl _ _ 98 rfl w.heap.size 146 i74 _ 2 16 Tryz.underlying98 q0 q1 q2 q3 rfl (by decide) _ (j + 1) _ rfl (HO3.out.alloc _) ⟨w3.heap.size, 0, none⟩ 1 1 (itemCells [(p, p)]) rfl rfl (ppair_cell w3 p (p)) (items_one _) HM.out (by have := HM2.out; omega) (by simp; omega) ?_; intro v' w5 ho hg _)
          have g3 : But (fun k => w.heap.size ≤ k) w3 w5 := ((But.refl _ w3).alloc _).trans (But.grown hg) (fun k _ q => (HO3.out.lt k q.symm).1)
          have b5 : But (fun q => q = rb) w w5 := HB3.out.trans g3 (fun i hi q => by omega)
          have HZ := HNx.out (p) v' w5 (Or.inl (by simp)) ho (HR3.out.but g3 (by have := HR.out.lt; show ¬ w.heap.size ≤ rb; omega)) (rd_nums HN.out HR.out b5) b5
          clear ho hg g3 b5
          exact ⟨HZ, by simp [intOf]; omega⟩
        · have d0' : ((d : Int) != 0) = true := by simp [d0]
          have hw : IntKind.i64.wrap ((d : Int) - 1) = (d : Int) - 1 := by rw [IntKind.wrap_i64]; omega
          by_cases t1 : (d : Int) - 1 = p
          · have HRt := hid (HNo.out (HIt.out (fun q => by
              rcases q.2.2 with e | ⟨_, _, e⟩
              · simp only at e; omega
              · exact e t1)))
            have t1' : ((d : Int) - 1 == p) = true := by simp [t1]
            clear HNo HIt HNx
            go_wp2_with fail
            go_ret
            exact HRt.out
          · have t1' : ((d : Int) - 1 == p) = false := by simp [t1]
            go_wp2_with fail
            refine (isVertex_any b n ((d : Int) - 1) _ HC3.out).mono ?_
            rintro e w' ⟨rfl, hw'⟩
            replace hw' := hw'.symm
            subst hw'
            cases hv : vtx n ((d : Int) - 1)
            · have HRt := hid (HNo.out (HIt.out (fun q => by
                rcases q.2.2 with e | ⟨e1, e2, _⟩
                · simp only at e; omega
                · rw [vtx_yes e1 e2] at hv; simp at hv)))
              clear HNo HIt HNx
              go_wp2_with fail
              go_ret
              exact HRt.out
            · have hv2 : (d : Int) - 1 < n := by simp [vtx] at hv; omega
              clear HIt HNo hv
              go_wp2_with (at_builtin; refine wpList_append_own _ rfl _ _ 98 rfl w.heap.size 146 i74 _ 2 16 Tryz.underlying98 q0 q1 q2 q3 rfl (by decide) _ (j + 1) _ rfl (HO3.out.alloc _) ⟨w3.heap.size, 0, none⟩ 1 1 (itemCells [(p, (d : Int) - 1)]) rfl rfl (ppair_cell w3 p ((d : Int) - 1)) (items_one _) HM.out (by have := HM2.out; omega) (by simp; omega) ?_; intro v' w5 ho hg _)
              have g3 : But (fun k => w.heap.size ≤ k) w3 w5 := ((But.refl _ w3).alloc _).trans (But.grown hg) (fun k _ q => (HO3.out.lt k q.symm).1)
              have b5 : But (fun q => q = rb) w w5 := HB3.out.trans g3 (fun i hi q => by omega)
              have HZ := HNx.out ((d : Int) - 1) v' w5 (Or.inr ⟨d0, rfl, t1, hv2⟩) ho (HR3.out.but g3 (by have := HR.out.lt; show ¬ w.heap.size ≤ rb; omega)) (rd_nums HN.out HR.out b5) b5
              clear ho hg g3 b5
              exact ⟨HZ, by simp [intOf]; omega⟩
      · have HRt := hid (HNo.out (by rw [HE.out]; exact rrF_short (by have := HRl.out; omega)))
        have hvt : vtx n (-2) = false := by simp [vtx]
        have hpe : ((-2 : Int) == p) = false := by simp; omega
        clear HNo
        go_wp2_with fail
        refine (isVertex_any b n (-2) _ HC3.out).mono ?_
        rintro e w' ⟨rfl, hw⟩
        replace hw := hw.symm
        subst hw
        rw [hvt]
        go_wp2_with fail
        go_ret
        exact HRt.out
    · have hje : j = 3 * z - 3 := by omega
      have cj' : ¬ (j : Int) < 3 * (z : Int) - 3 := by omega
      by_cases ce : p = f
      · have HRt : Hid (RoundR n rb v ts k w (.returned u7) wr) := by
          refine ⟨Or.inr ⟨((f : Int), (-1 : Int)) :: wlk f (rs.take j), rs.drop j, k + 2 + j, u7, ?_, rfl, ?_, by have := HRl.out; have := HA.out; omega, ?_, HRd.out⟩, HBu.out⟩
          · rw [HE.out, hje]
            rw [hje] at hjr HP HOk
            exact rrF_yes hf hz2 hzn hjr HOk.out (by rw [← HP.out, ce])
          · have hlen : (((f : Int), (-1 : Int)) :: wlk f (rs.take j)).length = j + 1 := by rw [List.length_cons, wlk_length, List.length_take]; omega
            rw [hlen]; exact HOw.out
          · rw [HRs.out, List.drop_drop]
        have ce' : (p != (f : Int)) = false := by simp [ce]
        subst ce
        clear HOw HOk HP
        go_wp2_with fail
        go_ret
        exact HRt.out
      · have HRt : Hid (RoundR n rb v ts k w (.returned (.slice none 0 0)) wr) := by
          refine ⟨Or.inl ⟨?_, rfl⟩, HBu.out⟩
          rw [HE.out]
          exact rrF_end (by rw [← hje, ← HP.out]; exact ce)
        have ce' : (p != (f : Int)) = true := by simp [ce]
        clear HOw HOk HP
        go_wp2_with fail
        go_ret
        exact HRt.out

end Go.Proofs.YtckallochdegiaaGreat
namespace Go.Proofs.YtckallochdegiaaGreat
set_option linter.unusedVariables false
set_option linter.unusedSimpArgs false
open Go.RowKit

/-- What fits asks of a round, in the program's items. -/
structure FitP (es : List Edg) (i : Nat) (sn : Nat → Nat → Bool) (pl : List Itm) : Prop where
  lo : ∀ x, x ∈ pl → (pl[0]?.getD (0, 0)).1 ≤ x.1
  wy : ∀ x, x ∈ pl → x.1 = x.2 ∨ TreeE es i x.1 x.2
  nd : pl.Nodup
  nw : ∀ x, x ∈ pl → sn x.1.toNat x.2.toNat = false
  sz : pl.length + 2 = 3 * (vtxs pl).length
/-- The items seen, and those of a list. -/
def snL (sn : Nat → Nat → Bool) (pl : List Itm) : Nat → Nat → Bool := fun a c => sn a c || decide (((a : Int), (c : Int)) ∈ pl)

theorem vtxs_pvs {l : List Itm} (ok : ∀ x, x ∈ l → OkI x) : (vtxs (l.map pv)).length = sizeV l := by
  induction l with
  | nil => rfl
  | cons x l ih =>
    have o := ok x (by simp)
    have i := ih (fun y hy => ok y (by simp [hy]))
    rw [vtxs, List.length_map] at i
    rw [vtxs, List.length_map, sizeV, List.map_cons, List.filter_cons, List.filter_cons]
    rw [sizeV] at i
    by_cases c : x.2 = -1
    · have c1 : ((pv x).1 == (pv x).2) = true := by simp [(pv_self o).2 c]
      have c2 : decide (x.2 < 0) = true := by simp [o.neg.2 c]
      rw [if_pos c1, if_pos c2, List.length_cons, List.length_cons, i]
    · have c1 : ¬ ((pv x).1 == (pv x).2) = true := by simp only [beq_iff_eq]; exact fun q => c ((pv_self o).1 q)
      have c2 : ¬ decide (x.2 < 0) = true := by simp only [decide_eq_true_eq]; exact fun q => c (o.neg.1 q)
      rw [if_neg c1, if_neg c2, i]
theorem pv_nodup {l : List Itm} (ok : ∀ x, x ∈ l → OkI x) : (l.map pv).Nodup ↔ l.Nodup := by
  unfold List.Nodup
  rw [List.pairwise_map]
  constructor
  · exact fun h => List.Pairwise.imp_of_mem (fun {a b} _ _ k q => k (by rw [q])) h
  · exact fun h => List.Pairwise.imp_of_mem (fun {a b} ha hb k q => k (pv_inj (ok a ha) (ok b hb) q)) h
theorem pv_rng {n : Nat} {x : Itm} (h : OkN n x) : 0 ≤ (pv x).1 ∧ (pv x).1 < n ∧ 0 ≤ (pv x).2 ∧ (pv x).2 < n := by
  obtain ⟨a, b⟩ := x
  obtain ⟨h1, h2, h3⟩ := h
  simp only at h1 h2 h3
  simp only [pv]
  split <;> simp only <;> omega
theorem pv_head (l : List Itm) (hl : l ≠ []) : ((l.map pv)[0]?.getD (0, 0)).1 = hdv l := by
  cases l with
  | nil => exact absurd rfl hl
  | cons x l => simp [hdv, pv_fst]

theorem fit_iff {n : Nat} {es : List Edg} {i : Nat} {sn : Nat → Nat → Bool} {S l : List Itm} (hN : n ≤ 48) (hne : l ≠ []) (ok : ∀ x, x ∈ l → OkN n x) (okS : ∀ x, x ∈ S → OkN n x) (hs : ∀ a c : Nat, a < 48 → c < 48 → (sn a c = true ↔ ((a : Int), (c : Int)) ∈ S.map pv)) : FitP es i sn (l.map pv) ↔ Fit es i S l := by
  have okI : ∀ x, x ∈ l → OkI x := fun x hx => (ok x hx).ok hN
  have key : ∀ x, x ∈ l → (sn (pv x).1.toNat (pv x).2.toNat = false ↔ x ∉ S) := by
    intro x hx
    obtain ⟨r1, r2, r3, r4⟩ := pv_rng (ok x hx)
    have := hs (pv x).1.toNat (pv x).2.toNat (by omega) (by omega)
    rw [Int.toNat_of_nonneg r1, Int.toNat_of_nonneg r3] at this
    rw [← Bool.not_eq_true, this]
    constructor
    · intro q m; exact q (List.mem_map.2 ⟨x, m, rfl⟩)
    · intro q m
      obtain ⟨y, hy, e⟩ := List.mem_map.1 m
      exact q (pv_inj ((okS y hy).ok hN) (okI x hx) e ▸ hy)
  constructor
  · intro h
    refine ⟨fun x hx => ?_, fun x hx => ?_, (pv_nodup okI).1 h.nd, fun x hx => (key x hx).1 (h.nw _ (List.mem_map.2 ⟨x, hx, rfl⟩)), ?_⟩
    · have := h.lo (pv x) (List.mem_map.2 ⟨x, hx, rfl⟩)
      rw [pv_head l hne, pv_fst] at this; exact this
    · by_cases c : x.2 = -1
      · exact Or.inl c
      · right
        have := h.wy (pv x) (List.mem_map.2 ⟨x, hx, rfl⟩)
        have e : pv x = x := pv_way (u := x.1) (v := x.2) c
        rcases this with q | q
        · exact absurd ((pv_self (okI x hx)).1 q) c
        · rw [e] at q; exact q
    · have := h.sz
      rw [List.length_map, vtxs_pvs okI] at this; exact this
  · intro h
    refine ⟨fun y hy => ?_, fun y hy => ?_, (pv_nodup okI).2 h.nd, fun y hy => ?_, ?_⟩
    · obtain ⟨x, hx, rfl⟩ := List.mem_map.1 hy
      rw [pv_head l hne, pv_fst]; exact h.lo x hx
    · obtain ⟨x, hx, rfl⟩ := List.mem_map.1 hy
      by_cases c : x.2 = -1
      · exact Or.inl ((pv_self (okI x hx)).2 c)
      · right
        have e : pv x = x := pv_way (u := x.1) (v := x.2) c
        rw [e]
        exact (h.wy x hx).resolve_left c
    · obtain ⟨x, hx, rfl⟩ := List.mem_map.1 hy
      exact (key x hx).2 (h.nw x hx)
    · rw [List.length_map, vtxs_pvs okI]; exact h.sz

/-- fits, j items in. -/
structure FtJ (es : List Edg) (i : Nat) (sn : Nat → Nat → Bool) (pl : List Itm) (j : Nat) : Prop where
  lo : ∀ x, x ∈ pl.take j → (pl[0]?.getD (0, 0)).1 ≤ x.1
  wy : ∀ x, x ∈ pl.take j → x.1 = x.2 ∨ TreeE es i x.1 x.2
  nd : (pl.take j).Nodup
  nw : ∀ x, x ∈ pl.take j → sn x.1.toNat x.2.toNat = false
theorem FtJ.start (es : List Edg) (i : Nat) (sn : Nat → Nat → Bool) (pl : List Itm) : FtJ es i sn pl 0 := ⟨by simp, by simp, by simp, by simp⟩
theorem ptake_mem {pl : List Itm} {j : Nat} (hj : j < pl.length) (x : Itm) : x ∈ pl.take (j + 1) ↔ x ∈ pl.take j ∨ x = pl[j]?.getD (0, 0) := by
  rw [List.take_succ_eq_append_getElem hj, List.mem_append, get_eq hj]; simp
theorem snL_step {sn : Nat → Nat → Bool} {pl : List Itm} {j : Nat} (hj : j < pl.length) {a c : Nat} (h : pl[j]?.getD (0, 0) = ((a : Int), (c : Int))) (x y : Nat) : sn1 (snL sn (pl.take j)) a c x y = snL sn (pl.take (j + 1)) x y := by
  have e : (((x : Int), (y : Int)) ∈ pl.take (j + 1)) ↔ (((x : Int), (y : Int)) ∈ pl.take j ∨ (x = a ∧ y = c)) := by
    rw [ptake_mem hj, h]
    constructor
    · rintro (q | q)
      · exact Or.inl q
      · injection q with q1 q2; exact Or.inr ⟨by omega, by omega⟩
    · rintro (q | ⟨rfl, rfl⟩)
      · exact Or.inl q
      · exact Or.inr rfl
  simp only [sn1, snL]
  by_cases q : x = a ∧ y = c
  · rw [if_pos q]
    simp [e.2 (Or.inr q)]
  · rw [if_neg q]
    congr 1
    apply decide_eq_decide.2
    rw [e]
    exact ⟨fun m => Or.inl m, fun m => m.resolve_right q⟩
theorem FtJ.step {es : List Edg} {i : Nat} {sn : Nat → Nat → Bool} {pl : List Itm} {j : Nat} (h : FtJ es i sn pl j) (hj : j < pl.length) {a c : Nat} (e : pl[j]?.getD (0, 0) = ((a : Int), (c : Int))) (h1 : (pl[0]?.getD (0, 0)).1 ≤ (a : Int)) (h2 : a = c ∨ TreeE es i a c) (h3 : snL sn (pl.take j) a c = false) : FtJ es i sn pl (j + 1) := by
  simp only [snL, Bool.or_eq_false_iff, decide_eq_false_iff_not] at h3
  refine ⟨fun x hx => ?_, fun x hx => ?_, ?_, fun x hx => ?_⟩
  · rcases (ptake_mem hj x).1 hx with q | q
    · exact h.lo x q
    · rw [q, e]; exact h1
  · rcases (ptake_mem hj x).1 hx with q | q
    · exact h.wy x q
    · rw [q, e]
      rcases h2 with k | k
      · exact Or.inl (by rw [k])
      · exact Or.inr k
  · rw [List.take_succ_eq_append_getElem hj, List.nodup_append]
    refine ⟨h.nd, by simp, fun x hx y hy q => ?_⟩
    simp only [List.mem_singleton] at hy
    rw [get_eq hj] at e
    rw [hy, e] at q
    exact h3.2 (q ▸ hx)
  · rcases (ptake_mem hj x).1 hx with q | q
    · exact h.nw x q
    · rw [q, e]; exact h3.1

/-- What fits answers. -/
def FitsR (es : List Edg) (i sb : Nat) (sn : Nat → Nat → Bool) (pl : List Itm) (w : World) (e : Ending) (w' : World) : Prop :=
  ∃ c : Bool, e = .returned (.bool c) ∧ (c = true ↔ FitP es i sn pl) ∧ (c = true → Sn w' sb (snL sn pl)) ∧ But (fun q => q = sb) w w'
theorem fits_no {es : List Edg} {i sb : Nat} {sn : Nat → Nat → Bool} {pl : List Itm} {w w' : World} (h : ¬ FitP es i sn pl) (b : But (fun q => q = sb) w w') : FitsR es i sb sn pl w (.returned (.bool false)) w' :=
  ⟨false, rfl, ⟨fun q => by simp at q, fun q => absurd q h⟩, fun q => by simp at q, b⟩

theorem fit_again {es : List Edg} {i : Nat} {sn : Nat → Nat → Bool} {pl : List Itm} {j a c : Nat} (hj : j < pl.length) (e : pl[j]?.getD (0, 0) = ((a : Int), (c : Int))) (h : snL sn (pl.take j) a c = true) : ¬ FitP es i sn pl := by
  intro k
  simp only [snL, Bool.or_eq_true, decide_eq_true_eq] at h
  rw [get_eq hj] at e
  rcases h with q | q
  · have := k.nw ((a : Int), (c : Int)) (by rw [← e]; exact List.getElem_mem hj)
    simp at this
    rw [q] at this; simp at this
  · rw [← e] at q
    obtain ⟨m, hm, z⟩ := List.mem_take_iff_getElem.1 q
    exact (List.pairwise_iff_getElem.1 k.nd) m j (by omega) hj (by omega) z

set_option maxRecDepth 100000 in
set_option maxHeartbeats 4000000 in
theorem fits_any (w : World) (b n : Nat) (es : List Edg) (R : Nat → Nat → List Itm) (r : Int) (F : Nat → Value) (lb lo lc sb i : Nat) (sn : Nat → Nat → Bool) (pl : List Itm) (h : IdxP w b n (look es) R r F) (E : EdOK n es) (hp : PAt w (.slice (some ⟨lb, lo, none⟩) pl.length lc) pl lb lo lc) (hs : Sn w sb sn)
    (hne : 0 < pl.length) (hlen : pl.length ≤ 3000) (hok : ∀ x, x ∈ pl → 0 ≤ x.1 ∧ x.1 < 48 ∧ 0 ≤ x.2 ∧ x.2 < 48) :
    Calls Tryz.prog 108 #[ptr b, .slice (some ⟨lb, lo, none⟩) pl.length lc, .int .i64 i, ptr sb] w (FitsR es i sb sn pl w) := by
  have HX := hid h
  have HE := hid E
  have HP := hid hp
  have HS := hid hs
  have HOk := hid hok
  have hle := hp.le
  have hmx := hp.mx
  have hlb := hp.lt
  unfold maxLen at hmx
  have HNe : Hid (¬ b = sb ∧ ¬ lb = sb) := ⟨fun q => by subst q; exact h.ty.ne hs.ty (by decide) rfl, fun q => by subst q; exact (show TyAt w lb 146 from hp.ty).ne hs.ty (by decide) rfl⟩
  clear h E hp hs hok
  go_enter Tryz.func108, Tryz.ntmps108
  go_wp2_with fail
  go_loopw [15] (fun q wr => ∃ j : Nat, j ≤ pl.length ∧ q = .int .i64 j ∧ Hid (FtJ es i sn pl j) ∧ Hid (Sn wr sb (snL sn (pl.take j))) ∧ Hid (But (fun q => q = sb) w wr)) (fun q _ => pl.length - (intOf q).toNat)
  case atStart => exact ⟨0, by omega, rfl, FtJ.start es i sn pl, by show Sn _ _ _; rw [show snL sn (pl.take 0) = sn from by funext a c; simp [snL]]; exact HS.out, But.refl _ _⟩
  case round =>
    obtain ⟨j, hj, rfl, HF, HSn, HB⟩ := hrel
    have hsz := HB.out.size
    have hI : PAt wr (.slice (some ⟨lb, lo, none⟩) pl.length lc) pl lb lo lc := HP.out.block (HB.out.block lb hlb HNe.out.2)
    by_cases cj : j < pl.length
    · have cj' : (j : Int) < (pl.length : Int) := by omega
      have hm : pl[j]?.getD (0, 0) ∈ pl := by rw [get_eq cj]; exact List.getElem_mem cj
      have o := HOk.out _ hm
      obtain ⟨a, c, hac, ha, hc⟩ : ∃ a c : Nat, pl[j]?.getD (0, 0) = ((a : Int), (c : Int)) ∧ a < 48 ∧ c < 48 := ⟨(pl[j]?.getD (0, 0)).1.toNat, (pl[j]?.getD (0, 0)).2.toNat, Prod.ext (by show _ = (((pl[j]?.getD (0, 0)).1.toNat : Nat) : Int); omega) (by show _ = (((pl[j]?.getD (0, 0)).2.toNat : Nat) : Int); omega), by omega, by omega⟩
      have y0 := hI.c0 j cj
      have y1 := hI.c1 j cj
      have z0 := fun ob => (hI.alloc ob).c0 0 hne
      simp only [Nat.zero_mul, Nat.add_zero] at z0
      rw [hac] at y0 y1 hm
      simp only at y0 y1
      have HAc := hid hac
      have HMm := hid hm
      obtain ⟨p0, hp0⟩ : ∃ p0, p0 = (pl[0]?.getD (0, 0)).1 := ⟨_, rfl⟩
      rw [← hp0] at z0
      have HP0 := hid hp0
      clear hI o hac hm hp0
      by_cases c1 : (a : Int) < p0
      · have HRt : Hid (∀ w', But (fun q => q = sb) w w' → FitsR es i sb sn pl w (.returned (.bool false)) w') := fun w' q => fits_no (fun k => by have := k.lo _ HMm.out; rw [← HP0.out] at this; simp only at this; omega) q
        go_wp2_with fail
        go_quiet (fail)
        go_wp2
        go_ret
        exact HRt.out _ (HB.out.trans (S' := fun _ => False) (But.of (Below.drewN' _ ((Below.refl _ _).alloc (Nat.le_refl _) _))) (fun _ _ q => q.elim))
      · have HC1 : Hid (p0 ≤ (a : Int)) := by show _ ≤ _; omega
        have c1' : decide ((a : Int) < p0) = false := by simp; omega
        have HXI : Hid (∀ w', Below wr.heap.size wr w' → IdxP w' b n (look es) R r F) := fun w' q => (HX.out.but HB.out HNe.out.1 (fun k hk _ => by subst hk; exact fun z => z.ne HS.out.ty (by decide) rfl)).below q
        have HSw : Hid (∀ w', Below wr.heap.size wr w' → Sn w' sb (snL sn (pl.take j))) := fun w' q => HSn.out.below q
        by_cases c2 : a = c
        · subst c2
          have c2' : ((a : Int) != (a : Int)) = false := by simp
          have HBe : Hid (∀ m ob, Below wr.heap.size wr ((wr.alloc ob).drewN m)) := fun m ob => Below.drewN' _ ((Below.refl _ _).alloc (Nat.le_refl _) ob)
          go_wp2_with fail
          go_quiet (fail)
          go_wp2_with fail
          refine (see_any _ sb (snL sn (pl.take j)) a a (HSw.out _ (HBe.out _ _)) ha hc).mono ?_
          rintro e w3 ⟨rfl, hs3, hb3⟩
          have HS3 := hid hs3
          have HB3 : Hid (But (fun q => q = sb) w w3) := (HB.out.trans (S' := fun _ => False) (But.of (HBe.out _ _)) (fun _ _ q => q.elim)).same hb3
          clear hs3 hb3
          cases hsn : snL sn (pl.take j) a a
          · have HFj := hid (HF.out.step cj HAc.out (by rw [← HP0.out]; exact HC1.out) (Or.inl rfl) hsn)
            have HSj : Hid (Sn w3 sb (snL sn (pl.take (j + 1)))) := by
              have e : sn1 (snL sn (pl.take j)) a a = snL sn (pl.take (j + 1)) := by funext x y; exact snL_step cj HAc.out x y
              show Sn _ _ _
              rw [← e]; exact HS3.out
            clear HS3 HF HSn hsn
            go_wp2
            exact ⟨⟨j + 1, by omega, by go_num, HFj, HSj, HB3⟩, by simp [intOf]; omega⟩
          · have HRt := hid (fits_no (w := w) (sb := sb) (fit_again (es := es) (i := i) cj HAc.out hsn) HB3.out)
            clear HS3 HF HSn hsn
            go_wp2
            go_ret
            exact HRt.out
        · have c2' : ((a : Int) != (c : Int)) = true := by simp; omega
          have HBf : Hid (∀ m ob, Below wr.heap.size wr ((wr.alloc ob).drewN m)) := fun m ob => Below.drewN' _ ((Below.refl _ _).alloc (Nat.le_refl _) ob)
          go_wp2_with fail
          go_quiet (fail)
          go_wp2_with fail
          refine (isWay_any _ b n (look es) R r F a c i (HXI.out _ (HBf.out _ _)) ha hc).mono ?_
          rintro e w2 ⟨rfl, hb2⟩
          have HB2 : Hid (Below wr.heap.size wr w2) := (HBf.out _ _).trans (hb2.mono (HBf.out _ _).size)
          have t0 : w2.cell? ⟨wr.heap.size, 0, none⟩ = some (.int .i64 a) := by
            rw [hb2.cell (p := ⟨wr.heap.size, 0, none⟩) (by simp)]
            exact new_cell wr _ _ 0
          have t1 : w2.cell? ⟨wr.heap.size, 1, none⟩ = some (.int .i64 c) := by
            rw [hb2.cell (p := ⟨wr.heap.size, 1, none⟩) (by simp)]
            exact new_cell wr _ _ 1
          have hLk := look_tree (i := i) HE.out (u := a) (v := c)
          obtain ⟨bw, hbw⟩ : ∃ bw, bw = ((look es a c).2.1 && decide ((i : Int) ≤ (look es a c).2.2)) := ⟨_, rfl⟩
          rw [← hbw]
          have HBw : Hid (bw = true ↔ TreeE es i a c) := by
            show _ ↔ _
            rw [← hLk, hbw]; simp
          clear hb2 hLk hbw
          cases bw
          · have HRt : Hid (FitsR es i sb sn pl w (.returned (.bool false)) w2) := fits_no (fun k => by
              rcases k.wy _ HMm.out with q | q
              · simp only at q; omega
              · have := HBw.out.2 q; simp at this) (HB.out.trans (S' := fun _ => False) (But.of HB2.out) (fun _ _ q => q.elim))
            clear HBw HF HSn
            go_wp2_with fail
            go_ret
            exact HRt.out
          · have HW := hid (HBw.out.1 rfl)
            clear HBw
            go_wp2_with fail
            refine (see_any _ sb (snL sn (pl.take j)) a c (HSw.out _ (HB2.out)) ha hc).mono ?_
            rintro e w3 ⟨rfl, hs3, hb3⟩
            have HS3 := hid hs3
            have HB3 : Hid (But (fun q => q = sb) w w3) := (HB.out.trans (S' := fun _ => False) (But.of (HB2.out)) (fun _ _ q => q.elim)).same hb3
            clear hs3 hb3
            cases hsn : snL sn (pl.take j) a c
            · have HFj := hid (HF.out.step cj HAc.out (by rw [← HP0.out]; exact HC1.out) (Or.inr HW.out) hsn)
              have HSj : Hid (Sn w3 sb (snL sn (pl.take (j + 1)))) := by
                have e : sn1 (snL sn (pl.take j)) a c = snL sn (pl.take (j + 1)) := by funext x y; exact snL_step cj HAc.out x y
                show Sn _ _ _
                rw [← e]; exact HS3.out
              clear HS3 HF HSn hsn
              go_wp2
              exact ⟨⟨j + 1, by omega, by go_num, HFj, HSj, HB3⟩, by simp [intOf]; omega⟩
            · have HRt := hid (fits_no (w := w) (sb := sb) (fit_again (es := es) (i := i) cj HAc.out hsn) HB3.out)
              clear HS3 HF HSn hsn
              go_wp2
              go_ret
              exact HRt.out
    · have hje : j = pl.length := by omega
      subst hje
      have HSe := HSn.out
      rw [List.take_length] at HSe
      have HSf := hid HSe
      have HFe : Hid (pl.length + 2 = 3 * (vtxs pl).length ↔ FitP es i sn pl) := by
        have f := HF.out
        constructor
        · intro q
          have e := List.take_length (l := pl)
          exact ⟨fun x hx => f.lo x (by rw [e]; exact hx), fun x hx => f.wy x (by rw [e]; exact hx), by have := f.nd; rw [e] at this; exact this, fun x hx => f.nw x (by rw [e]; exact hx), q⟩
        · exact fun q => q.sz
      have HI := hid hI
      clear HSe hI HF HSn
      go_wp2_with fail
      refine (Vertices_any wr lb lo lc pl HI.out hlen (fun x hx => ⟨(HOk.out x hx).1, (HOk.out x hx).2.1⟩)).mono ?_
      rintro e w2 ⟨val, rfl, hn, hb2⟩
      have HB2 : Hid (But (fun q => q = sb) w w2) := HB.out.trans (S' := fun _ => False) (But.of hb2) (fun _ _ q => q.elim)
      have HS2 := hid (HSf.out.below hb2)
      have hvl := vtxs_le pl
      rcases nums_at hn with ⟨rfl, e0⟩ | ⟨g, cc, rfl, hg, _, hc1, hc2, _⟩
      · have HRt : Hid (FitsR es i sb sn pl w (.returned (.bool false)) w2) := fits_no (fun k => by have := k.sz; rw [e0] at this; simp [vtxs] at this) HB2.out
        have e2 : ((pl.length : Int) == -2) = false := beq_eq_false_iff_ne.2 (by omega)
        clear hn hb2
        go_wp2_with fail
        go_ret
        exact HRt.out
      · unfold maxLen at hc2
        obtain ⟨m, hm⟩ : ∃ m, m = (vtxs pl).length := ⟨_, rfl⟩
        rw [← hm] at HFe hvl hc1 ⊢
        clear hn hb2 hm
        go_wp2_with fail
        go_ret
        exact ⟨_, rfl, by rw [← HFe.out]; simp; omega, fun _ => HS2.out, HB2.out⟩

end Go.Proofs.YtckallochdegiaaGreat
namespace Go.Proofs.YtckallochdegiaaGreat
set_option linter.unusedVariables false
set_option linter.unusedSimpArgs false
open Go.RowKit

/-- All ways that begin below a are seen; of a, those to below c. -/
def AsJ (es : List Edg) (i n : Nat) (sn : Nat → Nat → Bool) (u v : Nat) : Prop := ∀ a c : Nat, a < n → c < n → (a < u ∨ (a = u ∧ c < v)) → TreeE es i a c → sn a c = true
def AllS (es : List Edg) (i n : Nat) (sn : Nat → Nat → Bool) : Prop := ∀ a c : Nat, a < n → c < n → TreeE es i a c → sn a c = true

/-- What allSeen answers. -/
def AllSR (es : List Edg) (i n : Nat) (sn : Nat → Nat → Bool) (w : World) (e : Ending) (w' : World) : Prop := ∃ c : Bool, e = .returned (.bool c) ∧ (c = true ↔ AllS es i n sn) ∧ Below w.heap.size w w'

set_option maxRecDepth 100000 in
set_option maxHeartbeats 4000000 in
theorem allSeen_any (w : World) (b n : Nat) (es : List Edg) (R : Nat → Nat → List Itm) (r : Int) (F : Nat → Value) (sb i : Nat) (sn : Nat → Nat → Bool) (h : IdxP w b n (look es) R r F) (E : EdOK n es) (hs : Sn w sb sn) :
    Calls Tryz.prog 110 #[ptr b, .int .i64 i, ptr sb] w (AllSR es i n sn w) := by
  have HX := hid h
  have HE := hid E
  have HS := hid hs
  have h48 := h.n1
  clear h E hs
  go_enter Tryz.func110, Tryz.ntmps110
  go_wp2_with fail
  go_loopw [7] (fun q wr => ∃ u : Nat, u ≤ n ∧ q = .int .i64 u ∧ Hid (AsJ es i n sn u 0) ∧ Hid (Below w.heap.size w wr)) (fun q _ => n - (intOf q).toNat)
  case atStart => exact ⟨0, by omega, rfl, fun a c ha hc q => by omega, Below.refl _ _⟩
  case round =>
    obtain ⟨u, hu, rfl, HJ, HB⟩ := hrel
    have cn := (HX.out.below HB.out).hn
    by_cases cu : u < n
    · have cu' : (u : Int) < (n : Int) := by omega
      go_wp2_with fail
      go_loopw [8] (fun q wr2 => ∃ v : Nat, v ≤ n ∧ q = .int .i64 v ∧ Hid (AsJ es i n sn u v) ∧ Hid (Below w.heap.size w wr2)) (fun q _ => n - (intOf q).toNat)
      case atStart => exact ⟨0, by omega, rfl, HJ, HB⟩
      case round =>
        obtain ⟨v, hv, rfl, HJ2, HB2⟩ := hrel
        clear cn
        have cn := (HX.out.below HB2.out).hn
        by_cases cv : v < n
        · have cv' : (v : Int) < (n : Int) := by omega
          have hu48 : (u : Int) < 48 := by omega
          have hv48 : (v : Int) < 48 := by omega
          go_wp2_with fail
          refine (isWay_any _ b n (look es) R r F u v i (HX.out.below HB2.out) (by omega) (by omega)).mono ?_
          rintro e w2 ⟨rfl, hb2⟩
          have HB3 : Hid (Below w.heap.size w w2) := HB2.out.trans (hb2.mono HB2.out.size)
          have hLk := look_tree (i := i) HE.out (u := u) (v := v)
          obtain ⟨bw, hbw⟩ : ∃ bw, bw = ((look es u v).2.1 && decide ((i : Int) ≤ (look es u v).2.2)) := ⟨_, rfl⟩
          rw [← hbw]
          have HBw : Hid (bw = true ↔ TreeE es i u v) := by
            show _ ↔ _
            rw [← hLk, hbw]; simp
          have d : w2.cell? ⟨sb, u * 48 + v, none⟩ = some (.bool (sn u v)) := by
            obtain ⟨F2, f1, f2⟩ := HS.out.below HB3.out
            rw [f1.cell (i := u * 48 + v) (by omega), f2 u v (by omega) (by omega)]
          have HNx : Hid ((TreeE es i u v → sn u v = true) → AsJ es i n sn u (v + 1)) := fun q a c ha hc z t => by
            by_cases k : a = u ∧ c = v
            · obtain ⟨rfl, rfl⟩ := k; exact q t
            · exact HJ2.out a c ha hc (by omega) t
          clear hb2 hLk hbw HJ2 HJ cn
          cases bw
          · have HJ3 := hid (HNx.out (fun t => by have := HBw.out.2 t; simp at this))
            clear HBw HNx
            go_wp2
            exact ⟨⟨v + 1, by omega, by go_num, HJ3, HB3⟩, by simp [intOf]; omega⟩
          · cases hsn : sn u v
            · rw [hsn] at d
              have HRt : Hid (AllSR es i n sn w (.returned (.bool false)) w2) := ⟨false, rfl, ⟨fun q => by simp at q, fun q => by have := q u v cu cv (HBw.out.1 rfl); rw [hsn] at this; simp at this⟩, HB3.out⟩
              clear HBw HNx hsn
              go_wp2_with fail
              go_ret
              exact HRt.out
            · rw [hsn] at d
              have HJ3 := hid (HNx.out (fun _ => hsn))
              clear HBw HNx hsn
              go_wp2
              exact ⟨⟨v + 1, by omega, by go_num, HJ3, HB3⟩, by simp [intOf]; omega⟩
        · have hve : v = n := by omega
          have HJ3 : Hid (AsJ es i n sn (u + 1) 0) := fun a c ha hc q t => HJ2.out a c ha hc (by omega) t
          have cv' : ¬ (v : Int) < (n : Int) := by omega
          clear hve
          go_wp2
          exact ⟨⟨u + 1, by omega, by go_num, HJ3, HB2⟩, by simp [intOf]; omega⟩
    · have cu' : ¬ (u : Int) < (n : Int) := by omega
      have HA : Hid (AllS es i n sn) := fun a c ha hc t => HJ.out a c ha hc (by omega) t
      go_wp2_with fail
      go_ret
      exact ⟨true, rfl, ⟨fun _ => HA.out, fun _ => rfl⟩, HB.out⟩

end Go.Proofs.YtckallochdegiaaGreat
namespace Go.Proofs.YtckallochdegiaaGreat
set_option linter.unusedVariables false
set_option linter.unusedSimpArgs false
open Go.RowKit

section
variable {n i : Nat} {es : List Edg} {l : List Itm}
theorem vtxs_mem (hN : n ≤ 48) (ok : ∀ x, x ∈ l → OkN n x) (z : Nat) : z ∈ vtxs (l.map pv) ↔ ((z : Int), (-1 : Int)) ∈ l := by
  simp only [vtxs, List.mem_map, List.mem_filter, beq_iff_eq]
  constructor
  · rintro ⟨y, ⟨⟨x, hx, rfl⟩, e⟩, rfl⟩
    have o := ok x hx
    have c := (pv_self (o.ok hN)).1 e
    rw [pv_fst, Int.toNat_of_nonneg o.1, ← c]; exact hx
  · intro h
    exact ⟨((z : Int), (z : Int)), ⟨⟨_, h, pv_vtx _⟩, rfl⟩, by simp⟩
theorem vtxs_nodup (hN : n ≤ 48) (ok : ∀ x, x ∈ l → OkN n x) (nd : l.Nodup) : (vtxs (l.map pv)).Nodup := by
  have h := (pv_nodup (fun x hx => (ok x hx).ok hN)).2 nd
  unfold vtxs
  unfold List.Nodup
  rw [List.pairwise_map]
  refine List.Pairwise.imp_of_mem ?_ (List.Pairwise.sublist List.filter_sublist h)
  intro a b ha hb hab q
  obtain ⟨a1, a2⟩ := List.mem_filter.1 ha
  obtain ⟨b1, b2⟩ := List.mem_filter.1 hb
  obtain ⟨x, hx, rfl⟩ := List.mem_map.1 a1
  obtain ⟨y, hy, rfl⟩ := List.mem_map.1 b1
  have r1 := pv_rng (ok x hx)
  have r2 := pv_rng (ok y hy)
  simp only [beq_iff_eq] at a2 b2
  exact hab (Prod.ext (by omega) (by omega))
/-- What Lay leaves is what is laid. -/
theorem lay_eq (hN : n ≤ 48) (R1 : RdOK n es i l) {f : Nat} (hf : hdv l = f) (Ri : Nat → List Itm) (z : Nat) : (if z = f then fromX (l.map pv) ((f : Int), (f : Int)) else if z ∈ vtxs (l.map pv) then [] else Ri z) = layS Ri l z := by
  obtain ⟨g, g1, g2⟩ := R1.hd
  have e : g = f := by have := hdv_cons g2; omega
  subst e
  rw [layS, hf]
  by_cases c : z = g
  · rw [if_pos c, if_pos (show (z : Int) = (g : Int) by omega)]
    conv => lhs; rw [g2, List.map_cons, pv_vtx]
    conv => rhs; rw [g2, List.map_cons, pv_vtx]
    rw [show fromX (((g : Int), (g : Int)) :: (l.drop 1).map pv) ((g : Int), (g : Int)) = ((g : Int), (g : Int)) :: (l.drop 1).map pv ++ [] from fromX_at (a := []) (by simp), List.append_nil]
  · rw [if_neg c, if_neg (show ¬ (z : Int) = (g : Int) by omega)]
    by_cases d : ((z : Int), (-1 : Int)) ∈ l
    · rw [if_pos ((vtxs_mem hN R1.ok z).2 d), if_pos d]
    · rw [if_neg (fun q => d ((vtxs_mem hN R1.ok z).1 q)), if_neg d]
end

def zs (_ : Nat) : Value := .bool false
def zSn : Array Value := ((List.range 2304).map zs).toArray
theorem zeroSn : Tryz.zeroCells143 = zSn := by kernel_rfl
theorem zSn_size : zSn.size = 2304 := by simp [zSn]
theorem new_sn (w : World) : Sn (w.alloc (.cells zSn 143)) w.heap.size (fun _ _ => false) := by
  refine ⟨fun _ => .bool false, ?_, fun _ _ _ _ => rfl⟩
  have h := World.rowIs_alloc w zSn 143 (fun _ => .bool false) (fun i hi => by rw [zSn_size] at hi; simp [zSn, hi, zs])
  rw [zSn_size] at h; exact h

section
variable {n : Nat} {es : List Edg} {i c m : Nat} {la : Int} {ls : List (List Itm)} {t t0 : List Nat}
/-- The reading of rounds, m of c read. -/
def RdI (n : Nat) (es : List Edg) (i c : Nat) (t0 : List Nat) (m : Nat) (la : Int) (ls : List (List Itm)) (t : List Nat) : Prop := rdsF n es i c (-1) [] t0 = rdsF n es i (c - m) la ls t
theorem RdI.start : RdI n es i c t0 0 (-1) [] t0 := rfl
theorem RdI.no (h : RdI n es i c t0 m la ls t) (hm : m < c) (k : rrF n t = none) : plvF n es i (c :: t0) = none := by
  rw [plvF, h, show c - m = (c - m - 1) + 1 by omega, rdsF, k]
theorem RdI.bad (h : RdI n es i c t0 m la ls t) (hm : m < c) {l : List Itm} {t' : List Nat} (k : rrF n t = some (l, t')) (q : ¬ (la < hdv l ∧ Fit es i ls.flatten l)) : plvF n es i (c :: t0) = none := by
  rw [plvF, h, show c - m = (c - m - 1) + 1 by omega, rdsF, k]
  simp only
  rw [if_neg q]
theorem RdI.step (h : RdI n es i c t0 m la ls t) (hm : m < c) {l : List Itm} {t' : List Nat} (k : rrF n t = some (l, t')) (q : la < hdv l ∧ Fit es i ls.flatten l) : RdI n es i c t0 (m + 1) (hdv l) (ls ++ [l]) t' := by
  rw [RdI, h, show c - m = (c - m - 1) + 1 by omega, rdsF, k]
  simp only
  rw [if_pos q, show c - (m + 1) = c - m - 1 by omega]
open Classical in
theorem RdI.end_ (h : RdI n es i c t0 m la ls t) (hm : m = c) : plvF n es i (c :: t0) = if ∀ a b : Int, TreeE es i a b → (a, b) ∈ ls.flatten then some (ls, t) else none := by
  rw [plvF, h, hm, Nat.sub_self, rdsF]

/-- The seen items are those of the rounds. -/
theorem seen_iff {S : List Itm} (okS : ∀ x, x ∈ S → OkN n x) (hN : n ≤ 48) (a d : Nat) : snL (fun _ _ => false) (S.map pv) a d = true ↔ ((a : Int), (d : Int)) ∈ S.map pv := by simp [snL]
theorem cov_iff (E : EdOK n es) {S : List Itm} (okS : ∀ x, x ∈ S → OkN n x) (hN : n ≤ 48) : AllS es i n (snL (fun _ _ => false) (S.map pv)) ↔ ∀ a b : Int, TreeE es i a b → (a, b) ∈ S := by
  have way : ∀ a b : Int, TreeE es i a b → ((a, b) ∈ S.map pv ↔ (a, b) ∈ S) := by
    rintro a b ⟨e, e1, _, _, e4⟩
    have be := E.ed e e1
    have hb : b ≠ -1 := by rcases e4 with ⟨p1, p2⟩ | ⟨p1, p2⟩ <;> omega
    have hab : a ≠ b := by rcases e4 with ⟨p1, p2⟩ | ⟨p1, p2⟩ <;> omega
    constructor
    · intro q
      obtain ⟨x, hx, e⟩ := List.mem_map.1 q
      by_cases c : x.2 = -1
      · have := (pv_self ((okS x hx).ok hN)).2 c
        rw [e] at this; exact absurd this hab
      · have e2 : pv x = x := pv_way (u := x.1) (v := x.2) c
        rw [e2] at e; rw [← e]; exact hx
    · intro q; exact List.mem_map.2 ⟨_, q, pv_way hb⟩
  constructor
  · rintro h a b t
    obtain ⟨e, e1, _, _, e4⟩ := t
    have be := E.ed e e1
    have ra : 0 ≤ a ∧ a < n ∧ 0 ≤ b ∧ b < n := by rcases e4 with ⟨p1, p2⟩ | ⟨p1, p2⟩ <;> omega
    have t : TreeE es i a b := ⟨e, e1, ‹_›, ‹_›, e4⟩
    have := h a.toNat b.toNat (by omega) (by omega) (by rw [Int.toNat_of_nonneg ra.1, Int.toNat_of_nonneg ra.2.2.1]; exact t)
    rw [seen_iff okS hN, Int.toNat_of_nonneg ra.1, Int.toNat_of_nonneg ra.2.2.1] at this
    exact (way a b t).1 this
  · intro h a d _ _ t
    rw [seen_iff okS hN]
    exact (way _ _ t).2 (h _ _ t)
theorem Good.okN (h : Good n es i ls) : ∀ x, x ∈ ls.flatten → OkN n x := by
  intro x hx
  obtain ⟨l, h1, h2⟩ := List.mem_flatten.1 hx
  exact (h.ok l h1).ok x h2
/-- A round that is read and fits. -/
theorem rdok_of {l : List Itm} {t' : List Nat} {S : List Itm} (k : rrF n t = some (l, t')) (q : Fit es i S l) : RdOK n es i l := by
  obtain ⟨f, z, e1, e2, e3, e4, e5, e6, e7, e8⟩ := rrF_ok k
  have := q.sz
  exact ⟨⟨f, e2, e3⟩, by omega, by omega, e7, e8, q.lo, q.wy, q.sz⟩
theorem Good.more (g : Good n es i ls) (hl : ∀ l, l ∈ ls → hdv l ≤ la) {l : List Itm} (R1 : RdOK n es i l) (h : la < hdv l) (q : Fit es i ls.flatten l) : Good n es i (ls ++ [l]) ∧ ∀ k, k ∈ ls ++ [l] → hdv k ≤ hdv l := by
  refine ⟨⟨fun k hk => ?_, ?_, ?_⟩, fun k hk => ?_⟩
  · rcases List.mem_append.1 hk with p | p
    · exact g.ok k p
    · simp at p; rw [p]; exact R1
  · rw [flat_one, List.nodup_append]
    exact ⟨g.nd, q.nd, fun a ha b hb p => q.nw b hb (p ▸ ha)⟩
  · rw [List.pairwise_append]
    refine ⟨g.up, by simp, fun a ha b hb => ?_⟩
    simp at hb; rw [hb]
    have := hl a ha
    omega
  · rcases List.mem_append.1 hk with p | p
    · have := hl k p; omega
    · simp at p; rw [p]; exact Int.le_refl _
end

/-- readLevel, between two rounds. -/
structure LvJ (n : Nat) (es : List Edg) (i b rb sb : Nat) (v : Value) (ts : List Nat) (R : Nat → Nat → List Itm) (r : Int) (w wr : World) (ls : List (List Itm)) (la : Int) (kk : Nat) : Prop where
  good : Good n es i ls
  la : ∀ l, l ∈ ls → hdv l ≤ la
  sn : Sn wr sb (snL (fun _ _ => false) (ls.flatten.map pv))
  ix : ∃ Ri F', IdxP wr b n (look es) (fun j => if j = i then Ri else R j) r F' ∧ LayI n ls Ri
  rd : Rdr wr rb v kk
  kk : kk ≤ ts.length
  bt : But (fun q => q = b ∨ q = rb) w wr

/-- What readLevel answers. -/
def LevelR (n : Nat) (es : List Edg) (i b rb : Nat) (v : Value) (ts : List Nat) (k : Nat) (R : Nat → Nat → List Itm) (r : Int) (w : World) (e : Ending) (w' : World) : Prop :=
  ∃ c : Bool, e = .returned (.bool c) ∧ But (fun q => q = b ∨ q = rb) w w' ∧ (plvF n es i (ts.drop k) = none → c = false) ∧ ∀ ls t, plvF n es i (ts.drop k) = some (ls, t) → c = true ∧ ∃ Ri F' k', IdxP w' b n (look es) (fun j => if j = i then Ri else R j) r F' ∧ LayI n ls Ri ∧ k' ≤ ts.length ∧ ts.drop k' = t ∧ Rdr w' rb v k'
theorem level_no {n : Nat} {es : List Edg} {i b rb : Nat} {v : Value} {ts : List Nat} {k : Nat} {R : Nat → Nat → List Itm} {r : Int} {w w' : World} (h : plvF n es i (ts.drop k) = none) (hb : But (fun q => q = b ∨ q = rb) w w') : LevelR n es i b rb v ts k R r w (.returned (.bool false)) w' :=
  ⟨false, rfl, hb, fun _ => rfl, fun ls t q => by rw [h] at q; simp at q⟩

set_option maxRecDepth 100000 in
set_option maxHeartbeats 4000000 in
theorem readLevel_any (w : World) (b n rb B i : Nat) (es : List Edg) (R : Nat → Nat → List Itm) (r : Int) (F : Nat → Value) (v : Value) (ts : List Nat) (k : Nat) (h : IdxP w b n (look es) R r F) (E : EdOK n es) (hi : i < 6) (hbase : ∀ z, z < 48 → R i z = if z < n then [((z : Int), (z : Int))] else []) (hr : Rdr w rb v k) (hn : NumsAt w B v ts) (hk : k ≤ ts.length) (hl : ts.length ≤ 2 ^ 30) :
    Calls Tryz.prog 85 #[ptr b, ptr rb, .int .i64 i] w (LevelR n es i b rb v ts k R r w) := by
  have HX := hid h
  have HX0 := hid h
  have HE := hid E
  have HBa := hid hbase
  have HR := hid hr
  have HN := hid hn
  have h48 := h.n1
  have hi6 : (i : Int) < 6 := by omega
  have HNe : Hid (¬ b = rb) := fun q => by subst q; exact h.ty.ne hr.ty (by decide) rfl
  have hblt := h.row.lt
  have hrlt := hr.lt
  clear h E hbase hr hn
  go_enter Tryz.func85, Tryz.ntmps85
  go_wp2_with fail
  refine (next_x w rb B v ts k HR.out HN.out (by omega) (by omega)).mono ?_
  rintro e w1 ⟨x, k1, rfl, hx, hX, hr1, hb1⟩
  have HR1 := hid hr1
  have HB1 : Hid (But (fun q => q = b ∨ q = rb) w w1) := hb1.wide (fun _ _ q => Or.inr q)
  have HX1 : Hid (IdxP w1 b n (look es) R r F) := HX.out.but hb1 HNe.out (fun q hq _ hty => by subst hq; exact hty.ne HR.out.ty (by decide) rfl)
  clear hr1 hb1
  rcases hX with ⟨g1, rfl, hxe⟩ | ⟨g1, rfl, rfl⟩
  · obtain ⟨c, hc⟩ : ∃ c, c = ts[k]?.getD 0 := ⟨_, rfl⟩
    have HD : Hid (ts.drop k = c :: ts.drop (k + 1)) := by
      show _ = _
      rw [List.drop_eq_getElem_cons g1, hc, List.getElem?_eq_getElem g1]; rfl
    rw [← hc] at hxe
    have HXe := hid hxe
    have hc0 : ¬ x < 0 := by omega
    have HC28 : Hid (c ≤ 268435456) := by show _ ≤ _; omega
    clear hx hc hxe
    have HSn : Hid (Sn (w1.alloc (.cells Tryz.zeroCells143 143)) w1.heap.size (fun _ _ => false)) := by show Sn _ _ _; rw [zeroSn]; exact new_sn w1
    have HA1 : Hid (Below w1.heap.size w1 (w1.alloc (.cells Tryz.zeroCells143 143))) := (Below.refl _ _).alloc (Nat.le_refl _) _
    have HStart : Hid (LvJ n es i b rb w1.heap.size v ts R r w (w1.alloc (.cells Tryz.zeroCells143 143)) [] (-1) (k + 1)) := by
      refine ⟨good_nil, by simp, ?_, ?_, HR1.out.below HA1.out, by omega, HB1.out.alloc _⟩
      · show Sn _ _ _
        rw [show snL (fun _ _ => false) (([] : List (List Itm)).flatten.map pv) = (fun _ _ => false) from by funext a d; simp [snL]]
        exact HSn.out
      · refine ⟨fun z => if z < n then [((z : Int), (z : Int))] else [], F, (HX1.out.below HA1.out).congr (fun _ _ _ _ => rfl) (fun j z _ hz => ?_), LayI.start⟩
        by_cases cj : j = i
        · subst cj; rw [if_pos rfl]; exact HBa.out z hz
        · rw [if_neg cj]
    clear HSn HA1 HX1 HR1
    go_wp2_with fail
    generalize w1.alloc (.cells Tryz.zeroCells143 143) = wA at HStart ⊢
    have HSb : Hid (w.heap.size ≤ w1.heap.size) := HB1.out.size
    generalize w1.heap.size = sb at HStart HSb ⊢
    clear HB1
    go_loopw [9, 10] (fun a q wr => ∃ (m : Nat) (la : Int) (ls : List (List Itm)) (kk : Nat), m ≤ c ∧ a = .int .i64 la ∧ q = .int .i64 m ∧ Hid (RdI n es i c (ts.drop (k + 1)) m la ls (ts.drop kk)) ∧ Hid (LvJ n es i b rb sb v ts R r w wr ls la kk)) (fun _ q _ => c - (intOf q).toNat)
    case atStart => exact ⟨0, -1, [], k + 1, by omega, rfl, rfl, RdI.start, HStart⟩
    case round =>
      obtain ⟨m, la, ls, kk, hm, rfl, rfl, HRd, HL⟩ := hrel
      obtain ⟨Ri, F1, x1, x2⟩ := HL.out.ix
      have HX := hid x1
      have HLa := hid x2
      have HG := hid HL.out.good
      have hsz := HL.out.bt.size
      have hn' := x1.hn
      have hbl := x1.row.lt
      clear x1 x2
      by_cases cm : m < c
      · have cm' : (m : Int) < x := by have := HXe.out; omega
        have HCm := hid cm
        go_wp2_with fail
        refine (readRound_any wr b n rb B v ts kk hn' hbl HNe.out h48 HL.out.rd (nums_but HN.out HL.out.bt (fun q hq _ hty => by
          rcases hq with rfl | rfl
          · exact hty.ne (show TyAt w q 104 from HX0.out.ty) (by decide) rfl
          · exact hty.ne HR.out.ty (by decide) rfl)) HL.out.kk hl).mono ?_
        rintro e w2 ⟨hcase, hb2⟩
        have HB2 : Hid (But (fun q => q = b ∨ q = rb) w w2) := HL.out.bt.same (hb2.wide (fun _ _ q => Or.inr q))
        have HX2 : Hid (IdxP w2 b n (look es) (fun j => if j = i then Ri else R j) r F1) := HX.out.but hb2 HNe.out (fun q hq _ hty => by subst hq; exact hty.ne HL.out.rd.ty (by decide) rfl)
        have HS2 := hid (HL.out.sn.but hb2 (fun q => by subst q; exact HL.out.sn.ty.ne HL.out.rd.ty (by decide) rfl))
        have HKl := hid HL.out.la
        clear HX HL hb2 hn'
        rcases hcase with ⟨hrn, rfl⟩ | ⟨l, t', k', val, hrr, rfl, hown, hk', hdr, hrd⟩
        · have HRt : Hid (LevelR n es i b rb v ts k R r w (.returned (.bool false)) w2) := level_no (by rw [HD.out]; exact HRd.out.no cm hrn) HB2.out
          clear hrn HRd
          go_wp2_with fail
          go_ret
          exact HRt.out
        · obtain ⟨f, z, e1, e2, e3, e4, e5, e6, e7, e8⟩ := rrF_ok hrr
          have hfd := hdv_cons e3
          have hlne : l ≠ [] := by rw [e3]; simp
          have hlen0 : (l.map pv).length = l.length := List.length_map _
          rw [← hlen0] at hown
          obtain ⟨g, cap, hpat, hgB⟩ := pat_of_owns hown (by simpa using hlne)
          have hval := hpat.hv
          have y0 := hpat.c0 0 (by omega)
          rw [pv_head l hlne] at y0
          simp only [Nat.zero_mul, Nat.add_zero] at y0
          obtain ⟨pl, hpl⟩ : ∃ pl, pl = l.map pv := ⟨_, rfl⟩
          rw [← hpl] at hpat hval hlen0
          have hFi : FitP es i (snL (fun _ _ => false) (ls.flatten.map pv)) pl ↔ Fit es i ls.flatten l := by
            rw [hpl]
            exact fit_iff h48 hlne e7 HG.out.okN (fun a d _ _ => seen_iff HG.out.okN h48 a d)
          have hplok : ∀ x, x ∈ pl → 0 ≤ x.1 ∧ x.1 < 48 ∧ 0 ≤ x.2 ∧ x.2 < 48 := fun x hx => by
            rw [hpl] at hx
            obtain ⟨y, hy, rfl⟩ := List.mem_map.1 hx
            have := pv_rng (e7 y hy)
            omega
          have HFi := hid hFi
          have HPok := hid hplok
          have HPl := hid hpl
          have HP2 := hid hpat
          have hle := hpat.le
          have hmx := hpat.mx
          unfold maxLen at hmx
          have hplp : 0 < pl.length := by omega
          have hpl3 : pl.length ≤ 3000 := by omega
          have hL0 : ((pl.length : Int) == 0) = false := beq_eq_false_iff_ne.2 (by omega)
          have hL1 : (0 : Int) < (pl.length : Int) := by omega
          have hf48 : f < 48 := by omega
          have HRr := hid hrr
          have HFd := hid hfd
          have HRd2 := hid hrd
          have HDr := hid hdr
          have HE7 := hid e7
          have HKk := hid hk'
          obtain ⟨p, hp⟩ : ∃ p, p = hdv l := ⟨_, rfl⟩
          rw [← hp] at y0
          have HPd := hid hp
          have HGl := hid hpat.lt
          clear hp hfd hFi hplok hpl hpat hlen0 hown e1 e2 e3 e4 e5 e6 e7 e8 hrr hrd hdr hk' hlne hgB
          subst hval
          by_cases cp : p ≤ la
          · have HRt : Hid (LevelR n es i b rb v ts k R r w (.returned (.bool false)) w2) := level_no (by rw [HD.out]; exact HRd.out.bad cm HRr.out (fun q => by have := HPd.out; omega)) HB2.out
            clear HRd
            go_wp2_with fail
            go_ret
            exact HRt.out
          · have cp' : decide (p ≤ la) = false := decide_eq_false cp
            have HCp : Hid (la < p) := by show _ < _; omega
            go_wp2_with fail
            refine (fits_any w2 b n es _ r F1 g 0 cap sb i _ pl HX2.out HE.out HP2.out HS2.out hplp hpl3 HPok.out).mono ?_
            rintro e w3 ⟨cf, rfl, hcf, hsn3, hb3⟩
            have HSb2 : Hid (¬ b = sb ∧ ¬ rb = sb ∧ ¬ g = sb) := by
              refine ⟨by have := HSb.out; omega, by have := HSb.out; omega, fun q => ?_⟩
              subst q
              exact (show TyAt w2 g 146 from HP2.out.ty).ne HS2.out.ty (by decide) rfl
            have HB3 : Hid (But (fun q => q = b ∨ q = rb) w w3) := HB2.out.trans hb3 (fun j hj q => by have := HSb.out; omega)
            have hfi := hcf.trans HFi.out
            cases cf
            · have HRt : Hid (LevelR n es i b rb v ts k R r w (.returned (.bool false)) w3) := level_no (by rw [HD.out]; exact HRd.out.bad cm HRr.out (fun q => by have := hfi.2 q.2; simp at this)) HB3.out
              clear HRd hcf hsn3 hb3 hfi
              go_wp2_with fail
              go_ret
              exact HRt.out
            · have HFt := hid (hfi.1 rfl)
              have HX3 : Hid (IdxP w3 b n (look es) (fun j => if j = i then Ri else R j) r F1) := HX2.out.but hb3 HSb2.out.1 (fun q hq _ hty => by subst hq; exact hty.ne HS2.out.ty (by decide) rfl)
              have HP3 := hid (HP2.out.block (hb3.block g HGl.out HSb2.out.2.2))
              have HR3 := hid (HRd2.out.but hb3 HSb2.out.2.1)
              have HS3 := hid (hsn3 rfl)
              have HR1 := hid (rdok_of HRr.out HFt.out)
              have HFo : Hid (Fo w3 b (6913 + i * 48) F1 Ri) := by
                have := HX3.out.fo (k := i) hi
                simp only [if_true] at this
                exact this
              have HPl2 : Hid (PLeast pl f) := by
                have q : LeastAt l f := ⟨by obtain ⟨f', _, h2, h3⟩ := HR1.out.hdv; have := HFd.out; rw [show f = f' by omega]; exact h3, fun x hx => by have := HR1.out.lo x hx; have := HFd.out; omega⟩
                show PLeast _ _
                rw [HPl.out]; exact q.p
              have HVn : Hid ((vtxs pl).Nodup) := by show List.Nodup _; rw [HPl.out]; exact vtxs_nodup h48 HE7.out HFt.out.nd
              have HAl : Hid (∀ u, u ∈ vtxs pl → Ri u = [((u : Int), (u : Int))] ∧ ∀ y, y ≠ u → ((u : Int), (u : Int)) ∉ Ri y) := fun u hu => by
                rw [HPl.out, vtxs_mem h48 HE7.out] at hu
                have ou := HE7.out _ hu
                refine HLa.out.alone (es := es) (i := i) h48 HG.out.ok (by have := ou.2.1; simp only at this; omega) (fun j hj q => HFt.out.nw _ hu (List.mem_flatten.2 ⟨j, hj, q⟩))
              clear hcf hsn3 hb3 hfi
              go_wp2_with fail
              refine (Lay_any w3 b (6913 + i * 48) F1 Ri g 0 cap pl f HFo.out HP3.out hf48 HPl2.out hpl3 (fun x hx => ⟨(HPok.out x hx).1, (HPok.out x hx).2.1⟩) HVn.out HAl.out).mono ?_
              rintro e w4 ⟨F4, rfl, hf4, hm4, hb4⟩
              have HL4 : Hid (LvJ n es i b rb sb v ts R r w w4 (ls ++ [l]) p k') := by
                obtain ⟨g1', g2'⟩ := HG.out.more HKl.out HR1.out (by rw [← HPd.out]; exact HCp.out) HFt.out
                refine ⟨g1', by rw [HPd.out]; exact g2', ?_, ?_, HR3.out.but hb4 (fun q => HNe.out q.symm), HKk.out, HB3.out.same (hb4.wide (fun _ _ q => Or.inl q))⟩
                · have e : snL (snL (fun _ _ => false) (ls.flatten.map pv)) pl = snL (fun _ _ => false) ((ls ++ [l]).flatten.map pv) := by
                    funext a d
                    rw [flat_one, List.map_append, ← HPl.out]
                    simp only [snL, Bool.false_or, List.mem_append, Bool.decide_or]
                  rw [← e]
                  exact HS3.out.but hb4 (fun q => HSb2.out.1 q.symm)
                · refine ⟨layS Ri l, F4, (HX3.out.forest hi hf4 hm4 hb4).congr (fun _ _ _ _ => rfl) (fun j y _ _ => ?_), HLa.out.step HG.out.ok HR1.out HFt.out.nw⟩
                  by_cases cj : j = i
                  · subst cj
                    rw [if_pos rfl, if_pos rfl]
                    have := lay_eq h48 HR1.out HFd.out Ri y
                    rw [← HPl.out] at this
                    exact this
                  · rw [if_neg cj, if_neg cj, if_neg cj]
              have HRd4 : Hid (RdI n es i c (ts.drop (k + 1)) (m + 1) p (ls ++ [l]) (ts.drop k')) := by
                have := HRd.out.step cm HRr.out ⟨by rw [← HPd.out]; exact HCp.out, HFt.out⟩
                rw [← HPd.out, ← HDr.out] at this
                exact this
              clear hf4 hm4 hb4 HRd
              have hm9 : m ≤ 268435456 := by have := HC28.out; have := HCm.out; omega
              go_wp2
              have hcm := HCm.out
              exact ⟨⟨m + 1, p, ls ++ [l], k', hcm, rfl, by go_num, HRd4, HL4⟩, by simp [intOf]; omega⟩
      · have cm' : ¬ (m : Int) < x := by have := HXe.out; omega
        go_wp2_with fail
        refine (allSeen_any wr b n es _ r F1 sb i _ HX.out HE.out HL.out.sn).mono ?_
        rintro e w2 ⟨ca, rfl, hca, hb2⟩
        have HRt : Hid (LevelR n es i b rb v ts k R r w (.returned (.bool ca)) w2) := by
          have hb3 : But (fun q => q = b ∨ q = rb) w w2 := HL.out.bt.trans (S' := fun _ => False) (But.of hb2) (fun _ _ q => q.elim)
          have pe := HRd.out.end_ (show m = c by omega)
          rw [← HD.out] at pe
          have ci := hca.trans (cov_iff HE.out HG.out.okN h48)
          refine ⟨ca, rfl, hb3, fun q => ?_, fun ls' t' q => ?_⟩
          · cases ca
            · rfl
            · rw [pe, if_pos (ci.1 rfl)] at q; simp at q
          · by_cases z : ∀ a b : Int, TreeE es i a b → (a, b) ∈ ls.flatten
            · rw [pe, if_pos z] at q
              injection q with q
              injection q with q1 q2
              subst q1 q2
              exact ⟨ci.2 z, Ri, F1, kk, HX.out.below hb2, HLa.out, HL.out.kk, rfl, HL.out.rd.below hb2⟩
            · rw [pe, if_neg z] at q; simp at q
        clear hca hb2
        go_wp2_with fail
        go_ret
        exact HRt.out
  · have HRt : Hid (LevelR n es i b rb v ts k1 R r w (.returned (.bool false)) w1) := level_no (by rw [List.drop_eq_nil_of_le g1]; rfl) HB1.out
    go_wp2_with fail
    go_ret
    exact HRt.out

end Go.Proofs.YtckallochdegiaaGreat
