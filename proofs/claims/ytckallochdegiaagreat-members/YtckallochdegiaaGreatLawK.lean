import Derived.Test.YtckallochdegiaaGreatLawI
namespace Go.Proofs.YtckallochdegiaaGreat
set_option linter.unusedVariables false
set_option linter.unusedSimpArgs false
open Go.RowKit

set_option maxRecDepth 100000 in
set_option maxHeartbeats 1000000 in
/-- looks: the lists still read as they were written. -/
theorem looks_any (w : World) (B W n m : Nat) (ps : Nat → Pr) (ts : List ByteArray) (ys : List Value) (iv tv lv : Value) (h : Law w B W n m ps ts ys iv tv lv) (hn : n ≤ 2 ^ 22) : Calls Tryz.prog 24 #[ptr W] w fun e w' => e = .returned (.bool true) ∧ w' = w := by
  have d2 := h.c2
  have hyl := h.ll
  obtain ⟨lp, lc, hlv⟩ : ∃ lp lc, lv = .slice lp ys.length lc := by
    rcases h.lO.2 with ⟨q, q2⟩ | ⟨gb, cp, cur, q, _⟩
    · exact ⟨none, 0, by rw [q, q2]⟩
    · exact ⟨_, _, q⟩
  have HY : Hid (∀ k, k < ys.length → ∃ lb, lp = some ⟨lb, 0, none⟩ ∧ ys.length ≤ lc ∧ lc ≤ maxLen ∧ w.cell? ⟨lb, k, none⟩ = some (ys[k]?.getD undef)) := by
    intro k hk
    rcases h.lO.2 with ⟨q, q2⟩ | ⟨gb, cp, cur, q, q1, q2, q3, q4, q5⟩
    · omega
    · rw [hlv] at q
      simp only [Value.slice.injEq] at q
      obtain ⟨rfl, _, rfl⟩ := q
      have := h.lO.cells (g := gb) (by rw [hlv]; rfl) k (ys[k]?.getD undef) (by rw [List.getElem?_eq_getElem hk]; rfl)
      rw [addr_add, Nat.zero_add] at this
      exact ⟨gb, rfl, q3, q4, this⟩
  rw [hlv] at d2
  have HLs := hid h.ls
  clear h hlv
  go_enter Tryz.func24, Tryz.ntmps24
  go_wp2_with fail
  go_loopw [12] (fun c wr => ∃ k : Nat, k ≤ ys.length ∧ c = .int .i64 k ∧ wr = w) (fun c _ => ys.length - (intOf c).toNat)
  case atStart => exact ⟨0, by omega, rfl, rfl⟩
  case round =>
    obtain ⟨k, hk, rfl, hw⟩ := hrel
    replace hw := hw.symm
    subst hw
    by_cases ck : k < ys.length
    · have ck' : (k : Int) < (ys.length : Int) := by omega
      obtain ⟨lb, hlp, hc1, hc2, hce⟩ := HY.out k ck
      unfold maxLen at hc2
      obtain ⟨g, cap, hv, hcm, hrow⟩ := HLs.out k ck
      unfold maxLen at hcm
      rw [hv] at hce
      have HRow := hid hrow
      clear hv hrow
      subst hlp
      go_wp2_with fail
      go_loopw [19] (fun c wr => ∃ i : Nat, i ≤ cap ∧ c = .int .i64 i ∧ wr = w) (fun c _ => cap - (intOf c).toNat)
      case atStart => exact ⟨0, by omega, rfl, rfl⟩
      case round =>
        obtain ⟨i, hi, rfl, hw⟩ := hrel
        replace hw := hw.symm
        subst hw
        by_cases ci : i < cap
        · have ci' : (i : Int) < (cap : Int) := by omega
          have d := HRow.out.cell (i := i) ci
          go_wp2
          exact ⟨⟨i + 1, by omega, by go_num, by trivial⟩, by simp [intOf]; omega⟩
        · go_wp2
          exact ⟨⟨k + 1, by omega, by go_num, by trivial⟩, by simp [intOf]; omega⟩
    · go_wp2
      go_ret
      exact ⟨rfl, rfl⟩

/-- A script: cells of n steps at block sb. -/
structure Script (w : World) (sb so n : Nat) (K A B C : Nat → Int) (S T : Nat → ByteArray) : Prop where
  c0 : ∀ i, i < n → w.cell? ⟨sb, so + i * 6, none⟩ = some (.int .i64 (K i))
  c1 : ∀ i, i < n → w.cell? ⟨sb, so + i * 6 + 1, none⟩ = some (.int .i64 (A i))
  c2 : ∀ i, i < n → w.cell? ⟨sb, so + i * 6 + 1 + 1, none⟩ = some (.int .i64 (B i))
  c3 : ∀ i, i < n → w.cell? ⟨sb, so + i * 6 + 1 + 1 + 1, none⟩ = some (.int .i64 (C i))
  c4 : ∀ i, i < n → w.cell? ⟨sb, so + i * 6 + 1 + 1 + 1 + 1, none⟩ = some (.string (S i))
  c5 : ∀ i, i < n → w.cell? ⟨sb, so + i * 6 + 1 + 1 + 1 + 1 + 1, none⟩ = some (.string (T i))
  rA : ∀ i, i < n → -9223372036854775808 ≤ A i ∧ A i ≤ 9223372036854775807
  rB : ∀ i, i < n → -9223372036854775808 ≤ B i ∧ B i ≤ 9223372036854775807
  rC : ∀ i, i < n → -9223372036854775808 ≤ C i ∧ C i ≤ 9223372036854775807
  zS : ∀ i, i < n → (S i).size ≤ 140737488351232
  zT : ∀ i, i < n → (T i).size ≤ 140737488351232
  lt : sb < w.heap.size

theorem Script.below {w w' : World} {sb so n X : Nat} {K A B C : Nat → Int} {S T : Nat → ByteArray} (h : Script w sb so n K A B C S T) (b : Below X w w') (hX : w.heap.size ≤ X) : Script w' sb so n K A B C S T := by
  have e : ∀ o, w'.cell? ⟨sb, o, none⟩ = w.cell? ⟨sb, o, none⟩ := fun o => b.cell (p := ⟨sb, o, none⟩) (by show sb < X; have := h.lt; omega)
  exact ⟨fun i hi => by rw [e]; exact h.c0 i hi, fun i hi => by rw [e]; exact h.c1 i hi, fun i hi => by rw [e]; exact h.c2 i hi, fun i hi => by rw [e]; exact h.c3 i hi, fun i hi => by rw [e]; exact h.c4 i hi, fun i hi => by rw [e]; exact h.c5 i hi, h.rA, h.rB, h.rC, h.zS, h.zT, by have := h.lt; have := b.size; omega⟩

end Go.Proofs.YtckallochdegiaaGreat
namespace Go.Proofs.YtckallochdegiaaGreat
set_option linter.unusedVariables false
set_option linter.unusedSimpArgs false
open Go.RowKit

/-- What small answers. -/
def SmallR (n : Nat) (S : Nat → ByteArray) (w : World) (e : Ending) (w' : World) : Prop := ∃ b : Bool, e = .returned (.bool b) ∧ (b = true → n ≤ 1048576 ∧ ∀ i, i < n → (S i).size ≤ 1048576) ∧ Below w.heap.size w w'

set_option maxRecDepth 100000 in
set_option maxHeartbeats 1000000 in
/-- small: are the steps few, and their texts short? -/
theorem small_any (w : World) (sb so n cap : Nat) (K A B C : Nat → Int) (S T : Nat → ByteArray) (h : Script w sb so n K A B C S T) (hn : n ≤ cap) (hc : cap ≤ maxLen) :
    Calls Tryz.prog 15 #[.slice (some ⟨sb, so, none⟩) n cap] w (SmallR n S w) := by
  unfold maxLen at hc
  have HS := hid h
  clear h
  by_cases c : (1048576 : Int) < (n : Int)
  · go_enter Tryz.func15, Tryz.ntmps15
    go_wp2
    go_ret
    exact ⟨false, rfl, fun q => by simp at q, Below.refl _ _⟩
  · have hn2 : n ≤ 1048576 := by omega
    go_enter Tryz.func15, Tryz.ntmps15
    go_wp2_with fail
    go_loopw [3, 12] (fun a c wr => ∃ t i : Nat, i ≤ n ∧ t ≤ 1048576 ∧ a = .int .i64 t ∧ c = .int .i64 i ∧ Hid (∀ j, j < i → (S j).size ≤ 1048576) ∧ Hid (Below w.heap.size w wr)) (fun _ c _ => n - (intOf c).toNat)
    case atStart => exact ⟨n, 0, by omega, hn2, rfl, rfl, fun j hj => by omega, Below.refl _ _⟩
    case round =>
      obtain ⟨t, i, hi, ht, rfl, rfl, hZ, hB⟩ := hrel
      have HSr := hid (HS.out.below hB.out (Nat.le_refl _))
      by_cases ci : i < n
      · have ci' : (i : Int) < (n : Int) := by omega
        have d4 := HSr.out.c4 i ci
        have d5 := HSr.out.c5 i ci
        have z4 := HSr.out.zS i ci
        have z5 := HSr.out.zT i ci
        have HSi : Hid (∀ sx, sx = S i → sx.size ≤ 1048576 → ∀ j, j < i + 1 → (S j).size ≤ 1048576) := by
          intro sx hx hz j hj
          by_cases q : j = i
          · rw [q, ← hx]; exact hz
          · exact hZ.out j (by omega)
        obtain ⟨sx, hsx⟩ : ∃ sx, sx = S i := ⟨_, rfl⟩
        have HSx := hid hsx
        rw [← hsx] at d4 z4
        clear hsx
        generalize T i = tx at d5 z5
        by_cases cg : (1048576 : Int) < (t : Int) + ((sx.size : Int) + (tx.size : Int))
        · have cg' : decide ((1048576 : Int) < (t : Int) + ((sx.size : Int) + (tx.size : Int))) = true := by simpa using cg
          go_wp2_with fail
          go_quiet (fail)
          go_wp2
          go_ret
          exact ⟨false, rfl, fun q => by simp at q, Below.drewN' _ hB.out⟩
        · have hsz : sx.size ≤ 1048576 := by omega
          have HZ2 := hid (HSi.out sx HSx.out hsz)
          go_wp2_with fail
          go_quiet (fail)
          go_wp2
          exact ⟨⟨t + (sx.size + tx.size), i + 1, by omega, by omega, by go_num, by go_num, HZ2, Below.drewN' _ hB.out⟩, by simp [intOf]; omega⟩
      · have ci' : ¬ (i : Int) < (n : Int) := by omega
        have hin : i = n := by omega
        go_wp2
        go_ret
        subst hin
        exact ⟨true, rfl, fun _ => ⟨hn2, hZ.out⟩, hB.out⟩

end Go.Proofs.YtckallochdegiaaGreat
namespace Go.Proofs.YtckallochdegiaaGreat
set_option linter.unusedVariables false
set_option linter.unusedSimpArgs false
open Go.RowKit

/-- What UpTo answers where all that is asked is right. -/
def UpR (w : World) (e : Ending) (w' : World) : Prop := e = .returned (.int .i64 (-1)) ∧ Below w.heap.size w w'

theorem law_new (w : World) : LawX (w.alloc (.cells #[.slice none 0 0, .slice none 0 0, .slice none 0 0, .bool false] 31)) w.heap.size w.heap.size 0 := by
  refine ⟨0, fun _ => ⟨0, 0, 0, 0, .slice none 0 0, fun _ => .slice none 0 0, 0, newG 1⟩, [], [], .slice none 0 0, .slice none 0 0, .slice none 0 0, ?_, World.ownsRow_nil _ _ _ _, World.ownsRow_nil _ _ _ _, World.ownsRow_nil _ _ _ _, Nat.le_refl _, fun j hj => by omega, fun j hj => by omega, fun i j hi => by omega, Nat.le_refl _, Nat.le_refl _, Nat.le_refl _, fun t ht => by simp at ht, fun k hk => by simp at hk⟩
  refine World.rowIs_alloc w _ _ _ ?_
  intro i hi
  match i, hi with
  | 0, _ => rfl
  | 1, _ => rfl
  | 2, _ => rfl
  | 3, _ => rfl

set_option maxRecDepth 100000 in
set_option maxHeartbeats 1000000 in
theorem UpTo_F (hLd : LoadC) (w : World) (sb so n cap : Nat) (K A B C : Nat → Int) (S T : Nat → ByteArray) (o : Int) (h : Script w sb so n K A B C S T) (hn : n ≤ cap) (hc : cap ≤ maxLen) (hn2 : n ≤ 1048576) (hS : ∀ i, i < n → (S i).size ≤ 1048576) (ho : o ≠ 0 ∧ o ≠ -1) :
    Calls Tryz.prog 16 #[.slice (some ⟨sb, so, none⟩) n cap, .int .i64 o] w (UpR w) := by
  unfold maxLen at hc
  have HS := hid h
  have HZ := hid hS
  have HLd := hid hLd
  have o0 : (o == 0) = false := beq_eq_false_iff_ne.2 (by omega)
  have om : (o == -1) = false := beq_eq_false_iff_ne.2 (by omega)
  have HL0 := hid (law_new w)
  clear h hS ho hLd
  go_enter Tryz.func16, Tryz.ntmps16
  go_wp2_with fail
  obtain ⟨W, hW⟩ : ∃ W, W = w.heap.size := ⟨_, rfl⟩
  have HW := hid hW
  rw [← hW]
  clear hW
  go_loopw [11] (fun a wr => ∃ i : Nat, i ≤ n ∧ a = .int .i64 i ∧ Hid (LawX wr w.heap.size W i) ∧ Hid (Below w.heap.size w wr)) (fun a _ => n - (intOf a).toNat)
  case atStart => exact ⟨0, by omega, rfl, by rw [HW.out]; exact HL0.out, (Below.refl _ _).alloc (Nat.le_refl _) _⟩
  case round =>
    clear HL0
    obtain ⟨i, hi, rfl, hL, hB⟩ := hrel
    have hBs := hB.out.size
    have HSr := hid (HS.out.below hB.out (Nat.le_refl _))
    by_cases ci : i < n
    · have ci' : (i : Int) < (n : Int) := by omega
      have d0 := HSr.out.c0 i ci
      have d1 := HSr.out.c1 i ci
      have d2 := HSr.out.c2 i ci
      have d3 := HSr.out.c3 i ci
      have d4 := HSr.out.c4 i ci
      have d5 := HSr.out.c5 i ci
      have HRa := hid (HSr.out.rA i ci)
      have HRb := hid (HSr.out.rB i ci)
      have HRc := hid (HSr.out.rC i ci)
      have HZi := hid (HZ.out i ci)
      have hsl := HS.out.lt
      obtain ⟨m, ps, ts, ys, iv, tv, lv, hl⟩ := hL.out
      have HT := hid (step_F HLd.out wr w.heap.size W i m ps ts ys iv tv lv (K i) (A i) (B i) (C i) (S i) (T i) hl (by omega) hBs HZi.out HRa.out.1 HRa.out.2 HRb.out.1 HRb.out.2 HRc.out.1 HRc.out.2)
      clear hl HRa HRb HRc HZi
      generalize K i = k at d0 HT
      generalize A i = a at d1 HT
      generalize B i = b at d2 HT
      generalize C i = c at d3 HT
      generalize S i = s at d4 HT
      generalize T i = t at d5 HT
      go_wp2_with fail
      refine HT.out.mono ?_
      rintro _ w2 ⟨rfl, hg2, hb2⟩
      have HG2 := hid hg2
      have HB2 : Hid (Below w.heap.size w w2) := hB.out.trans hb2
      have e0 : w2.cell? ⟨sb, so + i * 6, none⟩ = some (.int .i64 k) := (hb2.cell (p := ⟨sb, so + i * 6, none⟩) hsl).trans d0
      obtain ⟨m2, ps2, ts2, ys2, iv2, tv2, lv2, hl2⟩ := hg2
      have e3 := hl2.c3
      clear hl2 hb2 d0 d1 d2 d3 d4 d5 HT
      clear e0 e3
      go_wp2
      exact ⟨⟨i + 1, by omega, by go_num, HG2, HB2⟩, by simp [intOf]; omega⟩
    · have ci' : ¬ (i : Int) < (n : Int) := by omega
      go_wp2
      go_ret
      exact ⟨rfl, hB.out⟩

set_option maxRecDepth 100000 in
set_option maxHeartbeats 1000000 in
/-- UpTo, where the lists are asked. -/
theorem UpTo_L (hLd : LoadC) (w : World) (sb so n cap : Nat) (K A B C : Nat → Int) (S T : Nat → ByteArray) (o : Int) (ho : o = 0 ∨ o = -1) (h : Script w sb so n K A B C S T) (hn : n ≤ cap) (hc : cap ≤ maxLen) (hn2 : n ≤ 1048576) (hS : ∀ i, i < n → (S i).size ≤ 1048576) :
    Calls Tryz.prog 16 #[.slice (some ⟨sb, so, none⟩) n cap, .int .i64 o] w (UpR w) := by
  unfold maxLen at hc
  have HS := hid h
  have HZ := hid hS
  have HL0 := hid (law_new w)
  have HLd := hid hLd
  have HO := hid ho
  clear h hS ho hLd
  go_enter Tryz.func16, Tryz.ntmps16
  go_wp2_with fail
  obtain ⟨W, hW⟩ : ∃ W, W = w.heap.size := ⟨_, rfl⟩
  have HW := hid hW
  rw [← hW]
  clear hW
  go_loopw [11] (fun a wr => ∃ i : Nat, i ≤ n ∧ a = .int .i64 i ∧ Hid (LawX wr w.heap.size W i) ∧ Hid (Below w.heap.size w wr)) (fun a _ => n - (intOf a).toNat)
  case atStart => exact ⟨0, by omega, rfl, by rw [HW.out]; exact HL0.out, (Below.refl _ _).alloc (Nat.le_refl _) _⟩
  case round =>
    clear HL0
    obtain ⟨i, hi, rfl, hL, hB⟩ := hrel
    have hBs := hB.out.size
    have HSr := hid (HS.out.below hB.out (Nat.le_refl _))
    by_cases ci : i < n
    · have ci' : (i : Int) < (n : Int) := by omega
      have d0 := HSr.out.c0 i ci
      have d1 := HSr.out.c1 i ci
      have d2 := HSr.out.c2 i ci
      have d3 := HSr.out.c3 i ci
      have d4 := HSr.out.c4 i ci
      have d5 := HSr.out.c5 i ci
      have HRa := hid (HSr.out.rA i ci)
      have HRb := hid (HSr.out.rB i ci)
      have HRc := hid (HSr.out.rC i ci)
      have HZi := hid (HZ.out i ci)
      have hsl := HS.out.lt
      obtain ⟨m, ps, ts, ys, iv, tv, lv, hl⟩ := hL.out
      have HT := hid (step_F HLd.out wr w.heap.size W i m ps ts ys iv tv lv (K i) (A i) (B i) (C i) (S i) (T i) hl (by omega) hBs HZi.out HRa.out.1 HRa.out.2 HRb.out.1 HRb.out.2 HRc.out.1 HRc.out.2)
      clear hl HRa HRb HRc HZi
      generalize K i = k at d0 HT
      generalize A i = a at d1 HT
      generalize B i = b at d2 HT
      generalize C i = c at d3 HT
      generalize S i = s at d4 HT
      generalize T i = t at d5 HT
      go_wp2_with fail
      refine HT.out.mono ?_
      rintro _ w2 ⟨rfl, hg2, hb2⟩
      have HG2 := hid hg2
      have HB2 : Hid (Below w.heap.size w w2) := hB.out.trans hb2
      have e0 : w2.cell? ⟨sb, so + i * 6, none⟩ = some (.int .i64 k) := (hb2.cell (p := ⟨sb, so + i * 6, none⟩) hsl).trans d0
      obtain ⟨m2, ps2, ts2, ys2, iv2, tv2, lv2, hl2⟩ := hg2
      have e3 := hl2.c3
      have HLk := hid (looks_any w2 w.heap.size W (i + 1) m2 ps2 ts2 ys2 iv2 tv2 lv2 hl2 (by omega))
      clear hl2 hb2 d0 d1 d2 d3 d4 d5 HT
      clear e0 e3
      rcases HO.out with rfl | rfl
      all_goals
        go_wp2_with fail
        refine HLk.out.mono ?_
        rintro _ w4 ⟨rfl, hw⟩
        replace hw := hw.symm
        subst hw
        go_wp2
        exact ⟨⟨i + 1, by omega, by go_num, HG2, HB2⟩, by simp [intOf]; omega⟩
    · have ci' : ¬ (i : Int) < (n : Int) := by omega
      go_wp2
      go_ret
      exact ⟨rfl, hB.out⟩

end Go.Proofs.YtckallochdegiaaGreat
namespace Go.Proofs.YtckallochdegiaaGreat
set_option linter.unusedVariables false
set_option linter.unusedSimpArgs false
open Go.RowKit

/-- A script, as the laws take it. -/
def ScriptV (w : World) (v : Value) : Prop := (∃ p cap, v = .slice p 0 cap) ∨ ∃ sb so n cap K A B C S T, v = .slice (some ⟨sb, so, none⟩) n cap ∧ n ≤ cap ∧ cap ≤ maxLen ∧ Script w sb so n K A B C S T

set_option maxRecDepth 100000 in
set_option maxHeartbeats 400000 in
theorem small_zero (w : World) (p : Option Addr) (cap : Nat) : Calls Tryz.prog 15 #[.slice p 0 cap] w fun e w' => e = .returned (.bool true) ∧ w' = w := by
  go_enter Tryz.func15, Tryz.ntmps15
  go_wp2_with fail
  go_loopw [12] (fun c wr => c = .int .i64 0 ∧ wr = w) (fun _ _ => 0)
  case atStart => exact ⟨rfl, rfl⟩
  case round =>
    obtain ⟨rfl, rfl⟩ := hrel
    go_wp2
    go_ret
    exact ⟨rfl, rfl⟩

set_option maxRecDepth 100000 in
set_option maxHeartbeats 400000 in
theorem UpTo_zero (w : World) (p : Option Addr) (cap : Nat) (o : Int) : Calls Tryz.prog 16 #[.slice p 0 cap, .int .i64 o] w (UpR w) := by
  go_enter Tryz.func16, Tryz.ntmps16
  go_wp2_with fail
  go_loopw [11] (fun c wr => c = .int .i64 0 ∧ Hid (Below w.heap.size w wr)) (fun _ _ => 0)
  case atStart => exact ⟨rfl, (Below.refl _ _).alloc (Nat.le_refl _) _⟩
  case round =>
    obtain ⟨rfl, hB⟩ := hrel
    go_wp2
    go_ret
    exact ⟨rfl, hB.out⟩

/-- small, and what it opens. -/
def SmallV (v : Value) (w : World) (e : Ending) (w' : World) : Prop := ∃ b : Bool, e = .returned (.bool b) ∧ Below w.heap.size w w' ∧ (b = true → ∀ o : Int, Calls Tryz.prog 16 #[v, .int .i64 o] w' (UpR w'))

theorem small_V (hLd : LoadC) (w : World) (v : Value) (h : ScriptV w v) : Calls Tryz.prog 15 #[v] w (SmallV v w) := by
  rcases h with ⟨p, cap, rfl⟩ | ⟨sb, so, n, cap, K, A, B, C, S, T, rfl, hn, hc, h⟩
  · refine (small_zero w p cap).mono ?_
    rintro _ w' ⟨rfl, rfl⟩
    exact ⟨true, rfl, Below.refl _ _, fun _ o => UpTo_zero _ p cap o⟩
  · refine (small_any w sb so n cap K A B C S T h hn hc).mono ?_
    rintro _ w' ⟨b, rfl, hb, hbl⟩
    refine ⟨b, rfl, hbl, fun q o => ?_⟩
    by_cases ho : o = 0 ∨ o = -1
    · exact UpTo_L hLd w' sb so n cap K A B C S T o ho (h.below hbl (Nat.le_refl _)) hn hc (hb q).1 (hb q).2
    · exact UpTo_F hLd w' sb so n cap K A B C S T o (h.below hbl (Nat.le_refl _)) hn hc (hb q).1 (hb q).2 (by omega)

/-- A law holds, and nothing that was there has turned. -/
def LawR (w : World) (e : Ending) (w' : World) : Prop := e = .returned (.bool true) ∧ Below w.heap.size w w'

set_option maxRecDepth 100000 in
set_option maxHeartbeats 400000 in
theorem news_walk (hLd : LoadC) (w : World) (v : Value) (h : ScriptV w v) : Calls Tryz.prog 3 #[v] w (LawR w) := by
  have HS := hid (small_V hLd w v h)
  clear h hLd
  go_enter Tryz.func3, Tryz.ntmps3
  go_wp2_with fail
  refine HS.out.mono ?_
  rintro _ w1 ⟨b, rfl, hb, hU⟩
  have HB := hid hb
  clear hb
  cases b
  · clear hU
    go_wp2
    go_ret
    exact ⟨rfl, HB.out⟩
  · have HU := hid (hU rfl 1)
    clear hU
    go_wp2_with fail
    refine HU.out.mono ?_
    rintro _ w2 ⟨rfl, hb2⟩
    have HB2 := hid (HB.out.trans (hb2.mono HB.out.size))
    clear hb2
    go_wp2
    go_ret
    exact ⟨rfl, HB2.out⟩

set_option maxRecDepth 100000 in
set_option maxHeartbeats 400000 in
theorem inserts_walk (hLd : LoadC) (w : World) (v : Value) (h : ScriptV w v) : Calls Tryz.prog 4 #[v] w (LawR w) := by
  have HS := hid (small_V hLd w v h)
  clear h hLd
  go_enter Tryz.func4, Tryz.ntmps4
  go_wp2_with fail
  refine HS.out.mono ?_
  rintro _ w1 ⟨b, rfl, hb, hU⟩
  have HB := hid hb
  clear hb
  cases b
  · clear hU
    go_wp2
    go_ret
    exact ⟨rfl, HB.out⟩
  · have HU := hid (hU rfl 2)
    clear hU
    go_wp2_with fail
    refine HU.out.mono ?_
    rintro _ w2 ⟨rfl, hb2⟩
    have HB2 := hid (HB.out.trans (hb2.mono HB.out.size))
    clear hb2
    go_wp2
    go_ret
    exact ⟨rfl, HB2.out⟩

set_option maxRecDepth 100000 in
set_option maxHeartbeats 400000 in
theorem deletes_walk (hLd : LoadC) (w : World) (v : Value) (h : ScriptV w v) : Calls Tryz.prog 5 #[v] w (LawR w) := by
  have HS := hid (small_V hLd w v h)
  clear h hLd
  go_enter Tryz.func5, Tryz.ntmps5
  go_wp2_with fail
  refine HS.out.mono ?_
  rintro _ w1 ⟨b, rfl, hb, hU⟩
  have HB := hid hb
  clear hb
  cases b
  · clear hU
    go_wp2
    go_ret
    exact ⟨rfl, HB.out⟩
  · have HU := hid (hU rfl 3)
    clear hU
    go_wp2_with fail
    refine HU.out.mono ?_
    rintro _ w2 ⟨rfl, hb2⟩
    have HB2 := hid (HB.out.trans (hb2.mono HB.out.size))
    clear hb2
    go_wp2
    go_ret
    exact ⟨rfl, HB2.out⟩

set_option maxRecDepth 100000 in
set_option maxHeartbeats 400000 in
theorem connects_walk (hLd : LoadC) (w : World) (v : Value) (h : ScriptV w v) : Calls Tryz.prog 6 #[v] w (LawR w) := by
  have HS := hid (small_V hLd w v h)
  clear h hLd
  go_enter Tryz.func6, Tryz.ntmps6
  go_wp2_with fail
  refine HS.out.mono ?_
  rintro _ w1 ⟨b, rfl, hb, hU⟩
  have HB := hid hb
  clear hb
  cases b
  · clear hU
    go_wp2
    go_ret
    exact ⟨rfl, HB.out⟩
  · have HU := hid (hU rfl 4)
    clear hU
    go_wp2_with fail
    refine HU.out.mono ?_
    rintro _ w2 ⟨rfl, hb2⟩
    have HB2 := hid (HB.out.trans (hb2.mono HB.out.size))
    clear hb2
    go_wp2
    go_ret
    exact ⟨rfl, HB2.out⟩

set_option maxRecDepth 100000 in
set_option maxHeartbeats 400000 in
theorem sizes_walk (hLd : LoadC) (w : World) (v : Value) (h : ScriptV w v) : Calls Tryz.prog 7 #[v] w (LawR w) := by
  have HS := hid (small_V hLd w v h)
  clear h hLd
  go_enter Tryz.func7, Tryz.ntmps7
  go_wp2_with fail
  refine HS.out.mono ?_
  rintro _ w1 ⟨b, rfl, hb, hU⟩
  have HB := hid hb
  clear hb
  cases b
  · clear hU
    go_wp2
    go_ret
    exact ⟨rfl, HB.out⟩
  · have HU := hid (hU rfl 5)
    clear hU
    go_wp2_with fail
    refine HU.out.mono ?_
    rintro _ w2 ⟨rfl, hb2⟩
    have HB2 := hid (HB.out.trans (hb2.mono HB.out.size))
    clear hb2
    go_wp2
    go_ret
    exact ⟨rfl, HB2.out⟩

set_option maxRecDepth 100000 in
set_option maxHeartbeats 400000 in
theorem members_walk (hLd : LoadC) (w : World) (v : Value) (h : ScriptV w v) : Calls Tryz.prog 8 #[v] w (LawR w) := by
  have HS := hid (small_V hLd w v h)
  clear h hLd
  go_enter Tryz.func8, Tryz.ntmps8
  go_wp2_with fail
  refine HS.out.mono ?_
  rintro _ w1 ⟨b, rfl, hb, hU⟩
  have HB := hid hb
  clear hb
  cases b
  · clear hU
    go_wp2
    go_ret
    exact ⟨rfl, HB.out⟩
  · have HU := hid (hU rfl 6)
    clear hU
    go_wp2_with fail
    refine HU.out.mono ?_
    rintro _ w2 ⟨rfl, hb2⟩
    have HB2 := hid (HB.out.trans (hb2.mono HB.out.size))
    clear hb2
    go_wp2
    go_ret
    exact ⟨rfl, HB2.out⟩

set_option maxRecDepth 100000 in
set_option maxHeartbeats 400000 in
theorem tells_walk (hLd : LoadC) (w : World) (v : Value) (h : ScriptV w v) : Calls Tryz.prog 9 #[v] w (LawR w) := by
  have HS := hid (small_V hLd w v h)
  clear h hLd
  go_enter Tryz.func9, Tryz.ntmps9
  go_wp2_with fail
  refine HS.out.mono ?_
  rintro _ w1 ⟨b, rfl, hb, hU⟩
  have HB := hid hb
  clear hb
  cases b
  · clear hU
    go_wp2
    go_ret
    exact ⟨rfl, HB.out⟩
  · have HU := hid (hU rfl 7)
    clear hU
    go_wp2_with fail
    refine HU.out.mono ?_
    rintro _ w2 ⟨rfl, hb2⟩
    have HB2 := hid (HB.out.trans (hb2.mono HB.out.size))
    clear hb2
    go_wp2
    go_ret
    exact ⟨rfl, HB2.out⟩

set_option maxRecDepth 100000 in
set_option maxHeartbeats 400000 in
theorem saves_walk (hLd : LoadC) (w : World) (v : Value) (h : ScriptV w v) : Calls Tryz.prog 10 #[v] w (LawR w) := by
  have HS := hid (small_V hLd w v h)
  clear h hLd
  go_enter Tryz.func10, Tryz.ntmps10
  go_wp2_with fail
  refine HS.out.mono ?_
  rintro _ w1 ⟨b, rfl, hb, hU⟩
  have HB := hid hb
  clear hb
  cases b
  · clear hU
    go_wp2
    go_ret
    exact ⟨rfl, HB.out⟩
  · have HU := hid (hU rfl 8)
    clear hU
    go_wp2_with fail
    refine HU.out.mono ?_
    rintro _ w2 ⟨rfl, hb2⟩
    have HB2 := hid (HB.out.trans (hb2.mono HB.out.size))
    clear hb2
    go_wp2
    go_ret
    exact ⟨rfl, HB2.out⟩

set_option maxRecDepth 100000 in
set_option maxHeartbeats 400000 in
theorem loads_walk (hLd : LoadC) (w : World) (v : Value) (h : ScriptV w v) : Calls Tryz.prog 11 #[v] w (LawR w) := by
  have HS := hid (small_V hLd w v h)
  clear h hLd
  go_enter Tryz.func11, Tryz.ntmps11
  go_wp2_with fail
  refine HS.out.mono ?_
  rintro _ w1 ⟨b, rfl, hb, hU⟩
  have HB := hid hb
  clear hb
  cases b
  · clear hU
    go_wp2
    go_ret
    exact ⟨rfl, HB.out⟩
  · have HU := hid (hU rfl 11)
    clear hU
    go_wp2_with fail
    refine HU.out.mono ?_
    rintro _ w2 ⟨rfl, hb2⟩
    have HB2 := hid (HB.out.trans (hb2.mono HB.out.size))
    clear hb2
    go_wp2
    go_ret
    exact ⟨rfl, HB2.out⟩

set_option maxRecDepth 100000 in
set_option maxHeartbeats 400000 in
theorem owned_walk (hLd : LoadC) (w : World) (v : Value) (h : ScriptV w v) : Calls Tryz.prog 12 #[v] w (LawR w) := by
  have HS := hid (small_V hLd w v h)
  clear h hLd
  go_enter Tryz.func12, Tryz.ntmps12
  go_wp2_with fail
  refine HS.out.mono ?_
  rintro _ w1 ⟨b, rfl, hb, hU⟩
  have HB := hid hb
  clear hb
  cases b
  · clear hU
    go_wp2
    go_ret
    exact ⟨rfl, HB.out⟩
  · have HU := hid (hU rfl (-1))
    clear hU
    go_wp2_with fail
    refine HU.out.mono ?_
    rintro _ w2 ⟨rfl, hb2⟩
    have HB2 := hid (HB.out.trans (hb2.mono HB.out.size))
    clear hb2
    go_wp2
    go_ret
    exact ⟨rfl, HB2.out⟩

set_option maxRecDepth 100000 in
set_option maxHeartbeats 400000 in
theorem all_walk (hLd : LoadC) (w : World) (v : Value) (h : ScriptV w v) : Calls Tryz.prog 14 #[v] w (LawR w) := by
  have HS := hid (small_V hLd w v h)
  clear h hLd
  go_enter Tryz.func14, Tryz.ntmps14
  go_wp2_with fail
  refine HS.out.mono ?_
  rintro _ w1 ⟨b, rfl, hb, hU⟩
  have HB := hid hb
  clear hb
  cases b
  · clear hU
    go_wp2
    go_ret
    exact ⟨rfl, HB.out⟩
  · have HU := hid (hU rfl 0)
    clear hU
    go_wp2_with fail
    refine HU.out.mono ?_
    rintro _ w2 ⟨rfl, hb2⟩
    have HB2 := hid (HB.out.trans (hb2.mono HB.out.size))
    clear hb2
    go_wp2
    go_ret
    exact ⟨rfl, HB2.out⟩

end Go.Proofs.YtckallochdegiaaGreat
