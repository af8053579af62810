import Derived.Test.YtckallochdegiaaGreatLawE
import Derived.Test.YtckallochdegiaaGreatSealW
namespace Go.Proofs.YtckallochdegiaaGreat
set_option linter.unusedVariables false
set_option linter.unusedSimpArgs false
open Go.RowKit

theorem below_drewN {w w' : World} (k : Nat) (h : Below (w.drewN k).heap.size (w.drewN k) w') : Below w.heap.size w w' := by
  have b := Below.drewN' k (Below.refl w.heap.size w)
  exact b.trans (h.mono b.size)

/-- What owner answers: a step of its own; or none, and nothing has turned. -/
def OwnR (B W n : Nat) (w : World) (e : Ending) (w' : World) : Prop := (e = .returned (.bool true) ∧ Goes B W n w w') ∨ (e = .returned (.bool false) ∧ Below w.heap.size w w')

/-- The cells of a step. -/
def opc (k a b c : Int) (s t : ByteArray) : Array Value := #[.int .i64 k, .int .i64 a, .int .i64 b, .int .i64 c, .string s, .string t]

theorem Law.texts {w : World} {B W n m : Nat} {ps : Nat → Pr} {ts : List ByteArray} {ys : List Value} {iv tv lv : Value} (h : Law w B W n m ps ts ys iv tv lv) : (ts = [] ∧ ∃ p c, tv = .slice p 0 c) ∨ (0 < ts.length ∧ ∃ g c, tv = .slice (some ⟨g, 0, none⟩) ts.length c ∧ ts.length ≤ c ∧ c ≤ maxLen ∧ g < w.heap.size ∧ ∀ j, j < ts.length → w.cell? ⟨g, j, none⟩ = some (.string (ts[j]?.getD ⟨#[]⟩))) := by
  by_cases c : ts = []
  · refine Or.inl ⟨c, ?_⟩
    rcases h.tO.2 with ⟨q, q2⟩ | ⟨gb, cap, cur, q, _⟩
    · exact ⟨none, 0, q⟩
    · rw [c] at q; exact ⟨_, _, q⟩
  · have hl : 0 < ts.length := List.length_pos_iff.2 c
    refine Or.inr ⟨hl, ?_⟩
    rcases h.tO.2 with ⟨_, q2⟩ | ⟨gb, cap, cur, q, _, q3, q4, q5, _⟩
    · omega
    · refine ⟨gb, cap, q, q4, q5, (Array.getElem?_eq_some_iff.1 q3).1, fun j hj => ?_⟩
      have := h.tO.cells (g := gb) (by rw [q]; rfl) j (.string (ts[j]?.getD ⟨#[]⟩)) (by rw [List.getElem?_map, List.getElem?_eq_getElem hj]; rfl)
      rw [addr_add, Nat.zero_add] at this
      exact this

theorem one_drew (w : World) (x : Value) (t j : Nat) (y : Value) (h : [x][j]? = some y) : (w.alloc (.cells #[x] t)).drew.cell? ((⟨w.heap.size, 0, none⟩ : Addr).add j) = some y := one_cell w x t j y h

/-- A text more, from a letter of a world. -/
theorem text_done {w w1 wx w3 : World} {B W n m : Nat} {ps : Nat → Pr} {ts : List ByteArray} {ys : List Value} {iv tv lv v' : Value} {t : ByteArray} (h : Law w1 B W n m ps ts ys iv tv lv) (b1 : Below w.heap.size w w1) (hB : B ≤ w.heap.size) (ht : t.size ≤ 1048576) (bx : Below w1.heap.size w1 wx) (ho : w3.ownsRow B 9 1 v' (ts.length + 1) (ts.map Value.string ++ [.string t])) (hg : wx.grownBy w3 tv.ownBlock) :
    Goes B W (n + 1) w (w3.setCell ⟨W, 1, none⟩ v') ∧ w3.rowIs W 31 4 (wf iv tv lv) := by
  have bt := butG bx hg
  refine ⟨⟨⟨_, _, _, _, _, _, _, h.text ht bt ho⟩, ?_⟩, h.rowG bt (fun k hk => owns_ty h.tO hk) (by decide)⟩
  exact (b1.mono hB).trans (h.fin bt (fun k hk => (h.tO.lt k hk).1) (Nat.le_trans hB b1.size) 1 v')

set_option maxRecDepth 100000 in
set_option maxHeartbeats 1000000 in
theorem owner_any (w : World) (B W n m : Nat) (ps : Nat → Pr) (ts : List ByteArray) (ys : List Value) (iv tv lv : Value) (k a b c : Int) (s t : ByteArray) (h : Law w B W n m ps ts ys iv tv lv) (hn : n ≤ 2 ^ 22) (hB : B ≤ w.heap.size) (hs : s.size ≤ 1048576) (ha0 : -9223372036854775808 ≤ a) (ha1 : a ≤ 9223372036854775807) (hb0 : -9223372036854775808 ≤ b) (hb1 : b ≤ 9223372036854775807) :
    Calls Tryz.prog 46 #[ptr W, .agg (opc k a b c s t)] w (OwnR B W (n + 1) w) := by
  obtain ⟨i9, q0, q1, q2, q3⟩ := info_parts Tryz.info9
  have htl := h.tl
  have HM : Hid (ts.length + 1 ≤ maxLen) := by show _ ≤ _; unfold maxLen; omega
  obtain ⟨w1, hw1⟩ : ∃ w1 : World, w1 = w.alloc (.cells #[.int .i64 k, .int .i64 a, .int .i64 b, .int .i64 c, .string s, .string t] 49) := ⟨_, rfl⟩
  have HB1 : Hid (Below w.heap.size w w1) := by rw [hw1]; exact (Below.refl _ _).alloc (Nat.le_refl _) _
  have HL := hid (h.below HB1.out)
  have HC : Hid (∀ j, w1.cell? ⟨w.heap.size, j, none⟩ = (#[.int .i64 k, .int .i64 a, .int .i64 b, .int .i64 c, .string s, .string t] : Array Value)[j]?) := by rw [hw1]; exact fun j => new_cell _ _ _ j
  have hB1 : B ≤ w1.heap.size := Nat.le_trans hB HB1.out.size
  have HBw := hid hB
  have HW1 := hid hw1
  clear h hw1
  have HD : Hid (∀ wx w3 v' t', t'.size ≤ 1048576 → Below w1.heap.size w1 wx → w3.ownsRow B 9 1 v' (ts.length + 1) (ts.map Value.string ++ [.string t']) → wx.grownBy w3 tv.ownBlock → Goes B W (n + 1) w (w3.setCell ⟨W, 1, none⟩ v') ∧ w3.rowIs W 31 4 (wf iv tv lv)) := fun wx w3 v' t' ht bx ho hg => text_done HL.out HB1.out HBw.out ht bx ho hg
  unfold opc
  by_cases k9 : k = 9
  · subst k9
    go_enter Tryz.func46, Tryz.ntmps46
    go_wp2_with fail
    rw [← HW1.out]
    obtain ⟨ob, hob⟩ : ∃ ob, ob = w.heap.size := ⟨_, rfl⟩
    rw [← hob] at HC ⊢
    clear hob
    have d1 := HL.out.c1
    have D1 := fun o => (HL.out.below ((Below.refl _ _).alloc (Nat.le_refl _) o)).c1
    have c4 : w1.cell? ⟨ob, 4, none⟩ = some (.string s) := HC.out 4
    have HBx : Hid (∀ o, Below w1.heap.size w1 (w1.alloc o).drew) := fun o => ((Below.refl _ _).alloc (Nat.le_refl _) o).drew
    have HS : Hid (∀ o, B ≤ (w1.alloc o).drew.heap.size) := fun o => Nat.le_trans hB1 (HBx.out o).size
    go_region_law (first
      | (refine step_append_mine rfl (.tmp 14) (.tmp 17) 28 rfl B 9 i9 _ 1 16 Tryz.underlying28 q0 q1 q2 q3 rfl (by decide) tv ts.length (ts.map Value.string) (by simp [Act.eval, Act.put]) (HL.out.tO.alloc _).drew ⟨w1.heap.size, 0, none⟩ 1 1 [.string s] (by simp [Act.eval, Act.put]) rfl (one_drew w1 _ _) (fun y hy => by simp at hy; subst hy; rfl) HM.out (by omega) (HS.out _) ?_; intro v' w3 ho hg; have HO := hid ho; have HR := hid (HD.out _ w3 v' s hs (HBx.out _) ho hg); have c1 := HR.out.2.cell (i := 1) (by omega); have fz := HR.out.2.frozen; clear ho hg; obtain ⟨p2, n2, cc2, hv2⟩ := owns_form HO.out; subst hv2))
    all_goals
      go_wp2
      go_ret
      exact Or.inl ⟨rfl, HR.out.1⟩
  · have k9' : (k == 9) = false := by simpa using k9
    by_cases kt : k = 10 ∨ k = 12
    · have HKt : Hid (k = 10 ∨ k = 12) := kt
      rcases HL.out.texts with ⟨e0, tp, tc, htv⟩ | ⟨hpos, tg, tc, htv, htc, htm, htg, hcells⟩
      · have D1 : (w.alloc (.cells #[.int .i64 k, .int .i64 a, .int .i64 b, .int .i64 c, .string s, .string t] 49)).cell? ⟨W, 1, none⟩ = some (.slice tp 0 tc) := by rw [← HW1.out, ← htv]; exact HL.out.c1
        have HR : Hid (OwnR B W (n + 1) w (.returned (.bool true)) w1) := Or.inl ⟨rfl, ⟨m, ps, ts, ys, iv, tv, lv, HL.out.mono (by omega)⟩, HB1.out.mono HBw.out⟩
        have HR2 : Hid (OwnR B W (n + 1) w (.returned (.bool true)) (w.alloc (.cells #[.int .i64 k, .int .i64 a, .int .i64 b, .int .i64 c, .string s, .string t] 49))) := by show OwnR _ _ _ _ _ _; rw [← HW1.out]; exact HR.out
        clear e0 htv k9
        rcases kt with rfl | rfl
        all_goals
          go_enter Tryz.func46, Tryz.ntmps46
          go_wp2
          go_ret
          exact HR2.out
      · have D1 : (w.alloc (.cells #[.int .i64 k, .int .i64 a, .int .i64 b, .int .i64 c, .string s, .string t] 49)).cell? ⟨W, 1, none⟩ = some (.slice (some ⟨tg, 0, none⟩) ts.length tc) := by rw [← HW1.out, ← htv]; exact HL.out.c1
        have D2 : w1.cell? ⟨W, 1, none⟩ = some (.slice (some ⟨tg, 0, none⟩) ts.length tc) := by rw [← htv]; exact HL.out.c1
        have hz : ((ts.length : Int) == 0) = false := beq_eq_false_iff_ne.2 (by omega)
        have HCt := hid hcells
        have HTv := hid htv
        unfold maxLen at htm
        clear hcells htv k9
        rcases kt with rfl | rfl
        · go_enter Tryz.func46, Tryz.ntmps46
          go_wp2_with fail
          rw [← HW1.out]
          obtain ⟨ob, hob⟩ : ∃ ob, ob = w.heap.size := ⟨_, rfl⟩
          rw [← hob] at HC ⊢
          clear hob D1
          have o0 := HC.out 0
          have o1 : w1.cell? ⟨ob, 1, none⟩ = some (.int .i64 a) := HC.out 1
          have o2 : w1.cell? ⟨ob, 2, none⟩ = some (.int .i64 b) := HC.out 2
          have o3 : w1.cell? ⟨ob, 3, none⟩ = some (.int .i64 c) := HC.out 3
          simp only [List.getElem?_toArray, List.getElem?_cons_zero] at o0
          have hpk := pk_lt a hpos
          have hpk' : ((pk a ts.length : Nat) : Int) < (ts.length : Int) := by omega
          have dt := HCt.out (pk a ts.length) hpk
          have HTz : Hid ((ts[pk a ts.length]?.getD ⟨#[]⟩).size ≤ 1048576) := HL.out.tz _ (by rw [List.getElem?_eq_getElem hpk]; exact List.getElem_mem hpk)
          have HPk : Hid (∀ wx, Calls Tryz.prog 32 #[.int .i64 a, .int .i64 ts.length] wx fun e w' => e = .returned (.int .i64 (pk a ts.length)) ∧ w' = wx) := fun wx => pick_any wx a ts.length hpos ha0 ha1 (by omega)
          generalize ts[pk a ts.length]?.getD ⟨#[]⟩ = tj at dt HTz
          generalize pk a ts.length = j at hpk hpk' dt HPk
          go_quiet (first | (go_at_call 32; refine Calls.quiet_of_same (HPk.out _)))
          go_wp2_with fail
          refine (bent_any _ tj b c (by have := HTz.out; omega) hb0 hb1).mono ?_
          rintro _ w3 ⟨r, rfl, hr, hb3⟩
          have HB3 := hid (below_drewN _ hb3)
          have HL3 := hid (HL.out.below HB3.out)
          have HRz : Hid (r.size ≤ 1048576) := Nat.le_trans hr HTz.out
          have hB3 : B ≤ w3.heap.size := Nat.le_trans hB1 HB3.out.size
          have d3 : w3.cell? ⟨W, 1, none⟩ = some (.slice (some ⟨tg, 0, none⟩) ts.length tc) := by rw [← HTv.out]; exact HL3.out.c1
          clear hr hb3 o0 o1 o2 o3 D2 dt
          go_wp2_with (at_builtin; refine wpList_append_own _ rfl (.tmp 59) (.tmp 61) 28 rfl B 9 i9 _ 1 16 Tryz.underlying28 q0 q1 q2 q3 rfl (by decide) _ ts.length _ rfl (by have q := HL3.out.tO.alloc (.cells #[.string r] 9); rw [HTv.out] at q; exact q) ⟨w3.heap.size, 0, none⟩ 1 1 [.string r] rfl rfl (one_cell w3 _ _) (fun y hy => by simp at hy; subst hy; rfl) HM.out (by omega) (by simp; omega) ?_; intro v' w4 ho hg _; have HO := hid ho; have HR := hid (HD.out _ w4 v' r HRz.out (HB3.out.trans (((Below.refl _ _).alloc (Nat.le_refl _) _).mono HB3.out.size)) ho (by rw [HTv.out]; exact hg)); have c1 : w4.cell? ⟨W, 1, none⟩ = some (.slice (some ⟨tg, 0, none⟩) ts.length tc) := (by rw [← HTv.out]; exact HR.out.2.cell (i := 1) (by omega)); have fz := HR.out.2.frozen; clear ho hg; obtain ⟨p2, n2, cc2, hv2⟩ := owns_form HO.out; subst hv2)
          go_ret
          exact Or.inl ⟨rfl, HR.out.1⟩
        · go_enter Tryz.func46, Tryz.ntmps46
          go_wp2_with fail
          rw [← HW1.out]
          obtain ⟨ob, hob⟩ : ∃ ob, ob = w.heap.size := ⟨_, rfl⟩
          rw [← hob] at HC ⊢
          clear hob D1
          have o0 := HC.out 0
          have o1 : w1.cell? ⟨ob, 1, none⟩ = some (.int .i64 a) := HC.out 1
          have o2 : w1.cell? ⟨ob, 2, none⟩ = some (.int .i64 b) := HC.out 2
          have o3 : w1.cell? ⟨ob, 3, none⟩ = some (.int .i64 c) := HC.out 3
          simp only [List.getElem?_toArray, List.getElem?_cons_zero] at o0
          have hpk := pk_lt a hpos
          have hpk' : ((pk a ts.length : Nat) : Int) < (ts.length : Int) := by omega
          have dt := HCt.out (pk a ts.length) hpk
          have HTz : Hid ((ts[pk a ts.length]?.getD ⟨#[]⟩).size ≤ 1048576) := HL.out.tz _ (by rw [List.getElem?_eq_getElem hpk]; exact List.getElem_mem hpk)
          have HPk : Hid (∀ wx, Calls Tryz.prog 32 #[.int .i64 a, .int .i64 ts.length] wx fun e w' => e = .returned (.int .i64 (pk a ts.length)) ∧ w' = wx) := fun wx => pick_any wx a ts.length hpos ha0 ha1 (by omega)
          generalize ts[pk a ts.length]?.getD ⟨#[]⟩ = tj at dt HTz
          generalize pk a ts.length = j at hpk hpk' dt HPk
          go_quiet (first | (go_at_call 32; refine Calls.quiet_of_same (HPk.out _)))
          go_wp2_with fail
          refine (Sealed_any _ tj (by have := HTz.out; omega)).mono ?_
          rintro _ w3 ⟨r, rfl, hr, hb3⟩
          have HB3 := hid (below_drewN _ hb3)
          have HL3 := hid (HL.out.below HB3.out)
          have HRz : Hid (r.size ≤ 1048576) := Nat.le_trans hr HTz.out
          have hB3 : B ≤ w3.heap.size := Nat.le_trans hB1 HB3.out.size
          have d3 : w3.cell? ⟨W, 1, none⟩ = some (.slice (some ⟨tg, 0, none⟩) ts.length tc) := by rw [← HTv.out]; exact HL3.out.c1
          clear hr hb3 o0 o1 o2 o3 D2 dt
          go_wp2_with (at_builtin; refine wpList_append_own _ rfl (.tmp 59) (.tmp 61) 28 rfl B 9 i9 _ 1 16 Tryz.underlying28 q0 q1 q2 q3 rfl (by decide) _ ts.length _ rfl (by have q := HL3.out.tO.alloc (.cells #[.string r] 9); rw [HTv.out] at q; exact q) ⟨w3.heap.size, 0, none⟩ 1 1 [.string r] rfl rfl (one_cell w3 _ _) (fun y hy => by simp at hy; subst hy; rfl) HM.out (by omega) (by simp; omega) ?_; intro v' w4 ho hg _; have HO := hid ho; have HR := hid (HD.out _ w4 v' r HRz.out (HB3.out.trans (((Below.refl _ _).alloc (Nat.le_refl _) _).mono HB3.out.size)) ho (by rw [HTv.out]; exact hg)); have c1 : w4.cell? ⟨W, 1, none⟩ = some (.slice (some ⟨tg, 0, none⟩) ts.length tc) := (by rw [← HTv.out]; exact HR.out.2.cell (i := 1) (by omega)); have fz := HR.out.2.frozen; clear ho hg; obtain ⟨p2, n2, cc2, hv2⟩ := owns_form HO.out; subst hv2)
          go_ret
          exact Or.inl ⟨rfl, HR.out.1⟩
    · have k10 : (k == 10) = false := by simp; omega
      have k12 : (k == 12) = false := by simp; omega
      have HR2 : Hid (OwnR B W (n + 1) w (.returned (.bool false)) (w.alloc (.cells #[.int .i64 k, .int .i64 a, .int .i64 b, .int .i64 c, .string s, .string t] 49))) := Or.inr ⟨rfl, (Below.refl _ _).alloc (Nat.le_refl _) _⟩
      clear k9 kt
      go_enter Tryz.func46, Tryz.ntmps46
      go_wp2
      go_ret
      exact HR2.out

end Go.Proofs.YtckallochdegiaaGreat
