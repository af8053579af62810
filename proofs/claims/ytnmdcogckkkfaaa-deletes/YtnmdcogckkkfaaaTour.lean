import Derived.Test.YtnmdcogckkkfaaaRep
namespace Go.Proofs.Ytnmdcogckkkfaaa
set_option linter.unusedVariables false
set_option linter.unusedSimpArgs false
open Go.RowKit

set_option maxRecDepth 100000 in
set_option maxHeartbeats 1000000 in
theorem tour_any (g tb tcap lb lcap i n : Nat) (v : Int) (ts : List (List Itm)) (f : Nat → Value) (w : World)
    (c2 : w.cell? ⟨g, 2, none⟩ = some (.slice (some ⟨tb, 0, none⟩) n tcap)) (hn : n ≤ tcap) (hm : tcap ≤ maxLen) (hi : i < n)
    (ct : w.cell? ⟨tb, i, none⟩ = some (.slice (some ⟨lb, 0, none⟩) ts.length lcap)) (hl : ListAt w (.slice (some ⟨lb, 0, none⟩) ts.length lcap) ts lb lcap f) :
    Calls Try.prog 75 #[ptr g, .int .i64 i, .int .i64 v] w fun e w' => e = .returned (.int .i64 (tourIx ts v)) ∧ Below w.heap.size w w' := by
  have HL : Hid (ListAt w (.slice (some ⟨lb, 0, none⟩) ts.length lcap) ts lb lcap f) := hl
  have h1 := hl.le
  have h2 := hl.mx
  unfold maxLen at h2 hm
  clear hl
  go_enter Try.func75, Try.ntmps75
  go_wp2_with fail
  go_loopw [19] (fun i wr => ∃ k : Nat, k ≤ ts.length ∧ i = .int .i64 k ∧ Hid (∀ j, j < k → hasV (ts[j]?.getD []) v = false) ∧ Hid (Below w.heap.size w wr)) (fun i _ => ts.length - (intOf i).toNat)
  case atStart => exact ⟨0, by omega, rfl, fun j hj => by omega, Below.refl _ _⟩
  case round =>
    obtain ⟨k, hk, rfl, hno, hL⟩ := hrel
    obtain ⟨wo, rfl⟩ : ∃ wo : World, wo = wr := ⟨_, rfl⟩
    by_cases hlt : k < ts.length
    · have hlt' : (k : Int) < (ts.length : Int) := by omega
      obtain ⟨b, o, cap, hI⟩ := HL.out.it k hlt
      have hck : wo.cell? ⟨lb, k, none⟩ = some (.slice (some ⟨b, o, none⟩) (ts[k]?.getD []).length cap) := by
        rw [← hI.hv, ← HL.out.c0 k hlt]
        obtain ⟨c, hc⟩ := HL.out.ty
        exact hL.out.cell (p := ⟨lb, k, none⟩) (Array.getElem?_eq_some_iff.1 hc).1
      have HI : Hid (ItemsAt w (f k) (ts[k]?.getD []) b o cap) := hI
      have hcap := hI.le
      have hmx := hI.mx
      unfold maxLen at hmx
      obtain ⟨l, hl⟩ : ∃ l, l = ts[k]?.getD [] := ⟨_, rfl⟩
      rw [← hl] at HI hck hcap
      have Hl : Hid (l = ts[k]?.getD []) := hl
      clear hl hI
      go_wp2_with fail
      go_loopw [26] (fun i wr => ∃ m : Nat, m ≤ l.length ∧ i = .int .i64 m ∧ Hid (∀ j, j < m → (l[j]?.getD (0, 0) == (v, -1)) = false) ∧ Hid (Below w.heap.size w wr)) (fun i _ => l.length - (intOf i).toNat)
      case atStart => exact ⟨0, by omega, rfl, fun j hj => by omega, hL⟩
      case round =>
        obtain ⟨m, hm', rfl, hno2, hL2⟩ := hrel
        by_cases hlm : m < l.length
        · have hlm' : (m : Int) < (l.length : Int) := by omega
          have d0 : wr.cell? ⟨b, o + m * 2, none⟩ = some (.int .i64 (l[m]?.getD (0, 0)).1) := by
            obtain ⟨c, hc⟩ := HI.out.ty
            rw [hL2.out.cell (p := ⟨b, o + m * 2, none⟩) (Array.getElem?_eq_some_iff.1 hc).1]; exact HI.out.c0 m hlm
          have d1 : wr.cell? ⟨b, o + m * 2 + 1, none⟩ = some (.int .i64 (l[m]?.getD (0, 0)).2) := by
            obtain ⟨c, hc⟩ := HI.out.ty
            rw [hL2.out.cell (p := ⟨b, o + m * 2 + 1, none⟩) (Array.getElem?_eq_some_iff.1 hc).1]; exact HI.out.c1 m hlm
          obtain ⟨x, hx⟩ : ∃ x, x = l[m]?.getD (0, 0) := ⟨_, rfl⟩
          rw [← hx] at d0 d1
          have Hx : Hid (x = l[m]?.getD (0, 0)) := hx
          clear hx
          obtain ⟨x1, x2⟩ := x
          go_wp2
          · have e1 : x1 = v := by assumption
            have e2 : x2 = -1 := by assumption
            go_ret
            exact ⟨ret_int (tourIx_some hlt (by rw [← Hl.out]; exact hasV_true hlm (by rw [← Hx.out, e1, e2])) hno.out).symm, hL2.out.alloc hL2.out.size _⟩
          · have e2 : ¬ x2 = -1 := by assumption
            exact ⟨⟨m + 1, by omega, by go_num, fun j hj => by
              by_cases e : j = m
              · subst e; rw [← Hx.out]; simp [e2]
              · exact hno2.out j (by omega), hL2.out.alloc hL2.out.size _⟩, by simp [intOf]; omega⟩
          · have e2 : ¬ x1 = v := by assumption
            exact ⟨⟨m + 1, by omega, by go_num, fun j hj => by
              by_cases e : j = m
              · subst e; rw [← Hx.out]; simp [e2]
              · exact hno2.out j (by omega), hL2.out.alloc hL2.out.size _⟩, by simp [intOf]; omega⟩
        · go_wp2
          exact ⟨⟨k + 1, by omega, by go_num, fun j hj => by
            by_cases e : j = k
            · subst e; rw [← Hl.out]; exact hasV_false (fun i hi => hno2.out i (by omega))
            · exact hno.out j (by omega), hL2⟩, by simp [intOf]; omega⟩
    · go_wp2
      go_ret
      exact ⟨ret_int (tourIx_none (fun j hj => hno.out j (by omega))).symm, hL.out⟩

end Go.Proofs.Ytnmdcogckkkfaaa
