import Derived.Test.YtnmdcogckkkfaaaWeak
namespace Go.Proofs.Ytnmdcogckkkfaaa
set_option linter.unusedVariables false
set_option linter.unusedSimpArgs false
open Go.RowKit

/-- What a yes or no answers. -/
def BoolR (w : World) (e : Ending) (w' : World) : Prop := ∃ b : Bool, e = .returned (.bool b) ∧ Below w.heap.size w w'

theorem lev_cell {w w3 : World} {c : Array Value} {t N y : Nat} {r : Nat → Bool} (hR : Row w3 (w.alloc (.cells c t)).drew.heap.size N r) (hy : y < N) : w3.cell? ⟨w.heap.size + 1, y, none⟩ = some (.bool (r y)) := by
  have := World.rowIs.cell hR hy
  rw [show (w.alloc (.cells c t)).drew.heap.size = w.heap.size + 1 from by show (w.alloc (.cells c t)).heap.size = _; simp] at this
  exact this

set_option maxRecDepth 100000 in
set_option maxHeartbeats 2000000 in
theorem level_any (w : World) (g N : Nat) (es : List Edg) (ev : Value) (tb nt tcap : Nat) (pr : Int) (h : GW w g N es ev tb nt tcap pr) :
    Calls Try.prog 58 #[ptr g] w (BoolR w) := by
  have n48 := h.n48
  have n6 := h.nt6
  have d2 := h.c2
  have HG := hid h
  clear h
  go_enter Try.func58, Try.ntmps58
  go_wp2_with fail
  clear d2
  go_loopw [3, 16] (fun a b wr => ∃ (i : Nat) (z : Int), i ≤ nt ∧ a = .int .i64 z ∧ b = .int .i64 i ∧ Hid (Below w.heap.size w wr)) (fun _ b _ => nt - (intOf b).toNat)
  case atStart => exact ⟨0, 1, by omega, rfl, rfl, Below.refl _ _⟩
  case round =>
    obtain ⟨i, z, hi, rfl, rfl, hB⟩ := hrel
    by_cases ci : i < nt
    · have ci' : (i : Int) < (nt : Int) := by omega
      go_wp2_with fail
      go_loopw [5] (fun a wr => ∃ v : Nat, v ≤ N ∧ a = .int .i64 v ∧ Hid (Below w.heap.size w wr)) (fun a _ => N - (intOf a).toNat)
      case atStart => exact ⟨0, by omega, rfl, hB⟩
      case round =>
        clear hB
        obtain ⟨v, hv, rfl, hB⟩ := hrel
        have hBs := hB.out.size
        have HGr := hid (HG.out.below hB.out)
        have d0 := HGr.out.c0
        by_cases cv : v < N
        · have cv' : (v : Int) < (N : Int) := by omega
          go_wp2_with fail
          refine (Component_any g N v i true es ev wr HGr.out.c0 HGr.out.c1 HGr.out.ed n48 (by omega) cv' HGr.out.inr).mono ?_
          rintro e w1 ⟨rfl, ⟨r, hR, _⟩, hb1⟩
          have HR := hid hR
          have HB1 : Hid (Below w.heap.size w w1) := hB.out.trans (hb1.mono hBs)
          have d1 := (HGr.out.below hb1).c0
          clear hR hb1 d0
          go_wp2_with fail
          go_loopw [6, 32] (fun a b wr => ∃ n k : Nat, k ≤ N ∧ n ≤ k ∧ a = .int .i64 n ∧ b = .int .i64 k ∧ wr = w1) (fun _ b _ => N - (intOf b).toNat)
          case atStart => exact ⟨0, 0, by omega, by omega, rfl, rfl, rfl⟩
          case round =>
            obtain ⟨n, k, hk, hn, rfl, rfl, rfl⟩ := hrel
            by_cases ck : k < N
            · have ck' : (k : Int) < (N : Int) := by omega
              have d := World.rowIs.cell HR.out (i := k) ck
              cases hrk : r k
              · rw [hrk] at d
                clear hrk
                go_wp2
                exact ⟨⟨n, k + 1, by omega, by omega, rfl, by go_num, by trivial⟩, by simp [intOf]; omega⟩
              · rw [hrk] at d
                clear hrk
                go_wp2
                exact ⟨⟨n + 1, k + 1, by omega, by omega, by go_num, by go_num, by trivial⟩, by simp [intOf]; omega⟩
            · have ck' : ¬ (k : Int) < (N : Int) := by omega
              by_cases cg : (N : Int) < wrap64 ((n : Int) * z)
              · have cg' : decide ((N : Int) < wrap64 ((n : Int) * z)) = true := by simpa using cg
                go_wp2
                go_ret
                exact ⟨false, rfl, HB1.out⟩
              · have cg' : decide ((N : Int) < wrap64 ((n : Int) * z)) = false := by simpa using cg
                go_wp2
                exact ⟨⟨v + 1, by omega, by go_num, HB1⟩, by simp [intOf]; omega⟩
        · have cv' : ¬ (v : Int) < (N : Int) := by omega
          go_wp2
          exact ⟨⟨i + 1, _, by omega, rfl, by go_num, hB⟩, by simp [intOf]; omega⟩
    · have ci' : ¬ (i : Int) < (nt : Int) := by omega
      have HGr := hid (HG.out.below hB.out)
      have d1 := HGr.out.c1
      obtain ⟨p, cap, hv⟩ : ∃ p cap, ev = .slice p es.length cap := by
        rcases HGr.out.ed with ⟨q, rfl⟩ | ⟨b, cap, h⟩
        · exact ⟨_, _, q⟩
        · exact ⟨_, _, h.hv⟩
      have HEv := hid hv
      rw [hv] at d1
      clear hv
      go_wp2_with fail
      clear d1 HGr
      go_loopw [56] (fun a wr => ∃ m : Nat, m ≤ es.length ∧ a = .int .i64 m ∧ Hid (Below w.heap.size w wr)) (fun a _ => es.length - (intOf a).toNat)
      case atStart => exact ⟨0, by omega, rfl, hB⟩
      case round =>
        clear hB
        obtain ⟨m, hm, rfl, hB⟩ := hrel
        have hBs := hB.out.size
        have HGr := hid (HG.out.below hB.out)
        have hlm : es.length ≤ maxLen := by
          rcases HGr.out.ed with ⟨q, rfl⟩ | ⟨b, cap, h⟩
          · simp
          · exact Nat.le_trans h.le h.mx
        unfold maxLen at hlm
        by_cases c : m < es.length
        · have c' : (m : Int) < (es.length : Int) := by omega
          obtain ⟨eb, ecap, hEA, hev⟩ := HGr.out.ed.at_ c
          rw [HEv.out] at hev
          simp only [Value.slice.injEq, true_and] at hev
          obtain ⟨hp, hcap⟩ := hev
          subst hp hcap
          have a0 := hEA.c0 m c
          have a1 := hEA.c1 m c
          have a2 := hEA.c2 m c
          have a3 := hEA.c3 m c
          have l1 := hEA.le
          have l2 := hEA.mx
          unfold maxLen at l2
          have hr := HGr.out.inr (es[m]?.getD Go.Proofs.Ytnmdcogckkkfaaa.e0) (by rw [get_eq c]; exact List.getElem_mem c)
          clear hEA
          obtain ⟨x, hx⟩ : ∃ x, x = es[m]?.getD Go.Proofs.Ytnmdcogckkkfaaa.e0 := ⟨_, rfl⟩
          rw [← hx] at a0 a1 a2 a3 hr
          clear hx
          obtain ⟨xu, xv, xl, xt⟩ := x
          simp only at a0 a1 a2 a3 hr
          obtain ⟨yv, rfl⟩ : ∃ y : Nat, xv = y := ⟨xv.toNat, by omega⟩
          have HX1 : Hid (0 ≤ xu) := hr.1.1
          have HX2 : Hid (xu < N) := hr.1.2
          have HX3 : Hid (yv < N) := by show _ < _; omega
          clear hr
          have HBx : Hid (∀ o, Below w.heap.size w (wr.alloc o)) := fun o => hB.out.alloc hBs o
          have HGx : Hid (∀ o, GW (wr.alloc o).drew g N es ev tb nt tcap pr) := fun o => HGr.out.below ((Below.refl _ _).alloc (Nat.le_refl _) o).drew
          cases xt
          · go_wp2_with fail
            have HS0 : Hid (∀ j, (wr.alloc (.cells #[.int .i64 xu, .int .i64 yv, .int .i64 xl, .bool false] 101)).cell? ⟨wr.heap.size, j, none⟩ = #[Value.int .i64 xu, .int .i64 yv, .int .i64 xl, .bool false][j]?) := fun j => new_cell _ _ _ j
            go_cut [75] from 57 to 76 (fun x wx => ∃ bd : Bool, x = .bool bd ∧ Hid (Below w.heap.size w wx))
            case first =>
              have z0 := HS0.out 0
              have z1 := HS0.out 1
              have z2 := HS0.out 2
              have z3 := HS0.out 3
              go_region_with
                (first
                  | (go_at_call 73; refine (Component_any g N xu xl true es ev (wr.alloc _).drew (HGx.out _).c0 (HGx.out _).c1 (HGx.out _).ed n48 HX1.out HX2.out HG.out.inr).mono ?_; rintro e w3 ⟨rfl, ⟨r, hR, _⟩, hb3⟩; have hb3' := below_drew hb3; have e0 : w3.cell? ⟨wr.heap.size, 0, none⟩ = some (.int .i64 xu) := (hb3'.cell (p := ⟨wr.heap.size, 0, none⟩) (by simp)).trans (HS0.out 0); have e1 : w3.cell? ⟨wr.heap.size, 1, none⟩ = some (.int .i64 yv) := (hb3'.cell (p := ⟨wr.heap.size, 1, none⟩) (by simp)).trans (HS0.out 1); have e2 : w3.cell? ⟨wr.heap.size, 2, none⟩ = some (.int .i64 xl) := (hb3'.cell (p := ⟨wr.heap.size, 2, none⟩) (by simp)).trans (HS0.out 2); have e3 : w3.cell? ⟨wr.heap.size, 3, none⟩ = some (.bool false) := (hb3'.cell (p := ⟨wr.heap.size, 3, none⟩) (by simp)).trans (HS0.out 3); have dr := lev_cell hR HX3.out; have hyl : (yv : Int) < (N : Int) := Int.ofNat_lt.2 HX3.out; have HB3 := hid ((HBx.out _).trans (hb3'.mono (HBx.out _).size)); clear hb3 hb3' hR))
              all_goals
                go_wp2
                go_meet
                case rel => exact ⟨_, rfl, HB3⟩
            case rest =>
              obtain ⟨bd, rfl, hB3⟩ := hcut
              cases bd
              · go_wp2
                exact ⟨⟨m + 1, by omega, by go_num, hB3⟩, by simp [intOf]; omega⟩
              · go_wp2
                go_ret
                exact ⟨false, rfl, hB3.out⟩
          · go_wp2_with fail
            have z3 : (wr.alloc (.cells #[.int .i64 xu, .int .i64 yv, .int .i64 xl, .bool true] 101)).cell? ⟨wr.heap.size, 3, none⟩ = some (.bool true) := by rw [new_cell]; rfl
            go_quiet (fail)
            go_wp2
            exact ⟨⟨m + 1, by omega, by go_num, Below.drewN' _ (HBx.out _)⟩, by simp [intOf]; omega⟩
        · have c' : ¬ (m : Int) < (es.length : Int) := by omega
          go_wp2
          go_ret
          exact ⟨true, rfl, hB.out⟩

end Go.Proofs.Ytnmdcogckkkfaaa
