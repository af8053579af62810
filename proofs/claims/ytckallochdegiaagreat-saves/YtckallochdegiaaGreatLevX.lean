import Derived.Test.YtckallochdegiaaGreatWeak
import Derived.Test.YtckallochdegiaaGreatRdA
namespace Go.Proofs.YtckallochdegiaaGreat
set_option linter.unusedVariables false
set_option linter.unusedSimpArgs false
open Go.RowKit

theorem lev_cell {w w3 : World} {c : Array Value} {t N y : Nat} {r : Nat → Bool} (hR : Row w3 (w.alloc (.cells c t)).drew.heap.size N r) (hy : y < N) : w3.cell? ⟨w.heap.size + 1, y, none⟩ = some (.bool (r y)) := by
  have := World.rowIs.cell hR hy
  rw [show (w.alloc (.cells c t)).drew.heap.size = w.heap.size + 1 from by show (w.alloc (.cells c t)).heap.size = _; simp] at this
  exact this

theorem levelF_iff {N : Nat} {es : List Edg} : levelF N es = true ↔ (∀ i, i < Nat.log2 N + 1 → ∀ v, v < N → (compV N es i v).length * 2 ^ i ≤ N) ∧ ∀ e, e ∈ es → e.tree = true ∨ inI es e.lev.toNat e.u e.v = true := by
  simp only [levelF, Bool.and_eq_true, List.all_eq_true, List.mem_range, decide_eq_true_eq, Bool.or_eq_true]
theorem levelF_no1 {N : Nat} {es : List Edg} {i v : Nat} (hi : i < Nat.log2 N + 1) (hv : v < N) (h : N < (compV N es i v).length * 2 ^ i) : levelF N es = false := by
  cases c : levelF N es
  · rfl
  · have := (levelF_iff.1 c).1 i hi v hv; omega
theorem levelF_no2 {N : Nat} {es : List Edg} {e : Edg} (he : e ∈ es) (h1 : e.tree = false) (h2 : inI es e.lev.toNat e.u e.v = false) : levelF N es = false := by
  cases c : levelF N es
  · rfl
  · have := (levelF_iff.1 c).2 e he; rw [h1, h2] at this; simp at this
theorem comp_step (p : Nat → Bool) (k : Nat) : ((List.range (k + 1)).filter p).length = ((List.range k).filter p).length + if p k = true then 1 else 0 := by
  rw [List.range_succ, List.filter_append, List.length_append]
  by_cases c : p k = true <;> simp [c]
theorem r_in {es : List Edg} {N i : Nat} {v : Int} {r : Nat → Bool} (hr : ∀ x : Nat, x < N → (r x = true ↔ Rch es true i v x)) {x : Nat} (hx : x < N) : r x = inI es i v x := by
  rw [Bool.eq_iff_iff, hr x hx, inI_iff]

set_option maxRecDepth 100000 in
set_option maxHeartbeats 2000000 in
theorem level_F (w : World) (g N : Nat) (es : List Edg) (ev : Value) (tb nt tcap : Nat) (pr : Int) (h : GW w g N es ev tb nt tcap pr) (hnt : nt = Nat.log2 N + 1) (hlev : ∀ e, e ∈ es → 0 ≤ e.lev) :
    Calls Tryz.prog 58 #[ptr g] w fun e w' => e = .returned (.bool (levelF N es)) ∧ Below w.heap.size w w' := by
  have HNt := hid hnt
  have HLev := hid hlev
  clear hnt hlev
  have n48 := h.n48
  have n6 := h.nt6
  have d2 := h.c2
  have HG := hid h
  clear h
  go_enter Tryz.func58, Tryz.ntmps58
  go_wp2_with fail
  clear d2
  go_loopw [3, 16] (fun a b wr => ∃ (i : Nat) (z : Nat), i ≤ nt ∧ a = .int .i64 z ∧ b = .int .i64 i ∧ z ≤ 64 ∧ Hid (z = 2 ^ i) ∧ Hid (∀ j, j < i → ∀ v, v < N → (compV N es j v).length * 2 ^ j ≤ N) ∧ Hid (Below w.heap.size w wr)) (fun _ b _ => nt - (intOf b).toNat)
  case atStart => exact ⟨0, 1, by omega, rfl, rfl, by omega, rfl, fun j hj => by omega, Below.refl _ _⟩
  case round =>
    obtain ⟨i, z, hi, rfl, rfl, hz64, HZ, HJ, hB⟩ := hrel
    by_cases ci : i < nt
    · have ci' : (i : Int) < (nt : Int) := by omega
      go_wp2_with fail
      go_loopw [5] (fun a wr => ∃ v : Nat, v ≤ N ∧ a = .int .i64 v ∧ Hid (∀ u, u < v → (compV N es i u).length * 2 ^ i ≤ N) ∧ Hid (Below w.heap.size w wr)) (fun a _ => N - (intOf a).toNat)
      case atStart => exact ⟨0, by omega, rfl, fun u hu => by omega, hB⟩
      case round =>
        clear hB
        obtain ⟨v, hv, rfl, HU, hB⟩ := hrel
        have hBs := hB.out.size
        have HGr := hid (HG.out.below hB.out)
        have d0 := HGr.out.c0
        by_cases cv : v < N
        · have cv' : (v : Int) < (N : Int) := by omega
          go_wp2_with fail
          refine (Component_any g N v i true es ev wr HGr.out.c0 HGr.out.c1 HGr.out.ed n48 (by omega) cv' HGr.out.inr).mono ?_
          rintro e w1 ⟨rfl, ⟨r, hR, hr⟩, hb1⟩
          have HRr : Hid (∀ x, x < N → r x = inI es i v x) := fun x hx => r_in hr hx
          have HR := hid hR
          clear hr
          have HB1 : Hid (Below w.heap.size w w1) := hB.out.trans (hb1.mono hBs)
          have d1 := (HGr.out.below hb1).c0
          clear hR hb1 d0
          go_wp2_with fail
          go_loopw [6, 32] (fun a b wr => ∃ n k : Nat, k ≤ N ∧ n ≤ k ∧ a = .int .i64 n ∧ b = .int .i64 k ∧ wr = w1 ∧ Hid (n = ((List.range k).filter fun u : Nat => inI es i v u).length)) (fun _ b _ => N - (intOf b).toNat)
          case atStart => exact ⟨0, 0, by omega, by omega, rfl, rfl, rfl, rfl⟩
          case round =>
            obtain ⟨n, k, hk, hn, rfl, rfl, rfl, HN⟩ := hrel
            by_cases ck : k < N
            · have ck' : (k : Int) < (N : Int) := by omega
              have d := World.rowIs.cell HR.out (i := k) ck
              have HN2 : Hid (((List.range (k + 1)).filter fun u : Nat => inI es i v u).length = n + if r k = true then 1 else 0) := by show _ = _; rw [comp_step, HRr.out k ck, ← HN.out]
              cases hrk : r k
              · rw [hrk] at d HN2
                have HN3 : Hid (n = ((List.range (k + 1)).filter fun u : Nat => inI es i v u).length) := by have := HN2.out; show _ = _; simp at this; omega
                clear hrk HN2
                go_wp2
                exact ⟨⟨n, k + 1, by omega, by omega, rfl, by go_num, by trivial, HN3⟩, by simp [intOf]; omega⟩
              · rw [hrk] at d HN2
                have HN3 : Hid (n + 1 = ((List.range (k + 1)).filter fun u : Nat => inI es i v u).length) := by have := HN2.out; show _ = _; simp at this; omega
                clear hrk HN2
                go_wp2
                exact ⟨⟨n + 1, k + 1, by omega, by omega, by go_num, by go_num, by trivial, HN3⟩, by simp [intOf]; omega⟩
            · have ck' : ¬ (k : Int) < (N : Int) := by omega
              have hkN : k = N := by omega
              have HC : Hid ((compV N es i v).length * 2 ^ i = n * z) := by show _ = _; rw [HN.out, HZ.out, hkN]; rfl
              have HW : Hid (wrap64 ((n : Int) * z) = ((n * z : Nat) : Int)) := by
                have q1 : n * z ≤ 48 * 64 := Nat.mul_le_mul (by omega) hz64
                show _ = _
                rw [← Int.natCast_mul]
                unfold wrap64; omega
              by_cases cg : (N : Int) < wrap64 ((n : Int) * z)
              · have HCf : Hid (levelF N es = false) := by have q := cg; rw [HW.out] at q; exact levelF_no1 (i := i) (v := v) (by have := HNt.out; omega) cv (by rw [HC.out]; omega)
                have cg' : decide ((N : Int) < wrap64 ((n : Int) * z)) = true := by simpa using cg
                clear hkN
                go_wp2
                go_ret
                exact ⟨by rw [HCf.out]; rfl, HB1.out⟩
              · have HCt : Hid (∀ u, u < v + 1 → (compV N es i u).length * 2 ^ i ≤ N) := by
                  intro u hu
                  by_cases q : u = v
                  · rw [q, HC.out]
                    have q := cg; rw [HW.out] at q; omega
                  · exact HU.out u (by omega)
                have cg' : decide ((N : Int) < wrap64 ((n : Int) * z)) = false := by simpa using cg
                clear hkN
                go_wp2
                exact ⟨⟨v + 1, by omega, by go_num, HCt, HB1⟩, by simp [intOf]; omega⟩
        · have cv' : ¬ (v : Int) < (N : Int) := by omega
          have HZ2 : Hid (2 * z = 2 ^ (i + 1)) := by show _ = _; rw [HZ.out, Nat.pow_succ, Nat.mul_comm]
          have hz2 : 2 * z ≤ 64 := by
            rw [HZ2.out]
            exact Nat.le_trans (Nat.pow_le_pow_right (n := 2) (by omega) (show i + 1 ≤ 6 by omega)) (by omega)
          have HJ2 : Hid (∀ j, j < i + 1 → ∀ v, v < N → (compV N es j v).length * 2 ^ j ≤ N) := by
            intro j hj u hu
            by_cases q : j = i
            · rw [q]; exact HU.out u (by omega)
            · exact HJ.out j (by omega) u hu
          go_wp2
          exact ⟨⟨i + 1, 2 * z, by omega, by go_num, by go_num, hz2, HZ2, HJ2, hB⟩, by simp [intOf]; omega⟩
    · have ci' : ¬ (i : Int) < (nt : Int) := by omega
      have HGr := hid (HG.out.below hB.out)
      have d1 := HGr.out.c1
      obtain ⟨p, cap, hv⟩ : ∃ p cap, ev = .slice p es.length cap := by
        rcases HGr.out.ed with ⟨q, rfl⟩ | ⟨b, cap, h⟩
        · exact ⟨_, _, q⟩
        · exact ⟨_, _, h.hv⟩
      have HEv := hid hv
      rw [hv] at d1
      clear hv
      go_wp2_with fail
      clear d1 HGr
      have HJn : Hid (∀ j, j < Nat.log2 N + 1 → ∀ v, v < N → (compV N es j v).length * 2 ^ j ≤ N) := fun j hj => HJ.out j (by have := HNt.out; omega)
      clear HJ HZ
      go_loopw [56] (fun a wr => ∃ m : Nat, m ≤ es.length ∧ a = .int .i64 m ∧ Hid (∀ e, e ∈ es.take m → e.tree = true ∨ inI es e.lev.toNat e.u e.v = true) ∧ Hid (Below w.heap.size w wr)) (fun a _ => es.length - (intOf a).toNat)
      case atStart => exact ⟨0, by omega, rfl, fun e he => by simp at he, hB⟩
      case round =>
        clear hB
        obtain ⟨m, hm, rfl, HM, hB⟩ := hrel
        have hBs := hB.out.size
        have HGr := hid (HG.out.below hB.out)
        have hlm : es.length ≤ maxLen := by
          rcases HGr.out.ed with ⟨q, rfl⟩ | ⟨b, cap, h⟩
          · simp
          · exact Nat.le_trans h.le h.mx
        unfold maxLen at hlm
        by_cases c : m < es.length
        · have c' : (m : Int) < (es.length : Int) := by omega
          obtain ⟨eb, ecap, hEA, hev⟩ := HGr.out.ed.at_ c
          rw [HEv.out] at hev
          simp only [Value.slice.injEq, true_and] at hev
          obtain ⟨hp, hcap⟩ := hev
          subst hp hcap
          have a0 := hEA.c0 m c
          have a1 := hEA.c1 m c
          have a2 := hEA.c2 m c
          have a3 := hEA.c3 m c
          have l1 := hEA.le
          have l2 := hEA.mx
          unfold maxLen at l2
          have hr := HGr.out.inr (es[m]?.getD Go.Proofs.YtckallochdegiaaGreat.e0) (by rw [get_eq c]; exact List.getElem_mem c)
          clear hEA
          have HX0 : Hid (0 ≤ (es[m]?.getD Go.Proofs.YtckallochdegiaaGreat.e0).lev ∧ es[m]?.getD Go.Proofs.YtckallochdegiaaGreat.e0 ∈ es) := by rw [get_eq c]; exact ⟨HLev.out _ (List.getElem_mem c), List.getElem_mem c⟩
          have HTk : Hid (∀ e, e ∈ es.take (m + 1) → e ∈ es.take m ∨ e = es[m]?.getD Go.Proofs.YtckallochdegiaaGreat.e0) := by
            intro e he
            rw [List.take_succ_eq_append_getElem c] at he
            rw [get_eq c]
            rcases List.mem_append.1 he with q | q
            · exact Or.inl q
            · exact Or.inr (by simpa using q)
          obtain ⟨x, hx⟩ : ∃ x, x = es[m]?.getD Go.Proofs.YtckallochdegiaaGreat.e0 := ⟨_, rfl⟩
          rw [← hx] at a0 a1 a2 a3 hr HX0 HTk
          clear hx
          obtain ⟨xu, xv, xl, xt⟩ := x
          have hxl : 0 ≤ xl := HX0.out.1
          obtain ⟨yl, rfl⟩ : ∃ y : Nat, xl = y := ⟨xl.toNat, by omega⟩
          clear hxl
          simp only at a0 a1 a2 a3 hr
          obtain ⟨yv, rfl⟩ : ∃ y : Nat, xv = y := ⟨xv.toNat, by omega⟩
          have HX1 : Hid (0 ≤ xu) := hr.1.1
          have HX2 : Hid (xu < N) := hr.1.2
          have HX3 : Hid (yv < N) := by show _ < _; omega
          clear hr
          have HBx : Hid (∀ o, Below w.heap.size w (wr.alloc o)) := fun o => hB.out.alloc hBs o
          have HGx : Hid (∀ o, GW (wr.alloc o).drew g N es ev tb nt tcap pr) := fun o => HGr.out.below ((Below.refl _ _).alloc (Nat.le_refl _) o).drew
          cases xt
          · go_wp2_with fail
            have HS0 : Hid (∀ j, (wr.alloc (.cells #[.int .i64 xu, .int .i64 yv, .int .i64 yl, .bool false] 89)).cell? ⟨wr.heap.size, j, none⟩ = #[Value.int .i64 xu, .int .i64 yv, .int .i64 yl, .bool false][j]?) := fun j => new_cell _ _ _ j
            go_cut [75] from 57 to 76 (fun x wx => ∃ bd : Bool, x = .bool bd ∧ Hid (bd = !inI es yl xu yv) ∧ Hid (Below w.heap.size w wx))
            case first =>
              have z0 := HS0.out 0
              have z1 := HS0.out 1
              have z2 := HS0.out 2
              have z3 := HS0.out 3
              go_region_with
                (first
                  | (go_at_call 69; refine (Component_any g N xu yl true es ev (wr.alloc _).drew (HGx.out _).c0 (HGx.out _).c1 (HGx.out _).ed n48 HX1.out HX2.out HG.out.inr).mono ?_; rintro e w3 ⟨rfl, ⟨r, hR, hr3⟩, hb3⟩; have HRi := hid (r_in hr3 HX3.out); have hb3' := below_drew hb3; have e0 : w3.cell? ⟨wr.heap.size, 0, none⟩ = some (.int .i64 xu) := (hb3'.cell (p := ⟨wr.heap.size, 0, none⟩) (by simp)).trans (HS0.out 0); have e1 : w3.cell? ⟨wr.heap.size, 1, none⟩ = some (.int .i64 yv) := (hb3'.cell (p := ⟨wr.heap.size, 1, none⟩) (by simp)).trans (HS0.out 1); have e2 : w3.cell? ⟨wr.heap.size, 2, none⟩ = some (.int .i64 yl) := (hb3'.cell (p := ⟨wr.heap.size, 2, none⟩) (by simp)).trans (HS0.out 2); have e3 : w3.cell? ⟨wr.heap.size, 3, none⟩ = some (.bool false) := (hb3'.cell (p := ⟨wr.heap.size, 3, none⟩) (by simp)).trans (HS0.out 3); have dr := lev_cell hR HX3.out; have hyl : (yv : Int) < (N : Int) := Int.ofNat_lt.2 HX3.out; have HB3 := hid ((HBx.out _).trans (hb3'.mono (HBx.out _).size)); clear hb3 hb3' hR hr3))
              all_goals
                go_wp2
                go_meet
                case rel => exact ⟨_, rfl, by show _ = _; rw [← HRi.out], HB3⟩
            case rest =>
              obtain ⟨bd, rfl, HBd, hB3⟩ := hcut
              cases bd
              · have HM2 : Hid (∀ e, e ∈ es.take (m + 1) → e.tree = true ∨ inI es e.lev.toNat e.u e.v = true) := by
                  intro e he
                  rcases HTk.out e he with q | q
                  · exact HM.out e q
                  · right
                    have := HBd.out
                    rw [q]
                    simpa using this
                clear HBd
                go_wp2
                exact ⟨⟨m + 1, by omega, by go_num, HM2, hB3⟩, by simp [intOf]; omega⟩
              · have HCf : Hid (levelF N es = false) := levelF_no2 HX0.out.2 rfl (by have := HBd.out; simpa using this)
                clear HBd
                go_wp2
                go_ret
                exact ⟨by rw [HCf.out]; rfl, hB3.out⟩
          · go_wp2_with fail
            have z3 : (wr.alloc (.cells #[.int .i64 xu, .int .i64 yv, .int .i64 yl, .bool true] 89)).cell? ⟨wr.heap.size, 3, none⟩ = some (.bool true) := by rw [new_cell]; rfl
            have HM2 : Hid (∀ e, e ∈ es.take (m + 1) → e.tree = true ∨ inI es e.lev.toNat e.u e.v = true) := by
              intro e he
              rcases HTk.out e he with q | q
              · exact HM.out e q
              · left; rw [q]
            go_quiet (fail)
            go_wp2
            exact ⟨⟨m + 1, by omega, by go_num, HM2, Below.drewN' _ (HBx.out _)⟩, by simp [intOf]; omega⟩
        · have c' : ¬ (m : Int) < (es.length : Int) := by omega
          have HCt : Hid (levelF N es = true) := by
            refine levelF_iff.2 ⟨HJn.out, fun e he => HM.out e ?_⟩
            rw [show m = es.length by omega, List.take_length]; exact he
          go_wp2
          go_ret
          exact ⟨by rw [HCt.out]; rfl, hB.out⟩

end Go.Proofs.YtckallochdegiaaGreat
