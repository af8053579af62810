import Derived.Test.YtnmdcogckkkfaaaNum
import Derived.Test.YtnmdcogckkkfaaaNewW
import Derived.Deep.RegionLawGrows
namespace Go.Proofs.Ytnmdcogckkkfaaa
set_option linter.unusedVariables false
set_option linter.unusedSimpArgs false
open Go.RowKit

/-- 'append' of nothing to an own row, as a step. -/
theorem step_append_none {P : Program} {ops : Array Oper} {o : Oper} {a : Act} {w : World} {K : Act → World → Prop} {Q : Exit → Act → World → Prop} {E : Prop}
    (hg : o.guard = none) (s x : Operand) (t : TypeId) (hop : o.op = Op.call { callee := Callee.builtin Builtin.append, args := #[s, x], argTypes := #[t, t] })
    (base : Nat) (e : TypeId) (i : TypeInfo) (size : Nat) (h1 : P.underlying t = some (.slice e)) (h2 : P.info? e = some i)
    (v : Value) (n : Nat) (xs : List Value) (hs : a.eval s = v) (hown : w.ownsRow base e size v n xs) (hx : a.eval x = .slice none 0 0)
    (hK : K (a.put o.dst v) w) :
    if Region.wanted o (yielded ops a.tmps) = true then Oper.wp P o a w K Q else E := by
  have hw : Region.wanted o (yielded ops a.tmps) = true := by simp [Region.wanted, hg]
  rw [if_pos hw]
  have hrun := run_append_owned_none (P := P) w base t o.type e i size h1 h2 v n xs hown
  unfold Oper.wp
  simp [execOp, hop, resolve, invoke, builtin, hs, hx, hrun, Result.andThen]
  exact hK

theorem owns_form1 {w : World} {B e size n : Nat} {v : Value} {xs : List Value} (h : w.ownsRow B e size v n xs) (hn : 0 < n) : ∃ g c, v = .slice (some ⟨g, 0, none⟩) n c := by
  rcases h.2 with ⟨_, h0⟩ | ⟨g, cap, cur, hv, _⟩
  · omega
  · exact ⟨g, cap, hv⟩
theorem sort_keep {w w4 : World} {o : Obj} {v : Value} {out : List Edg} {ob ocap n c : Nat} (h : EAt w v out ob ocap) (hg : (w.alloc o).drew.grownBy w4 (Value.slice (some ⟨w.heap.size, 0, none⟩) n c).ownBlock) : EAt w4 v out ob ocap :=
  (h.below ((Below.refl _ _).alloc (Nat.le_refl _) o).drew (Nat.le_refl _)).grown hg (fun q => by have := h.lt; simp [Value.ownBlock] at q; omega)
theorem sort_len {out : List Edg} {k : Nat} (e : Edg) (h : k ≤ out.length) : (out.take k ++ ([e] ++ out.drop k)).length = out.length + 1 := by
  simp; omega

/-- What sorted has so far. -/
def SortAt (w : World) (B : Nat) (v : Value) (out es : List Edg) : Prop := w.ownsRow B 101 4 v out.length (eCells out) ∧ (∀ e, e ∈ out → e ∈ es) ∧ (out = [] → v = .slice none 0 0)

theorem SortAt.eat {w : World} {B : Nat} {v : Value} {out es : List Edg} (h : SortAt w B v out es) (hne : out ≠ []) : ∃ b cap, EAt w v out b cap ∧ B ≤ b := eat_of_owns h.1 hne
theorem SortAt.below {w w' : World} {B C : Nat} {v : Value} {out es : List Edg} (h : SortAt w B v out es) (b : Below C w w') (hC : w.heap.size ≤ C) : SortAt w' B v out es := ⟨owns_below h.1 b hC, h.2⟩

theorem sort_done {w wc w4 w5 : World} {ty : Obj} {v2 : Value} {out es : List Edg} {e : Edg} {k : Nat} {row : Option Nat} (h : w5.ownsRow w4.heap.size 101 4 v2 (k + (1 + (out.length - k))) (eCells (out.take k) ++ (eCells [e] ++ eCells (out.drop k)))) (hk : k ≤ out.length) (hw : w.heap.size ≤ wc.heap.size) (hg : (wc.alloc ty).drew.grownBy w4 row)
    (ho : ∀ e, e ∈ out → e ∈ es) (he : e ∈ es) : SortAt w5 w.heap.size v2 (out.take k ++ ([e] ++ out.drop k)) es := by
  have hs : (wc.alloc ty).heap.size ≤ w4.heap.size := hg.size
  simp at hs
  refine ⟨?_, fun f hf => ?_, fun q => by simp at q⟩
  · rw [sort_len e hk, eCells_append, eCells_append, show out.length + 1 = k + (1 + (out.length - k)) by omega]
    exact owns_mono h (by omega)
  · rcases List.mem_append.1 hf with q | q
    · exact ho f (List.mem_of_mem_take q)
    · rcases List.mem_append.1 q with q | q
      · simp at q; subst q; exact he
      · exact ho f (List.mem_of_mem_drop q)

theorem sort_done2 {w wc w5 : World} {ty : Obj} {v2 : Value} {out es : List Edg} {e : Edg} {k : Nat} (h : w5.ownsRow (wc.alloc ty).drew.heap.size 101 4 v2 (k + 1) (eCells (out.take k) ++ eCells [e])) (hk : k ≤ out.length) (hw : w.heap.size ≤ wc.heap.size)
    (ho : ∀ e, e ∈ out → e ∈ es) (he : e ∈ es) (hd : out.drop k = []) : SortAt w5 w.heap.size v2 (out.take k ++ ([e] ++ out.drop k)) es := by
  have hs : (wc.alloc ty).drew.heap.size = (wc.alloc ty).heap.size := rfl
  simp only [World.alloc, Array.size_push] at hs
  have hl : out.length = k := by have := congrArg List.length hd; simp at this; omega
  refine ⟨?_, fun f hf => ?_, fun q => by simp at q⟩
  · rw [sort_len e hk, eCells_append, eCells_append, hd, hl]
    have e0 : eCells ([] : List Edg) = [] := rfl
    rw [e0, List.append_nil]
    exact owns_mono h (by show w.heap.size ≤ (wc.alloc ty).heap.size; simp; omega)
  · rcases List.mem_append.1 hf with q | q
    · exact ho f (List.mem_of_mem_take q)
    · rw [hd] at q; simp at q; subst q; exact he

/-- What sorted answers. -/
def SortedR (es : List Edg) (w : World) (e : Ending) (w' : World) : Prop := ∃ v' out, e = .returned v' ∧ SortAt w' w.heap.size v' out es ∧ out.length = es.length ∧ Below w.heap.size w w'

set_option maxRecDepth 100000 in
set_option maxHeartbeats 1000000 in
theorem sorted_any (w : World) (es : List Edg) (ev : Value) (hE : Edges w ev es) (hl : es.length ≤ 2400) :
    Calls Try.prog 79 #[ev] w (SortedR es w) := by
  obtain ⟨i93, q0, q1, q2, q3⟩ := info_parts Try.info101
  obtain ⟨p, cap, hv⟩ : ∃ p cap, ev = .slice p es.length cap := by
    rcases hE with ⟨rfl, rfl⟩ | ⟨b, cap, h⟩
    · exact ⟨_, _, rfl⟩
    · exact ⟨_, _, h.hv⟩
  subst hv
  have HE := hid hE
  clear hE
  go_enter Try.func79, Try.ntmps79
  go_wp2_with fail
  go_loopw [3, 9] (fun a b wr => ∃ (m : Nat) (out : List Edg), m ≤ es.length ∧ out.length = m ∧ b = .int .i64 m ∧ Hid (SortAt wr w.heap.size a out es) ∧ Hid (Below w.heap.size w wr)) (fun _ b _ => es.length - (intOf b).toNat)
  case atStart => exact ⟨0, [], by omega, rfl, rfl, ⟨World.ownsRow_nil _ _ _ _, fun e he => by simp at he, fun _ => rfl⟩, Below.refl _ _⟩
  case round =>
    obtain ⟨m, out, hm, hom, rfl, hS, hB⟩ := hrel
    have hsz := hB.out.size
    have hol : out.length ≤ 2400 := by omega
    have HOm := hid hom
    clear hom
    by_cases c : m < es.length
    · have c' : (m : Int) < (es.length : Int) := by omega
      obtain ⟨eb, ecap, hEA, hev⟩ := (HE.out.below hB.out (Nat.le_refl _)).at_ c
      simp only [Value.slice.injEq] at hev
      obtain ⟨hp, _, hcap⟩ := hev
      subst hp hcap
      have a0 := hEA.c0 m c
      have a1 := hEA.c1 m c
      have a2 := hEA.c2 m c
      have a3 := hEA.c3 m c
      have hlt := hEA.lt
      have hmem : es[m]?.getD Go.Proofs.Ytnmdcogckkkfaaa.e0 ∈ es := by rw [get_eq c]; exact List.getElem_mem c
      have HMem := hid hmem
      clear hEA hmem
      obtain ⟨x, hx⟩ : ∃ x, x = es[m]?.getD Go.Proofs.Ytnmdcogckkkfaaa.e0 := ⟨_, rfl⟩
      rw [← hx] at a0 a1 a2 a3 HMem
      clear hx
      obtain ⟨xu, xv, xl, xt⟩ := x
      simp only at a0 a1 a2 a3
      go_wp2_with fail
      clear a0 a1 a2 a3
      obtain ⟨wE, hwE⟩ : ∃ wE : World, wE = wr.alloc (.cells #[.int .i64 xu, .int .i64 xv, .int .i64 xl, .bool xt] 101) := ⟨_, rfl⟩
      have HS1 : Hid (SortAt wE w.heap.size u3 out es) := by rw [hwE]; exact hS.out.below ((Below.refl _ _).alloc (Nat.le_refl _) _) (Nat.le_refl _)
      have HB1 : Hid (Below w.heap.size w wE) := by rw [hwE]; exact hB.out.alloc hsz _
      have HC : Hid (∀ j, wE.cell? ⟨wr.heap.size, j, none⟩ = #[Value.int .i64 xu, .int .i64 xv, .int .i64 xl, .bool xt][j]?) := by rw [hwE]; exact fun j => new_cell _ _ _ j
      have hsE : wE.heap.size = wr.heap.size + 1 := by rw [hwE]; simp
      rw [← hwE]
      clear hwE hS hB
      obtain ⟨xb, hxb⟩ : ∃ xb, xb = wr.heap.size := ⟨_, rfl⟩
      rw [← hxb] at HC hsE ⊢
      have hxb2 : w.heap.size ≤ xb := by omega
      clear hxb hsz hlt wr
      go_loopw [6] (fun a wr => ∃ k : Nat, k ≤ out.length ∧ a = .int .i64 k ∧ Hid (Below wE.heap.size wE wr)) (fun a _ => out.length - (intOf a).toNat)
      case atStart => exact ⟨0, by omega, rfl, Below.refl _ _⟩
      case round =>
        obtain ⟨k, hk, rfl, hBi⟩ := hrel
        have hsi := hBi.out.size
        have HSi : Hid (SortAt wr w.heap.size u3 out es) := HS1.out.below hBi.out (Nat.le_refl _)
        have z0 : wr.cell? ⟨xb, 0, none⟩ = some (.int .i64 xu) := by rw [hBi.out.cell (p := ⟨xb, 0, none⟩) (by show xb < _; omega)]; exact HC.out 0
        have z1 : wr.cell? ⟨xb, 1, none⟩ = some (.int .i64 xv) := by rw [hBi.out.cell (p := ⟨xb, 1, none⟩) (by show xb < _; omega)]; exact HC.out 1
        have z2 : wr.cell? ⟨xb, 2, none⟩ = some (.int .i64 xl) := by rw [hBi.out.cell (p := ⟨xb, 2, none⟩) (by show xb < _; omega)]; exact HC.out 2
        have z3 : wr.cell? ⟨xb, 3, none⟩ = some (.bool xt) := by rw [hBi.out.cell (p := ⟨xb, 3, none⟩) (by show xb < _; omega)]; exact HC.out 3
        go_wp2_with fail
        go_cut [46] from 13 to 48 (fun x wx => ∃ bd : Bool, x = .bool bd ∧ (bd = true → k < out.length) ∧ Hid (Below wr.heap.size wr wx))
        case first =>
          by_cases ho : out = []
          · have hu := HSi.out.2.2 ho
            subst hu
            have hk0 : ((k : Int) < 0) = False := by simp
            have hk1 : decide ((k : Int) < 0) = false := by simp
            clear ho hk HSi HS1
            go_quiet (fail)
            go_wp2
            go_meet
            case rel => exact ⟨false, rfl, fun q => by simp at q, Below.drewN' _ (Below.refl _ _)⟩
          · obtain ⟨ob, ocap, hO, hBo⟩ := HSi.out.eat ho
            have hu := hO.hv
            subst hu
            have o1 := hO.le
            have o2 := hO.mx
            unfold maxLen at o2
            by_cases d : k < out.length
            · have HD := hid d
              have d9 : decide (k < out.length) = true := by simpa using d
              have d' : (k : Int) < (out.length : Int) := by omega
              have b0 := hO.c0 k d
              have b1 := hO.c1 k d
              clear hO
              obtain ⟨y, hy⟩ : ∃ y, y = out[k]?.getD Go.Proofs.Ytnmdcogckkkfaaa.e0 := ⟨_, rfl⟩
              rw [← hy] at b0 b1
              clear hy
              obtain ⟨yu, yv, yl, yt⟩ := y
              simp only at b0 b1
              by_cases e1 : yu < xu
              · have f1 : decide (yu < xu) = true := by simpa using e1
                go_quiet (fail)
                go_wp2
                go_meet
                case rel => exact ⟨true, rfl, fun _ => HD.out, Below.drewN' _ (Below.refl _ _)⟩
              · have f1 : decide (yu < xu) = false := by simpa using e1
                by_cases e2 : yu = xu
                · have f2 : (yu == xu) = true := by simpa using e2
                  clear e2
                  go_quiet (fail)
                  go_wp2
                  go_meet
                  case rel => exact ⟨_, rfl, fun _ => HD.out, Below.drewN' _ (Below.refl _ _)⟩
                · have f2 : (yu == xu) = false := by simpa using e2
                  go_quiet (fail)
                  go_wp2
                  go_meet
                  case rel => exact ⟨false, rfl, fun q => by simp at q, Below.drewN' _ (Below.refl _ _)⟩
            · have d' : ¬ (k : Int) < (out.length : Int) := by omega
              have d2 : decide (k < out.length) = false := by simpa using d
              go_quiet (fail)
              go_wp2
              go_meet
              case rel => exact ⟨false, rfl, fun q => by simp at q, Below.drewN' _ (Below.refl _ _)⟩
        case rest =>
          obtain ⟨bd, rfl, hbd, hB2⟩ := hcut
          have HB3 : Hid (Below wE.heap.size wE wc) := hBi.out.trans (hB2.out.mono hsi)
          have HS3 : Hid (SortAt wc w.heap.size u3 out es) := HSi.out.below hB2.out (Nat.le_refl _)
          clear z0 z1 z2 z3 HSi
          cases bd
          · clear hbd
            have hsE3 := HB3.out.size
            have HBw : Hid (Below w.heap.size w wc) := HB1.out.trans (HB3.out.mono (by omega))
            have z0 : wc.cell? ⟨xb, 0, none⟩ = some (.int .i64 xu) := by rw [HB3.out.cell (p := ⟨xb, 0, none⟩) (by show xb < _; omega)]; exact HC.out 0
            have z1 : wc.cell? ⟨xb, 1, none⟩ = some (.int .i64 xv) := by rw [HB3.out.cell (p := ⟨xb, 1, none⟩) (by show xb < _; omega)]; exact HC.out 1
            have z2 : wc.cell? ⟨xb, 2, none⟩ = some (.int .i64 xl) := by rw [HB3.out.cell (p := ⟨xb, 2, none⟩) (by show xb < _; omega)]; exact HC.out 2
            have z3 : wc.cell? ⟨xb, 3, none⟩ = some (.bool xt) := by rw [HB3.out.cell (p := ⟨xb, 3, none⟩) (by show xb < _; omega)]; exact HC.out 3
            have HM : Hid (∀ m : Nat, m ≤ 20000 → m ≤ maxLen) := fun m hm => by unfold maxLen; omega
            have HL : Hid ((wc.alloc (.cells #[.int .i64 xu, .int .i64 xv, .int .i64 xl, .bool xt] 101)).drew.ownsRow wc.heap.size 101 4 (.slice (some ⟨wc.heap.size, 0, none⟩) 1 1) 1 (eCells [⟨xu, xv, xl, xt⟩])) :=
              World.ownsRow_lit wc #[.int .i64 xu, .int .i64 xv, .int .i64 xl, .bool xt] 1 (Nat.le_refl _) (by unfold maxLen; omega) rfl
            have hwc : w.heap.size ≤ wc.heap.size := by omega
            by_cases ho : out = []
            · have hu := HS3.out.2.2 ho
              subst hu
              have hk0 : k = 0 := by rw [ho] at hk; simpa using hk
              have HO := hid ho
              clear ho hk
              subst hk0
              go_wp2_with fail
              go_region_law (first
                | (refine step_append_none rfl (.tmp 54) (.tmp 57) 60 rfl wc.heap.size 101 i93 4 Try.underlying60 q0 (.slice (some ⟨wc.heap.size, 0, none⟩) 1 1) 1 _ (by simp [Act.eval, Act.put]) HL.out (by simp [Act.eval, Act.put]) ?_)
                | (refine step_append_grows rfl (.tmp 52) (.tmp 58) 60 rfl 101 i93 _ 4 32 Try.underlying60 q0 q1 q2 q3 rfl (by decide) none 0 0 [] (by simp [Act.eval, Act.put]) (fun _ => ⟨rfl, rfl⟩) rfl (fun b hb => by simp at hb) ⟨wc.heap.size, 0, none⟩ 1 1 (eCells [⟨xu, xv, xl, xt⟩]) (by simp [Act.eval, Act.put]) rfl (HL.out.cells rfl) (edges_one _) (by omega) (HM.out _ (by omega)) (by omega) ?_; intro v2 w5 ho5 hg5; have HO5 := hid ho5; have HG5 := hid hg5; clear ho5 hg5))
              all_goals
                have R1 : Hid (SortAt w5 w.heap.size v2 [⟨xu, xv, xl, xt⟩] es) := ⟨owns_mono HO5.out (by show w.heap.size ≤ (wc.alloc _).heap.size; simp; omega), fun e he => by simp at he; subst he; exact HMem.out, fun q => by simp at q⟩
                have R2 : Hid (Below w.heap.size w w5) := ((HBw.out.alloc hwc _).drew).grown HG5.out (by show w.heap.size ≤ (wc.alloc _).heap.size; simp; omega) (fun k hk => by simp at hk)
                clear HO5 HG5
                go_wp2
                exact ⟨⟨m + 1, [⟨xu, xv, xl, xt⟩], by omega, by have := HOm.out; rw [HO.out] at this; simp at this; simp; omega, by go_num, R1, R2⟩, by simp [intOf]; omega⟩
            · obtain ⟨ob, ocap, hO, hBo⟩ := HS3.out.eat ho
              have hu := hO.hv
              subst hu
              have HO := hid hO
              have o1 := hO.le
              have o2 := hO.mx
              unfold maxLen at o2
              clear hO ho
              have HOle : Hid (k ≤ out.length) := hk
              have HN1 : Hid ((eCells (out.take k)).length = k * 4) := by show _ = _; rw [eCells_length, List.length_take]; omega
              have HN2 : Hid ((eCells (out.drop k)).length = (out.length - k) * 4) := by show _ = _; rw [eCells_length, List.length_drop]
              have HN3 : Hid ((eCells [⟨xu, xv, xl, xt⟩] ++ eCells (out.drop k)).length = (1 + (out.length - k)) * 4) := by show _ = _; rw [List.length_append, eCells_length, eCells_length, List.length_drop]; simp; omega
              have HN4 : Hid (∀ u ∈ eCells [⟨xu, xv, xl, xt⟩] ++ eCells (out.drop k), u.oneCell' = true) := fun u hu => by rw [← eCells_append] at hu; exact edges_one _ u hu
              have hq1 : (k : Int) ≤ (out.length : Int) := by omega
              have hq2 : k ≤ ocap := by omega
              have hq3 : (k : Int) ≤ (ocap : Int) := by omega
              by_cases hcap : ocap = k
              · subst hcap
                have hdr : out.drop ocap = [] := List.drop_eq_nil_of_le o1
                have HDr := hid hdr
                clear hdr
                go_wp2_with fail
                go_region_law (refine step_append_grows rfl (.tmp 52) (.tmp 58) 60 rfl 101 i93 _ 4 32 Try.underlying60 q0 q1 q2 q3 rfl (by decide) (some ⟨ob, 0, none⟩) ocap ocap (eCells (out.take ocap)) (by simp [Act.eval, Act.put]) (fun q => by simp at q) HN1.out (fun b hb j u hj => by simp at hb; subst hb; exact (HO.out.below ((Below.refl _ _).alloc (Nat.le_refl _) _).drew (Nat.le_refl _)).takeC ocap j u hj) ⟨wc.heap.size, 0, none⟩ 1 1 (eCells [⟨xu, xv, xl, xt⟩]) (by simp [Act.eval, Act.put]) rfl (HL.out.cells rfl) (edges_one _) (by omega) (HM.out _ (by omega)) (by omega) ?_; intro v2 w5 ho5 hg5; have HO5 := hid ho5; have HG5 := hid hg5; clear ho5 hg5)
                all_goals
                  have R1 : Hid (SortAt w5 w.heap.size v2 (out.take ocap ++ ([⟨xu, xv, xl, xt⟩] ++ out.drop ocap)) es) := sort_done2 HO5.out HOle.out hwc HS3.out.2.1 HMem.out HDr.out
                  have R2 : Hid (Below w.heap.size w w5) := ((HBw.out.alloc hwc _).drew).grown HG5.out (by show w.heap.size ≤ (wc.alloc _).heap.size; simp; omega) (fun k hk => by simp at hk)
                  clear HO5 HG5
                  go_wp2
                  exact ⟨⟨m + 1, _, by omega, by rw [sort_len _ HOle.out]; have := HOm.out; omega, by go_num, R1, R2⟩, by simp [intOf]; omega⟩
              · have hcap2 : ¬ ocap - k = 0 := by omega
                go_wp2_with fail
                go_region_law (first
                  | (refine step_append_mine rfl (.tmp 54) (.tmp 57) 60 rfl wc.heap.size 101 i93 _ 4 32 Try.underlying60 q0 q1 q2 q3 rfl (by decide) (.slice (some ⟨wc.heap.size, 0, none⟩) 1 1) 1 (eCells [⟨xu, xv, xl, xt⟩]) (by simp [Act.eval, Act.put]) HL.out ⟨ob, k * 4, none⟩ (out.length - k) (ocap - k) (eCells (out.drop k)) (by simp [Act.eval, Act.put]) HN2.out ((HO.out.below ((Below.refl _ _).alloc (Nat.le_refl _) _).drew (Nat.le_refl _)).dropC k _ (Or.inl rfl)) (edges_one _) (HM.out _ (by omega)) (by omega) (by show wc.heap.size ≤ (wc.alloc _).heap.size; simp) ?_; intro v1 w4 ho1 hg1; obtain ⟨g1, c1, hv1⟩ := owns_form1 ho1 (by omega); subst hv1; have HO1 := hid ho1; have HG1 := hid hg1; clear ho1 hg1)
                  | (refine step_append_grows rfl (.tmp 52) (.tmp 58) 60 rfl 101 i93 _ 4 32 Try.underlying60 q0 q1 q2 q3 rfl (by decide) (some ⟨ob, 0, none⟩) k k (eCells (out.take k)) (by simp [Act.eval, Act.put]) (fun q => by simp at q) HN1.out (fun b hb j u hj => by simp at hb; subst hb; exact (sort_keep HO.out HG1.out).takeC k j u hj) ⟨g1, 0, none⟩ (1 + (out.length - k)) c1 (eCells [⟨xu, xv, xl, xt⟩] ++ eCells (out.drop k)) (by simp [Act.eval, Act.put]) HN3.out (HO1.out.cells rfl) HN4.out (by omega) (HM.out _ (by omega)) (by omega) ?_; intro v2 w5 ho5 hg5; have HO5 := hid ho5; have HG5 := hid hg5; clear ho5 hg5))
                all_goals
                  have R1 : Hid (SortAt w5 w.heap.size v2 (out.take k ++ ([⟨xu, xv, xl, xt⟩] ++ out.drop k)) es) := sort_done HO5.out HOle.out hwc HG1.out HS3.out.2.1 HMem.out
                  have R2 : Hid (Below w.heap.size w w5) := (((HBw.out.alloc hwc _).drew).grown HG1.out (by show w.heap.size ≤ (wc.alloc _).heap.size; simp; omega) (fun k hk => by simp [Value.ownBlock] at hk; omega)).grown HG5.out (Nat.le_trans (by show w.heap.size ≤ (wc.alloc _).heap.size; simp; omega) HG1.out.size) (fun k hk => by simp at hk)
                  clear HO5 HG5 HO1 HG1
                  go_wp2
                  exact ⟨⟨m + 1, _, by omega, by rw [sort_len _ HOle.out]; have := HOm.out; omega, by go_num, R1, R2⟩, by simp [intOf]; omega⟩
          · have hk2 := hbd rfl
            go_wp2
            exact ⟨⟨k + 1, by omega, by go_num, HB3⟩, by simp [intOf]; omega⟩
    · have c' : ¬ (m : Int) < (es.length : Int) := by omega
      go_wp2
      go_ret
      exact ⟨_, out, rfl, hS.out, by have := HOm.out; omega, hB.out⟩

end Go.Proofs.Ytnmdcogckkkfaaa
