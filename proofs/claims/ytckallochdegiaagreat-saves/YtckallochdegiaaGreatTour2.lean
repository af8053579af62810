import Derived.Test.YtckallochdegiaaGreatRep
import Derived.Test.YtckallochdegiaaGreatItems
namespace Go.Proofs.YtckallochdegiaaGreat
set_option linter.unusedVariables false
set_option linter.unusedSimpArgs false
open Go.RowKit

/-- One level of a graph's tours, as it lies: the list ts, and in it the tour l, number k, of vertex v. -/
structure LvAt (w : World) (g tb tcap n i lb lcap : Nat) (ts : List (List Itm)) (f : Nat → Value) : Prop where
  c2 : w.cell? ⟨g, 2, none⟩ = some (.slice (some ⟨tb, 0, none⟩) n tcap)
  hn : n ≤ tcap
  hm : tcap ≤ maxLen
  hi : i < n
  ct : w.cell? ⟨tb, i, none⟩ = some (.slice (some ⟨lb, 0, none⟩) ts.length lcap)
  hl : ListAt w (.slice (some ⟨lb, 0, none⟩) ts.length lcap) ts lb lcap f

theorem LvAt.below {w w' : World} {g tb tcap n i lb lcap : Nat} {ts : List (List Itm)} {f : Nat → Value} (h : LvAt w g tb tcap n i lb lcap ts f) (hb : Below w.heap.size w w') : LvAt w' g tb tcap n i lb lcap ts f := by
  refine ⟨by rw [hb.cell (p := ⟨g, 2, none⟩) (cell_lt h.c2)]; exact h.c2, h.hn, h.hm, h.hi, by rw [hb.cell (p := ⟨tb, i, none⟩) (cell_lt h.ct)]; exact h.ct, ?_⟩
  obtain ⟨c, hc⟩ := h.hl.ty
  have lt : lb < w.heap.size := (Array.getElem?_eq_some_iff.1 hc).1
  refine ⟨h.hl.hv, h.hl.le, h.hl.mx, fun i hi => ?_, fun i hi => (h.hl.it i hi).below hb (Nat.le_refl _), c, by rw [hb.block lb lt]; exact hc⟩
  rw [hb.cell (p := ⟨lb, i, none⟩) lt]; exact h.hl.c0 i hi

theorem LvAt.drew {w : World} {g tb tcap n i lb lcap : Nat} {ts : List (List Itm)} {f : Nat → Value} (h : LvAt w g tb tcap n i lb lcap ts f) : LvAt w.drew g tb tcap n i lb lcap ts f := h.below (Below.refl _ _).drew

theorem tour_lv {w : World} {g tb tcap n i lb lcap : Nat} {ts : List (List Itm)} {f : Nat → Value} (h : LvAt w g tb tcap n i lb lcap ts f) (v : Int) {k : Nat} (hk : tourIx ts v = k) :
    Calls Tryz.prog 75 #[ptr g, .int .i64 i, .int .i64 v] w fun e w' => e = .returned (.int .i64 k) ∧ Below w.heap.size w w' := by
  rw [← hk]; exact tour_any g tb tcap lb lcap i n v ts f w h.c2 h.hn h.hm h.hi h.ct h.hl

theorem below_drew {w w' : World} (h : Below w.drew.heap.size w.drew w') : Below w.heap.size w w' := ⟨h.os, h.tape, h.output, h.size, h.block⟩

set_option maxRecDepth 100000 in
set_option maxHeartbeats 2000000 in
theorem Tour_any (g tb tcap n i lb lcap : Nat) (ts : List (List Itm)) (f : Nat → Value) (v : Int) (k : Nat) (l : List Itm) (w : World) (h : LvAt w g tb tcap n i lb lcap ts f)
    (hk : tourIx ts v = k) (hkl : k < ts.length) (hl : ts[k]?.getD [] = l) (hs : l.length ≤ 3000) :
    Calls Tryz.prog 40 #[ptr g, .int .i64 i, .int .i64 v] w fun e w' => ∃ v', e = .returned v' ∧ Items w' v' (fromX l (leastV l v, -1)) ∧ Below w.heap.size w w' := by
  have HV := hid h
  have h1 := h.hl.le
  have h2 := h.hl.mx
  have h3 := h.hn
  have h4 := h.hm
  have h5 := h.hi
  unfold maxLen at h2 h4
  obtain ⟨b, o, cap, hI⟩ := h.hl.it k hkl
  rw [hl] at hI
  have HI := hid hI
  have HK := hid hk
  have h6 := hI.le
  have h7 := hI.mx
  unfold maxLen at h7
  have d2 := h.c2
  have dt := h.ct
  have dk : w.cell? ⟨lb, k, none⟩ = some (.slice (some ⟨b, o, none⟩) l.length cap) := by rw [← hI.hv]; exact h.hl.c0 k hkl
  have hki : (k : Int) < (ts.length : Int) := by omega
  have hii : (i : Int) < (n : Int) := by omega
  clear h hk hl hI
  go_enter Tryz.func40, Tryz.ntmps40
  go_wp2_with fail
  go_cut [7] from 11 to 42 (fun x wc => x = .slice (some ⟨b, o, none⟩) l.length cap ∧ Hid (Below w.heap.size w wc))
  case first =>
    go_region_with (go_at_call 75; refine (tour_lv HV.out.drew v HK.out).mono ?_; rintro e w1 ⟨rfl, hb0⟩; have hb := below_drew hb0; clear hb0; have dt1 : w1.cell? ⟨tb, i, none⟩ = some (.slice (some ⟨lb, 0, none⟩) ts.length lcap) := (HV.out.below hb).ct; have d21 : w1.cell? ⟨g, 2, none⟩ = some (.slice (some ⟨tb, 0, none⟩) n tcap) := (HV.out.below hb).c2; have dk1 : w1.cell? ⟨lb, k, none⟩ = some (.slice (some ⟨b, o, none⟩) l.length cap) := (hb.cell (p := ⟨lb, k, none⟩) (cell_lt dk)).trans dk; have HB := hid hb; clear hb)
    all_goals
      go_wp2
      go_meet
      case rel => exact ⟨rfl, HB⟩
  case rest =>
    obtain ⟨rfl, hL⟩ := hcut
    clear d2 dt dk
    go_wp2_with fail
    go_loopw [8, 27] (fun q i wr => ∃ m : Nat, m ≤ l.length ∧ i = .int .i64 m ∧ q = .int .i64 (leastV (l.take m) v) ∧ Hid (Below w.heap.size w wr)) (fun _ i _ => l.length - (intOf i).toNat)
    case atStart => exact ⟨0, by omega, rfl, rfl, hL⟩
    case round =>
      obtain ⟨m, hm, rfl, rfl, hL2⟩ := hrel
      have hB := hL2.out.size
      by_cases hlt : m < l.length
      · have hlt' : (m : Int) < (l.length : Int) := by omega
        have I2 := HI.out.below hL2.out (Nat.le_refl _)
        have e0 := I2.c0 m hlt
        have e1 := I2.c1 m hlt
        have HS := hid (leastV_step l v m hlt)
        obtain ⟨x, hx⟩ : ∃ x, x = l[m]?.getD (0, 0) := ⟨_, rfl⟩
        rw [← hx] at e0 e1 HS
        clear hx I2
        obtain ⟨x1, x2⟩ := x
        simp only at e0 e1 HS
        by_cases hneg : x2 < 0
        · have HS2 : Hid (leastV (l.take (m + 1)) v = min (leastV (l.take m) v) x1) := by show _ = _; rw [HS.out, if_pos hneg]
          clear HS
          generalize leastV (l.take m) v = q at HS2 ⊢
          by_cases hq : x1 < q
          · go_wp2
            exact ⟨⟨m + 1, by omega, by go_num, by rw [HS2.out]; go_num, hL2.out.alloc hB _⟩, by simp [intOf]; omega⟩
          · go_wp2
            exact ⟨⟨m + 1, by omega, by go_num, by rw [HS2.out]; go_num, hL2.out.alloc hB _⟩, by simp [intOf]; omega⟩
        · have HS2 : Hid (leastV (l.take (m + 1)) v = leastV (l.take m) v) := by show _ = _; rw [HS.out, if_neg hneg]
          clear HS
          generalize leastV (l.take m) v = q at HS2 ⊢
          go_wp2
          exact ⟨⟨m + 1, by omega, by go_num, by rw [HS2.out], hL2.out.alloc hB _⟩, by simp [intOf]; omega⟩
      · have hml : m = l.length := by omega
        rw [hml, List.take_length]
        go_wp2_with fail
        refine (From_any b o cap _ _ l wr (HI.out.below hL2.out (Nat.le_refl _) |> fun z => z.hv ▸ z) hs).mono ?_
        rintro e w3 ⟨v', rfl, hA, hB3⟩
        go_wp2
        go_ret
        exact ⟨v', rfl, hA, hL2.out.trans (hB3.mono hB)⟩

end Go.Proofs.YtckallochdegiaaGreat
