import Derived.Test.YtckallochdegiaaGreatTour2
namespace Go.Proofs.YtckallochdegiaaGreat
set_option linter.unusedVariables false
set_option linter.unusedSimpArgs false
open Go.RowKit

set_option maxRecDepth 100000 in
set_option maxHeartbeats 2000000 in
theorem size_any (g tb tcap n i lb lcap : Nat) (ts : List (List Itm)) (f : Nat → Value) (v : Int) (k : Nat) (l : List Itm) (w : World) (h : LvAt w g tb tcap n i lb lcap ts f)
    (hk : tourIx ts v = k) (hkl : k < ts.length) (hl : ts[k]?.getD [] = l) (hs : l.length ≤ 3000) :
    Calls Tryz.prog 99 #[ptr g, .int .i64 i, .int .i64 v] w fun e w' => e = .returned (.int .i64 (sizeV l)) ∧ Below w.heap.size w w' := by
  have HV := hid h
  have h1 := h.hl.le
  have h2 := h.hl.mx
  have h3 := h.hn
  have h4 := h.hm
  have h5 := h.hi
  unfold maxLen at h2 h4
  obtain ⟨b, o, cap, hI⟩ := h.hl.it k hkl
  rw [hl] at hI
  have HI := hid hI
  have HK := hid hk
  have h6 := hI.le
  have h7 := hI.mx
  unfold maxLen at h7
  have d2 := h.c2
  have dt := h.ct
  have dk : w.cell? ⟨lb, k, none⟩ = some (.slice (some ⟨b, o, none⟩) l.length cap) := by rw [← hI.hv]; exact h.hl.c0 k hkl
  have hki : (k : Int) < (ts.length : Int) := by omega
  have hii : (i : Int) < (n : Int) := by omega
  clear h hk hl hI
  go_enter Tryz.func99, Tryz.ntmps99
  go_wp2_with fail
  go_cut [22, 23, 24] from 10 to 21 (fun x y z wc => x = .slice (some ⟨b, o, none⟩) l.length cap ∧ y = .int .i64 l.length ∧ z = .int .i64 0 ∧ Hid (Below w.heap.size w wc))
  case first =>
    go_region_with (go_at_call 75; refine (tour_lv HV.out.drew v HK.out).mono ?_; rintro e w1 ⟨rfl, hb0⟩; have hb := below_drew hb0; clear hb0; have dt1 : w1.cell? ⟨tb, i, none⟩ = some (.slice (some ⟨lb, 0, none⟩) ts.length lcap) := (HV.out.below hb).ct; have d21 : w1.cell? ⟨g, 2, none⟩ = some (.slice (some ⟨tb, 0, none⟩) n tcap) := (HV.out.below hb).c2; have dk1 : w1.cell? ⟨lb, k, none⟩ = some (.slice (some ⟨b, o, none⟩) l.length cap) := (hb.cell (p := ⟨lb, k, none⟩) (cell_lt dk)).trans dk; have HB := hid hb; clear hb)
    all_goals
      go_wp2
      go_meet
      case rel => exact ⟨rfl, rfl, rfl, HB⟩
  case rest =>
    obtain ⟨rfl, rfl, rfl, hL⟩ := hcut
    clear d2 dt dk
    go_wp2_with fail
    go_loopw [7, 24] (fun q i wr => ∃ m : Nat, m ≤ l.length ∧ i = .int .i64 m ∧ q = .int .i64 (sizeV (l.take m)) ∧ Hid (Below w.heap.size w wr)) (fun _ i _ => l.length - (intOf i).toNat)
    case atStart => exact ⟨0, by omega, rfl, rfl, hL⟩
    case round =>
      obtain ⟨m, hm, rfl, rfl, hL2⟩ := hrel
      have hB := hL2.out.size
      have hsz := sizeV_le (l.take m)
      have hsz2 : (l.take m).length ≤ m := List.length_take_le _ _
      by_cases hlt : m < l.length
      · have hlt' : (m : Int) < (l.length : Int) := by omega
        have I2 := HI.out.below hL2.out (Nat.le_refl _)
        have e0 := I2.c0 m hlt
        have e1 := I2.c1 m hlt
        have HS := hid (sizeV_step l m hlt)
        obtain ⟨x, hx⟩ : ∃ x, x = l[m]?.getD (0, 0) := ⟨_, rfl⟩
        rw [← hx] at e0 e1 HS
        clear hx I2
        obtain ⟨x1, x2⟩ := x
        simp only at e0 e1 HS
        generalize sizeV (l.take m) = q at HS hsz ⊢
        by_cases hneg : x2 < 0
        · have HS2 : Hid (sizeV (l.take (m + 1)) = q + 1) := by show _ = _; rw [HS.out, if_pos hneg]
          clear HS
          go_wp2
          exact ⟨⟨m + 1, by omega, by go_num, by rw [HS2.out]; go_num, hL2.out.alloc hB _⟩, by simp [intOf]; omega⟩
        · have HS2 : Hid (sizeV (l.take (m + 1)) = q) := by show _ = _; rw [HS.out, if_neg hneg]; rfl
          clear HS
          go_wp2
          exact ⟨⟨m + 1, by omega, by go_num, by rw [HS2.out], hL2.out.alloc hB _⟩, by simp [intOf]; omega⟩
      · have hml : m = l.length := by omega
        rw [hml, List.take_length]
        go_wp2_with fail
        go_ret
        exact ⟨rfl, hL2.out⟩

theorem Tryz.info68 : (Tryz.prog.info? 68).map (fun i => (i.zero, i.size, i.bytes)) = some (some (.slice none 0 0), 1, 24) := by kernel_rfl

set_option maxRecDepth 100000 in
set_option maxHeartbeats 2000000 in
theorem without_any (g tb tcap n i lb lcap : Nat) (ts : List (List Itm)) (f : Nat → Value) (u v : Int) (ka kb : Nat) (w : World) (h : LvAt w g tb tcap n i lb lcap ts f)
    (hka : tourIx ts u = ka) (hkb : tourIx ts v = kb) (hs : ts.length ≤ 1000) :
    Calls Tryz.prog 120 #[ptr g, .int .i64 i, .int .i64 u, .int .i64 v] w fun e w' => ∃ v', e = .returned v' ∧ w'.ownsRow w.heap.size 68 1 v' (others ka kb ts.length).length ((others ka kb ts.length).map f) ∧ Below w.heap.size w w' := by
  have HV := hid h
  have h1 := h.hl.le
  have h2 := h.hl.mx
  have h3 := h.hn
  have h4 := h.hm
  have h5 := h.hi
  unfold maxLen at h2 h4
  have HKa := hid hka
  have HKb := hid hkb
  have hii : (i : Int) < (n : Int) := by omega
  clear h hka hkb
  obtain ⟨i71, q0, q1, q2, q3⟩ := info_parts Tryz.info68
  go_enter Tryz.func120, Tryz.ntmps120
  go_wp2_with fail
  refine (tour_lv HV.out u HKa.out).mono ?_
  rintro e w1 ⟨rfl, hb1⟩
  have HV1 := hid (HV.out.below hb1)
  have HB1 := hid hb1
  clear hb1
  go_wp2_with fail
  refine (tour_lv HV1.out v HKb.out).mono ?_
  rintro e w2 ⟨rfl, hb2⟩
  have HV2 := hid (HV1.out.below hb2)
  have HB2 : Hid (Below w.heap.size w w2) := HB1.out.trans (hb2.mono HB1.out.size)
  clear hb2 HB1 HV1
  have d2 := HV2.out.c2
  have dt := HV2.out.ct
  go_wp2_with fail
  go_loopw [11, 30] (fun q i wr => ∃ m : Nat, m ≤ ts.length ∧ i = .int .i64 m ∧ Hid (wr.ownsRow w.heap.size 68 1 q (others ka kb m).length ((others ka kb m).map f)) ∧ Hid (Below w.heap.size w wr) ∧ Hid (Below w.heap.size w2 wr)) (fun _ i _ => ts.length - (intOf i).toNat)
  case atStart => exact ⟨0, by omega, rfl, World.ownsRow_nil _ _ _ _, HB2, Below.refl _ _⟩
  case round =>
    obtain ⟨m, hm, rfl, hO, hL, hL2⟩ := hrel
    clear d2 dt
    have hB := hL.out.size
    by_cases hlt : m < ts.length
    · have hlt' : (m : Int) < (ts.length : Int) := by omega
      obtain ⟨b, o, cap, hI⟩ := HV.out.hl.it m hlt
      have dk : wr.cell? ⟨lb, m, none⟩ = some (.slice (some ⟨b, o, none⟩) (ts[m]?.getD []).length cap) := by
        rw [← hI.hv, ← HV.out.hl.c0 m hlt]
        obtain ⟨c, hc⟩ := HV.out.hl.ty
        exact hL.out.cell (p := ⟨lb, m, none⟩) (Array.getElem?_eq_some_iff.1 hc).1
      have HF := hid hI.hv
      clear hI
      generalize (ts[m]?.getD []).length = ln at dk HF
      by_cases e1 : m = ka
      · have b1 : ((m : Int) != (ka : Int)) = false := by simp [e1]
        have HN : Hid (others ka kb (m + 1) = others ka kb m) := by show _ = _; rw [others_succ, if_neg (by omega)]
        clear e1
        go_wp2
        exact ⟨⟨m + 1, by omega, by go_num, by rw [HN.out]; exact hO, hL, hL2⟩, by simp [intOf]; omega⟩
      · have b1 : ((m : Int) != (ka : Int)) = true := by simp; omega
        by_cases e2 : m = kb
        · have b2 : ((m : Int) != (kb : Int)) = false := by simp [e2]
          have HN : Hid (others ka kb (m + 1) = others ka kb m) := by show _ = _; rw [others_succ, if_neg (by omega)]
          clear e2
          go_wp2
          exact ⟨⟨m + 1, by omega, by go_num, by rw [HN.out]; exact hO, hL, hL2⟩, by simp [intOf]; omega⟩
        · have b2 : ((m : Int) != (kb : Int)) = true := by simp; omega
          have HN : Hid (others ka kb (m + 1) = others ka kb m ++ [m]) := by show _ = _; rw [others_succ, if_pos ⟨e1, e2⟩]
          have hol := others_le ka kb m
          have HM : Hid ((others ka kb m).length + 1 ≤ maxLen) := by show _ ≤ _; unfold maxLen; omega
          go_wp2_with (at_builtin; refine wpList_append_own _ rfl (.tmp 43) (.tmp 45) 115 rfl w.heap.size 68 i71 (.slice none 0 0) 1 24 Tryz.underlying115 q0 q1 q2 q3 rfl (by decide) _ _ _ rfl (hO.out.alloc _) ⟨wr.heap.size, 0, none⟩ 1 1 [.slice (some ⟨b, o, none⟩) ln cap] rfl rfl (fun j y hj => by match j, hj with | 0, hj => (simp at hj; subst hj; rw [addr_add]; exact new_cell wr _ _ 0)) (fun y hy => by simp at hy; subst hy; rfl) HM.out (by omega) (by simp; omega) ?_; intro v' w3 ho hg _)
          have R1 : Hid (w3.ownsRow w.heap.size 68 1 v' (others ka kb (m + 1)).length ((others ka kb (m + 1)).map f)) := by
            show w3.ownsRow _ _ _ _ _ _
            rw [HN.out, List.length_append, List.map_append]
            show w3.ownsRow w.heap.size _ 1 v' ((others ka kb m).length + 1) (List.map f (others ka kb m) ++ [f m])
            rw [HF.out]; exact ho
          have R2 : Hid (Below w.heap.size w w3) := (hL.out.alloc hB _).grown hg (by simp; omega) (fun k hk => (hO.out.lt k hk).1)
          have R3 : Hid (Below w.heap.size w2 w3) := (hL2.out.alloc hB _).grown hg (by simp; omega) (fun k hk => (hO.out.lt k hk).1)
          clear ho hg
          go_wp2
          exact ⟨⟨m + 1, by omega, by go_num, R1, R2, R3⟩, by simp [intOf]; omega⟩
    · have hml : m = ts.length := by omega
      go_wp2
      go_ret
      exact ⟨_, rfl, by rw [← hml]; exact hO.out, hL.out⟩

end Go.Proofs.YtckallochdegiaaGreat
