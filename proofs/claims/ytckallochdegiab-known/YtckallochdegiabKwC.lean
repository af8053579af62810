import Derived.Test.YtckallochdegiabKwB
import Derived.Deep.RegionHeld2
namespace Go.Proofs.Ytckallochdegiab
set_option linter.unusedVariables false
set_option linter.unusedSimpArgs false
open Go.RowKit

set_option maxRecDepth 100000 in
set_option maxHeartbeats 2000000 in
theorem known_any (hLd : LoadC) (w : World) (k : Int) (hk0 : -9223372036854775808 ≤ k) (hk1 : k ≤ 9223372036854775807) : Calls Try.prog 20 #[.int .i64 k] w fun e w' => e = .returned (.bool true) ∧ Below w.heap.size w w' := by
  have HLd := hid hLd
  clear hLd
  go_enter Try.func20, Try.ntmps20
  go_wp2_with fail
  refine (lots_any w).mono ?_
  rintro _ w1 ⟨lb, mv, rfl, hlb, hl, hb1⟩
  obtain ⟨a0, a1⟩ := pk_range k 3 (by omega)
  obtain ⟨i, hi⟩ := Int.eq_ofNat_of_zero_le a0
  have hi3 : i < 3 := by omega
  have hi3' : (i : Int) < 3 := by omega
  obtain ⟨⟨d0, d1, d2⟩, hmv⟩ := hl i hi3
  have HOk := hid (lotL_ok i hi3)
  have HMv := hid hmv
  have HB1 := hid hb1
  have HPk := hid hi
  clear hl hmv hb1 hi a0 a1
  generalize mv i = mvi at d1 HMv
  generalize lotL i = l at d0 d2 HMv HOk
  have hn1 := HOk.out.n1
  have hn48 := HOk.out.n48
  have hlen := HOk.out.len
  obtain ⟨mp, mcap, hmq, hm2, hm3⟩ : ∃ p cap, mvi = .slice p (2 * l.M.length) cap ∧ 2 * l.M.length ≤ cap ∧ cap ≤ maxLen := by
    obtain ⟨p, cap, h1, h2, h3, _⟩ := HMv.out
    exact ⟨p, cap, h1, h2, h3⟩
  subst hmq
  unfold maxLen at hm3
  obtain ⟨ml, hml⟩ : ∃ ml, ml = 2 * l.M.length := ⟨_, rfl⟩
  have HMl := hid hml
  rw [← hml] at d1 HMv hm2
  have hmlb : ml ≤ 200 := by omega
  clear hml
  go_wp2_with fail
  refine (pick_any k 3 _ (by omega) hk0 hk1).mono ?_
  rintro _ w' ⟨rfl, hw⟩
  replace hw := hw.symm
  subst hw
  rw [HPk.out]
  clear HPk
  obtain ⟨ln, hln⟩ : ∃ ln, ln = l.n := ⟨_, rfl⟩
  have HLn := hid hln
  rw [← hln] at d0 hn1 hn48
  obtain ⟨lf, hlf⟩ : ∃ lf, lf = l.file := ⟨_, rfl⟩
  have HLf := hid hlf
  rw [← hlf] at d2
  clear hln hlf
  go_wp2_with fail
  have HR0 := hid (World.rowIs_alloc w1 #[.int .i64 ln, .slice mp ml mcap, .string lf] 85 (fun i => if i = 0 then .int .i64 l.n else if i = 1 then .slice mp ml mcap else .string l.file) (by
    intro i hi
    match i, hi with
    | 0, _ => rw [HLn.out]; rfl
    | 1, _ => rfl
    | 2, _ => rw [HLf.out]; rfl))
  have HB2 : Hid (Below w1.heap.size w1 (w1.alloc (.cells #[.int .i64 ln, .slice mp ml mcap, .string lf] 85))) := (Below.refl _ _).alloc (Nat.le_refl _) _
  clear d0 d1 d2 hlb
  generalize w1.alloc (.cells #[.int .i64 ln, .slice mp ml mcap, .string lf] 85) = w2 at HR0 HB2 ⊢
  have HM2 := hid (HMv.out.below HB2.out)
  have HBw2 : Hid (Below w.heap.size w w2) := HB1.out.trans (HB2.out.mono HB1.out.size)
  clear HB1 HB2 HMv
  generalize w1.heap.size = lk at HR0 ⊢
  refine (New_ok ln k w2 hn1 hn48).mono ?_
  rintro _ w3 ⟨rfl, hix, _, hb3⟩
  have HI3 : Hid (KwI w w3 lk w2.heap.size (.slice mp ml mcap) l 0) := by
    have gx := new_idxG hix
    rw [HLn.out] at gx
    have ok := newG_ok HOk.out.n1 HOk.out.n48
    exact ⟨row_but (S := fun _ => False) HR0.out (But.of hb3) (fun q => q), HM2.out.below hb3, gx, ok.1, ok.2, rfl, HBw2.out.size, HBw2.out.trans (hb3.mono HBw2.out.size)⟩
  clear hix hb3 HR0 HM2 HBw2
  generalize w2.heap.size = a at HI3 ⊢
  obtain ⟨c1, c2, _⟩ := HI3.out.cells
  go_wp2_with fail
  clear c1 c2
  go_loopw [7] (fun x wr => ∃ j : Nat, j ≤ l.M.length ∧ x = .int .i64 ((2 * j : Nat) : Int) ∧ Hid (KwI w wr lk a (.slice mp ml mcap) l j)) (fun x _ => ml + 1 - (intOf x).toNat)
  case atStart => exact ⟨0, by omega, rfl, HI3⟩
  case round =>
    clear HI3
    obtain ⟨j, hj, rfl, hI⟩ := hrel
    have hml := HMl.out
    obtain ⟨e1, e2, e3⟩ := hI.out.cells
    by_cases cj : j < l.M.length
    · obtain ⟨mb, rfl⟩ : ∃ mb, mp = some ⟨mb, 0, none⟩ := by
        obtain ⟨q, cap, h1, _, _, h4⟩ := hI.out.mvl
        obtain ⟨b', hb, _, _⟩ := h4 (by omega)
        simp only [Value.slice.injEq] at h1
        exact ⟨b', h1.1.trans hb⟩
      obtain ⟨g0, g1⟩ := e3 j mb cj rfl
      have HIn : Hid (l.no j → ∀ wx, Below wr.heap.size wr wx → Calls Try.prog 45 #[ptr a, .int .i64 ((l.M[j]?.getD (0, 0)).1 : Nat), .int .i64 ((l.M[j]?.getD (0, 0)).2 : Nat)] wx fun e w' => e = .returned (.int .i64 0) ∧ KwI w w' lk a (.slice (some ⟨mb, 0, none⟩) ml mcap) l (j + 1) ∧ w'.cell? ⟨lk, 1, none⟩ = some (.slice (some ⟨mb, 0, none⟩) ml mcap) ∧ w'.cell? ⟨mb, 2 * j, none⟩ = some (.int .i64 ((l.M[j]?.getD (0, 0)).1 : Nat)) ∧ w'.cell? ⟨mb, 2 * j + 1, none⟩ = some (.int .i64 ((l.M[j]?.getD (0, 0)).2 : Nat))) := fun c wx hb => by
        refine (Ins_next (hI.out.below hb) HOk.out cj c).mono ?_
        rintro _ w' ⟨rfl, h'⟩
        obtain ⟨q1, _, q3⟩ := h'.cells
        exact ⟨rfl, h', q1, q3 j mb cj rfl⟩
      have HIt : Hid (¬ l.no j → ∀ wx, Below wr.heap.size wr wx → Calls Try.prog 45 #[ptr a, .int .i64 ((l.M[j]?.getD (0, 0)).1 : Nat), .int .i64 ((l.M[j]?.getD (0, 0)).2 : Nat)] wx fun e w' => e = .returned (.int .i64 3) ∧ w' = wx) := fun c wx hb => Ins_there (hI.out.below hb) HOk.out cj c
      have HDl : Hid (¬ l.no j → ∀ wx, Below wr.heap.size wr wx → Calls Try.prog 46 #[ptr a, .int .i64 ((l.M[j]?.getD (0, 0)).1 : Nat), .int .i64 ((l.M[j]?.getD (0, 0)).2 : Nat)] wx fun e w' => e = .returned (.int .i64 0) ∧ KwI w w' lk a (.slice (some ⟨mb, 0, none⟩) ml mcap) l (j + 1) ∧ w'.cell? ⟨lk, 1, none⟩ = some (.slice (some ⟨mb, 0, none⟩) ml mcap) ∧ w'.cell? ⟨mb, 2 * j, none⟩ = some (.int .i64 ((l.M[j]?.getD (0, 0)).1 : Nat)) ∧ w'.cell? ⟨mb, 2 * j + 1, none⟩ = some (.int .i64 ((l.M[j]?.getD (0, 0)).2 : Nat))) := fun c wx hb => by
        refine (Del_next (hI.out.below hb) HOk.out cj c).mono ?_
        rintro _ w' ⟨rfl, h'⟩
        obtain ⟨q1, _, q3⟩ := h'.cells
        exact ⟨rfl, h', q1, q3 j mb cj rfl⟩
      generalize (l.M[j]?.getD (0, 0)).1 = mu at g0 HIn HIt HDl
      generalize (l.M[j]?.getD (0, 0)).2 = mw at g1 HIn HIt HDl
      have i1 : ((2 * j : Nat) : Int) < (ml : Int) := by omega
      have i2 : ((2 * j : Nat) : Int) + 1 < (ml : Int) := by omega
      have i3 : (((2 * j : Nat) : Int) + 1).toNat = 2 * j + 1 := by omega
      have i4 : (0 : Int) ≤ ((2 * j : Nat) : Int) + 1 := by omega
      have i5 : IntKind.i64.wrap (((2 * j : Nat) : Int) + 1) = ((2 * j : Nat) : Int) + 1 := by rw [IntKind.wrap_i64]; omega
      have HJ : Hid (((2 * j : Nat) : Int) + 2 = ((2 * (j + 1) : Nat) : Int) ∧ 2 * j + 1 < ml) := by constructor <;> omega
      clear hml e2 e3
      generalize 2 * j = jj at g0 g1 i1 i2 i3 i4 i5 HIn HIt HDl HJ ⊢
      by_cases cn : l.no j
      · have HIc := hid (HIn.out cn)
        clear HIn HIt HDl cn
        go_wp2_with fail
        refine wp_region_held_drew (S := (fun w' => w'.cell? ⟨lk, 1, none⟩ = some (.slice (some ⟨mb, 0, none⟩) ml mcap) ∧ w'.cell? ⟨mb, jj, none⟩ = some (.int .i64 mu) ∧ w'.cell? ⟨mb, jj + 1, none⟩ = some (.int .i64 mw))) (by kernel_rfl) ⟨by assumption, by assumption, by assumption⟩ (fun hHeld => ?_)
        refine wpAnyH_take (i := 0) (v := ?_) rfl (by kernel_rfl) (by kernel_rfl) (by kernel_rfl) (fun _ _ _ h => h) (Or.inl ⟨by rfl, ?_⟩) (by assumption) ?_
        rotate_left
        focus (intro wz hSw; (try dsimp only at hSw); go_simp; try with_reducible rfl)
        try simp only [Act.put, List.getElem_toArray, List.getElem_cons_zero, List.getElem_cons_succ, List.setIfInBounds_toArray, List.set_cons_zero, List.set_cons_succ]
        refine wpAnyH_take (i := 1) (v := ?_) rfl (by kernel_rfl) (by kernel_rfl) (by kernel_rfl) (fun _ _ _ h => h) (Or.inl ⟨by rfl, ?_⟩) (by assumption) ?_
        rotate_left
        focus (intro wz hSw; (try dsimp only at hSw); go_simp; try with_reducible rfl)
        try simp only [Act.put, List.getElem_toArray, List.getElem_cons_zero, List.getElem_cons_succ, List.setIfInBounds_toArray, List.set_cons_zero, List.set_cons_succ]
        refine wpAnyH_take (i := 2) (v := ?_) rfl (by kernel_rfl) (by kernel_rfl) (by kernel_rfl) (fun _ _ _ h => h) (Or.inl ⟨by rfl, ?_⟩) (by assumption) ?_
        rotate_left
        focus (intro wz hSw; (try dsimp only at hSw); go_simp; try with_reducible rfl)
        try simp only [Act.put, List.getElem_toArray, List.getElem_cons_zero, List.getElem_cons_succ, List.setIfInBounds_toArray, List.set_cons_zero, List.set_cons_succ]
        refine wpAnyH_take (i := 3) (v := ?_) rfl (by kernel_rfl) (by kernel_rfl) (by kernel_rfl) (fun _ _ _ h => h) (Or.inl ⟨by rfl, ?_⟩) (by assumption) ?_
        rotate_left
        focus (intro wz hSw; (try dsimp only at hSw); go_simp; try with_reducible rfl)
        try simp only [Act.put, List.getElem_toArray, List.getElem_cons_zero, List.getElem_cons_succ, List.setIfInBounds_toArray, List.set_cons_zero, List.set_cons_succ]
        refine wpAnyH_take (i := 4) (v := ?_) rfl (by kernel_rfl) (by kernel_rfl) (by kernel_rfl) (fun _ _ _ h => h) (Or.inl ⟨by rfl, ?_⟩) (by assumption) ?_
        rotate_left
        focus (intro wz hSw; (try dsimp only at hSw); go_simp; try with_reducible rfl)
        try simp only [Act.put, List.getElem_toArray, List.getElem_cons_zero, List.getElem_cons_succ, List.setIfInBounds_toArray, List.set_cons_zero, List.set_cons_succ]
        refine wpAnyH_take (i := 5) (v := ?_) rfl (by kernel_rfl) (by kernel_rfl) (by kernel_rfl) (fun _ _ _ h => h) (Or.inl ⟨by rfl, ?_⟩) (by assumption) ?_
        rotate_left
        focus (intro wz hSw; (try dsimp only at hSw); go_simp; try with_reducible rfl)
        try simp only [Act.put, List.getElem_toArray, List.getElem_cons_zero, List.getElem_cons_succ, List.setIfInBounds_toArray, List.set_cons_zero, List.set_cons_succ]
        refine wpAnyH_take (i := 6) (v := ?_) rfl (by kernel_rfl) (by kernel_rfl) (by kernel_rfl) (fun _ _ _ h => h) (Or.inl ⟨by rfl, ?_⟩) (by assumption) ?_
        rotate_left
        focus (intro wz hSw; (try dsimp only at hSw); go_simp; try with_reducible rfl)
        try simp only [Act.put, List.getElem_toArray, List.getElem_cons_zero, List.getElem_cons_succ, List.setIfInBounds_toArray, List.set_cons_zero, List.set_cons_succ]
        refine wpAnyH_take (i := 7) (v := ?_) rfl (by kernel_rfl) (by kernel_rfl) (by kernel_rfl) (fun _ _ _ h => h) (Or.inl ⟨by rfl, ?_⟩) (by assumption) ?_
        rotate_left
        focus (intro wz hSw; (try dsimp only at hSw); go_simp; try with_reducible rfl)
        try simp only [Act.put, List.getElem_toArray, List.getElem_cons_zero, List.getElem_cons_succ, List.setIfInBounds_toArray, List.set_cons_zero, List.set_cons_succ]
        refine wpAnyH_take (i := 8) (v := ?_) rfl (by kernel_rfl) (by kernel_rfl) (by kernel_rfl) (fun _ _ _ h => h) (Or.inl ⟨by rfl, ?_⟩) (by assumption) ?_
        rotate_left
        focus (intro wz hSw; (try dsimp only at hSw); go_simp; try with_reducible rfl)
        try simp only [Act.put, List.getElem_toArray, List.getElem_cons_zero, List.getElem_cons_succ, List.setIfInBounds_toArray, List.set_cons_zero, List.set_cons_succ]
        refine wpAnyH_take (i := 9) (v := ?_) rfl (by kernel_rfl) (by kernel_rfl) (by kernel_rfl) (fun _ _ _ h => h) (Or.inl ⟨by rfl, ?_⟩) (by assumption) ?_
        rotate_left
        focus (intro wz hSw; (try dsimp only at hSw); go_simp; try with_reducible rfl)
        try simp only [Act.put, List.getElem_toArray, List.getElem_cons_zero, List.getElem_cons_succ, List.setIfInBounds_toArray, List.set_cons_zero, List.set_cons_succ]
        refine wpAnyH_take (i := 10) (v := ?_) rfl (by kernel_rfl) (by kernel_rfl) (by kernel_rfl) (fun _ _ _ h => h) (Or.inl ⟨by rfl, ?_⟩) (by assumption) ?_
        rotate_left
        focus (intro wz hSw; (try dsimp only at hSw); go_simp; try with_reducible rfl)
        try simp only [Act.put, List.getElem_toArray, List.getElem_cons_zero, List.getElem_cons_succ, List.setIfInBounds_toArray, List.set_cons_zero, List.set_cons_succ]
        refine wpAnyH_take (i := 11) (v := ?_) rfl (by kernel_rfl) (by kernel_rfl) (by kernel_rfl) (fun _ _ _ h => h) (Or.inl ⟨by rfl, ?_⟩) (by assumption) ?_
        rotate_left
        focus (intro wz hSw; (try dsimp only at hSw); go_simp; try with_reducible rfl)
        try simp only [Act.put, List.getElem_toArray, List.getElem_cons_zero, List.getElem_cons_succ, List.setIfInBounds_toArray, List.set_cons_zero, List.set_cons_succ]
        refine wpAnyH_ready (rs := [12]) (by kernel_rfl) (by simp) ?_
        refine AllReadyH.cons rfl (fun K hK => ?_) AllReadyH.nil
        go_simp
        go_wp2_with (first | (go_at_call 45; refine (HIc.out _ (by first | exact Below.refl _ _ | exact (Below.refl _ _).drew)).mono ?_; rintro _ w7 ⟨rfl, h7, f1, f2, f3⟩; have HI7 := hid h7; clear h7))
        refine hK.out _ _ ⟨f1, f2, f3⟩ (fun hHeld => ?_)
        clear hK K
        refine wpAnyH_take (i := 13) (v := ?_) rfl (by kernel_rfl) (by kernel_rfl) (by kernel_rfl) (fun _ _ _ h => h) (Or.inl ⟨by rfl, ?_⟩) (by assumption) ?_
        rotate_left
        focus (intro wz hSw; (try dsimp only at hSw); go_simp; try with_reducible rfl)
        try simp only [Act.put, List.getElem_toArray, List.getElem_cons_zero, List.getElem_cons_succ, List.setIfInBounds_toArray, List.set_cons_zero, List.set_cons_succ]
        refine wpAnyH_take (i := 14) (v := ?_) rfl (by kernel_rfl) (by kernel_rfl) (by kernel_rfl) (fun _ _ _ h => h) (Or.inl ⟨by rfl, ?_⟩) (by assumption) ?_
        rotate_left
        focus (intro wz hSw; (try dsimp only at hSw); go_simp; try with_reducible rfl)
        try simp only [Act.put, List.getElem_toArray, List.getElem_cons_zero, List.getElem_cons_succ, List.setIfInBounds_toArray, List.set_cons_zero, List.set_cons_succ]
        refine wpAnyH_take (i := 15) rfl (by kernel_rfl) (by kernel_rfl) (by kernel_rfl) (fun _ _ _ h => h) (Or.inr ⟨by rfl, rfl⟩) (by assumption) ?_
        try simp only [Act.put, List.getElem_toArray, List.getElem_cons_zero, List.getElem_cons_succ, List.setIfInBounds_toArray, List.set_cons_zero, List.set_cons_succ]
        refine wpAnyH_take (i := 16) rfl (by kernel_rfl) (by kernel_rfl) (by kernel_rfl) (fun _ _ _ h => h) (Or.inr ⟨by rfl, rfl⟩) (by assumption) ?_
        try simp only [Act.put, List.getElem_toArray, List.getElem_cons_zero, List.getElem_cons_succ, List.setIfInBounds_toArray, List.set_cons_zero, List.set_cons_succ]
        refine wpAnyH_take (i := 17) rfl (by kernel_rfl) (by kernel_rfl) (by kernel_rfl) (fun _ _ _ h => h) (Or.inr ⟨by rfl, rfl⟩) (by assumption) ?_
        try simp only [Act.put, List.getElem_toArray, List.getElem_cons_zero, List.getElem_cons_succ, List.setIfInBounds_toArray, List.set_cons_zero, List.set_cons_succ]
        refine wpAnyH_take (i := 18) rfl (by kernel_rfl) (by kernel_rfl) (by kernel_rfl) (fun _ _ _ h => h) (Or.inr ⟨by rfl, rfl⟩) (by assumption) ?_
        try simp only [Act.put, List.getElem_toArray, List.getElem_cons_zero, List.getElem_cons_succ, List.setIfInBounds_toArray, List.set_cons_zero, List.set_cons_succ]
        refine wpAnyH_take (i := 19) rfl (by kernel_rfl) (by kernel_rfl) (by kernel_rfl) (fun _ _ _ h => h) (Or.inr ⟨by rfl, rfl⟩) (by assumption) ?_
        try simp only [Act.put, List.getElem_toArray, List.getElem_cons_zero, List.getElem_cons_succ, List.setIfInBounds_toArray, List.set_cons_zero, List.set_cons_succ]
        refine wpAnyH_take (i := 20) rfl (by kernel_rfl) (by kernel_rfl) (by kernel_rfl) (fun _ _ _ h => h) (Or.inr ⟨by rfl, rfl⟩) (by assumption) ?_
        try simp only [Act.put, List.getElem_toArray, List.getElem_cons_zero, List.getElem_cons_succ, List.setIfInBounds_toArray, List.set_cons_zero, List.set_cons_succ]
        refine wpAnyH_take (i := 21) rfl (by kernel_rfl) (by kernel_rfl) (by kernel_rfl) (fun _ _ _ h => h) (Or.inr ⟨by rfl, rfl⟩) (by assumption) ?_
        try simp only [Act.put, List.getElem_toArray, List.getElem_cons_zero, List.getElem_cons_succ, List.setIfInBounds_toArray, List.set_cons_zero, List.set_cons_succ]
        refine wpAnyH_take (i := 22) rfl (by kernel_rfl) (by kernel_rfl) (by kernel_rfl) (fun _ _ _ h => h) (Or.inr ⟨by rfl, rfl⟩) (by assumption) ?_
        try simp only [Act.put, List.getElem_toArray, List.getElem_cons_zero, List.getElem_cons_succ, List.setIfInBounds_toArray, List.set_cons_zero, List.set_cons_succ]
        refine wpAnyH_take (i := 23) rfl (by kernel_rfl) (by kernel_rfl) (by kernel_rfl) (fun _ _ _ h => h) (Or.inr ⟨by rfl, rfl⟩) (by assumption) ?_
        try simp only [Act.put, List.getElem_toArray, List.getElem_cons_zero, List.getElem_cons_succ, List.setIfInBounds_toArray, List.set_cons_zero, List.set_cons_succ]
        refine wpAnyH_take (i := 24) rfl (by kernel_rfl) (by kernel_rfl) (by kernel_rfl) (fun _ _ _ h => h) (Or.inr ⟨by rfl, rfl⟩) (by assumption) ?_
        try simp only [Act.put, List.getElem_toArray, List.getElem_cons_zero, List.getElem_cons_succ, List.setIfInBounds_toArray, List.set_cons_zero, List.set_cons_succ]
        refine wpAnyH_take (i := 25) rfl (by kernel_rfl) (by kernel_rfl) (by kernel_rfl) (fun _ _ _ h => h) (Or.inr ⟨by rfl, rfl⟩) (by assumption) ?_
        try simp only [Act.put, List.getElem_toArray, List.getElem_cons_zero, List.getElem_cons_succ, List.setIfInBounds_toArray, List.set_cons_zero, List.set_cons_succ]
        refine wpAnyH_take (i := 26) rfl (by kernel_rfl) (by kernel_rfl) (by kernel_rfl) (fun _ _ _ h => h) (Or.inr ⟨by rfl, rfl⟩) (by assumption) ?_
        try simp only [Act.put, List.getElem_toArray, List.getElem_cons_zero, List.getElem_cons_succ, List.setIfInBounds_toArray, List.set_cons_zero, List.set_cons_succ]
        refine wpAnyH_take (i := 27) rfl (by kernel_rfl) (by kernel_rfl) (by kernel_rfl) (fun _ _ _ h => h) (Or.inr ⟨by rfl, rfl⟩) (by assumption) ?_
        try simp only [Act.put, List.getElem_toArray, List.getElem_cons_zero, List.getElem_cons_succ, List.setIfInBounds_toArray, List.set_cons_zero, List.set_cons_succ]
        refine wpAnyH_take (i := 28) rfl (by kernel_rfl) (by kernel_rfl) (by kernel_rfl) (fun _ _ _ h => h) (Or.inr ⟨by rfl, rfl⟩) (by assumption) ?_
        try simp only [Act.put, List.getElem_toArray, List.getElem_cons_zero, List.getElem_cons_succ, List.setIfInBounds_toArray, List.set_cons_zero, List.set_cons_succ]
        refine wpAnyH_take (i := 29) (v := ?_) rfl (by kernel_rfl) (by kernel_rfl) (by kernel_rfl) (fun _ _ _ h => h) (Or.inl ⟨by rfl, ?_⟩) (by assumption) ?_
        rotate_left
        focus (intro wz hSw; (try dsimp only at hSw); go_simp; try with_reducible rfl)
        try simp only [Act.put, List.getElem_toArray, List.getElem_cons_zero, List.getElem_cons_succ, List.setIfInBounds_toArray, List.set_cons_zero, List.set_cons_succ]
        refine wpAnyH_done (by kernel_rfl) ?_ _
        clear hHeld
        all_goals
          go_wp2
          exact ⟨⟨j + 1, by omega, by rw [← HJ.out.1]; first | done | go_num, HI7⟩, by have := HJ.out; simp [intOf]; omega⟩
      · have HIc := hid (HIt.out cn)
        have HDc := hid (HDl.out cn)
        clear HIn HIt HDl cn
        go_wp2_with fail
        go_region_held2 (fun w' => w'.cell? ⟨lk, 1, none⟩ = some (.slice (some ⟨mb, 0, none⟩) ml mcap) ∧ w'.cell? ⟨mb, jj, none⟩ = some (.int .i64 mu) ∧ w'.cell? ⟨mb, jj + 1, none⟩ = some (.int .i64 mw)) (first | exact ⟨by assumption, by assumption, by assumption⟩ | trivial)
          (first
            | (go_at_call 45; refine (HIc.out _ (by first | exact Below.refl _ _ | exact (Below.refl _ _).drew)).mono ?_; rintro _ w7 ⟨rfl, rfl⟩)
            | (go_at_call 46; refine (HDc.out _ (by first | exact Below.refl _ _ | exact (Below.refl _ _).drew)).mono ?_; rintro _ w7 ⟨rfl, h7, f1, f2, f3⟩; have HI7 := hid h7; clear h7))
        all_goals
          go_wp2
          exact ⟨⟨j + 1, by omega, by rw [← HJ.out.1]; first | done | go_num, HI7⟩, by have := HJ.out; simp [intOf]; omega⟩
    · have ci : ¬ ((2 * j : Nat) : Int) < (ml : Int) := by omega
      have hjM : j = l.M.length := by omega
      have hGe : (mvs l.n (l.M.take j)).1 = (mvs l.n l.M).1 := by rw [hjM, List.take_length]
      have hix := hI.out.ix
      have hgi := hI.out.gi
      have hns := hI.out.ns
      have hfile := HOk.out.by_
      rw [hGe] at hix hgi hns
      generalize (mvs l.n (l.M.take j)).2 = pr at hix
      generalize (mvs l.n l.M).1 = G at hix hgi hns hfile
      have hsz := bytesB_size hgi
      rw [hfile] at hsz
      have HSz := hid hsz
      have HBk : Hid (∀ wx e w', LoadR l.file wx e w' → ∃ b, e = .returned (.tuple #[ptr b, .int .i64 0]) ∧ wx.heap.size ≤ b ∧ IdxG w' b G 0 ∧ Below wx.heap.size wx w') := fun wx e w' q => load_same hgi hns (by rw [hfile]; exact q)
      have HSv : Hid (∀ wx x qr, IdxG wx x G qr → Calls Try.prog 15 #[ptr x] wx fun e w' => e = .returned (.string l.file) ∧ Below wx.heap.size wx w') := fun wx x qr h => by
        refine (Save_any wx x G qr h hgi).mono ?_
        rintro _ w' ⟨rfl, hb⟩
        exact ⟨by rw [hfile], hb⟩
      have HIx := hid hix
      have HBl := hid hI.out.bel
      clear hml e3 hI hix hgi hns hfile hsz hGe HOk HMl hjM
      generalize l.file = s at e2 HSz HBk HSv
      go_wp2_with fail
      refine (HLd.out _ s _ (by have := HSz.out; omega)).mono ?_
      intro e w7 hl
      obtain ⟨b, rfl, hgb, hib, hb7⟩ := HBk.out _ e w7 hl
      have HI7 := hid (HIx.out.below hb7)
      have HB7 : Hid (Below w.heap.size w w7) := HBl.out.trans (hb7.mono HBl.out.size)
      have HIb := hid hib
      have e7 := cell_but (S := fun _ => False) e2 (But.of hb7) (fun q => q)
      clear hl hib hb7 HBl HIx e1 e2 HLd HBk HSz ci
      have HSa : Hid (∀ wx, Below w7.heap.size w7 wx → Calls Try.prog 15 #[ptr a] wx fun e w' => e = .returned (.string s) ∧ Below w7.heap.size w7 w' ∧ w'.cell? ⟨lk, 1 + 1, none⟩ = some (.string s)) := fun wx hb => by
        refine (HSv.out wx a pr (HI7.out.below hb)).mono ?_
        rintro _ w' ⟨rfl, hb'⟩
        have hbb : Below w7.heap.size w7 w' := hb.trans (hb'.mono hb.size)
        exact ⟨rfl, hbb, cell_but (S := fun _ => False) e7 (But.of hbb) (fun q => q)⟩
      have HSb : Hid (∀ wx, Below w7.heap.size w7 wx → Calls Try.prog 15 #[ptr b] wx fun e w' => e = .returned (.string s) ∧ Below w7.heap.size w7 w' ∧ w'.cell? ⟨lk, 1 + 1, none⟩ = some (.string s)) := fun wx hb => by
        refine (HSv.out wx b 0 (HIb.out.below hb)).mono ?_
        rintro _ w' ⟨rfl, hb'⟩
        have hbb : Below w7.heap.size w7 w' := hb.trans (hb'.mono hb.size)
        exact ⟨rfl, hbb, cell_but (S := fun _ => False) e7 (But.of hbb) (fun q => q)⟩
      clear HSv HI7 HIb
      go_wp2_with fail
      go_region_held2 (fun w' => w'.cell? ⟨lk, 1 + 1, none⟩ = some (.string s)) (first | assumption | trivial)
        (first
          | (go_at_call_of 15 (ptr a); refine (HSa.out _ (by first | exact Below.refl _ _ | exact (Below.refl _ _).drew | assumption | exact Below.drew (by assumption))).mono ?_; rintro _ z8 ⟨rfl, hb8, f1⟩)
          | (go_at_call_of 15 (ptr b); refine (HSb.out _ (by first | exact Below.refl _ _ | exact (Below.refl _ _).drew | assumption | exact Below.drew (by assumption))).mono ?_; rintro _ z9 ⟨rfl, hb9, f2⟩))
      all_goals
        go_wp2
        go_ret
        exact ⟨rfl, HB7.out.trans (Below.mono (by first | exact hb9 | exact hb8) HB7.out.size)⟩

end Go.Proofs.Ytckallochdegiab
