import Derived.Test.YtckallochdegiabKlQ
namespace Go.Proofs.Ytckallochdegiab
set_option linter.unusedVariables false
set_option linter.unusedSimpArgs false
open Go.RowKit

/-- What leveled keeps. -/
structure LvI (w wr : World) (g : Gh) (W B n : Nat) (E : Nat → Nat → Bool) (G : Gr) (pr : Int) (c : Nat) (v : Value) (l : List (Nat × Nat × Nat)) : Prop where
  inv : Inv wr g W n E G pr
  lm : ∃ T, LM wr g W n c T ∧ SeenL l T
  ln : LnAt wr w.heap.size v l
  bel : Below B w wr
  sz : w.heap.size ≤ wr.heap.size

theorem LvI.below {w wr w' : World} {g : Gh} {W B n c : Nat} {E : Nat → Nat → Bool} {G : Gr} {pr : Int} {v : Value} {l : List (Nat × Nat × Nat)} (h : LvI w wr g W B n E G pr c v l) (hB : B ≤ w.heap.size) (k : Below wr.heap.size wr w') : LvI w w' g W B n E G pr c v l := by
  obtain ⟨T, t1, t2⟩ := h.lm
  exact ⟨h.inv.below k, ⟨T, t1.below k, t2⟩, h.ln.below k (Nat.le_refl _), h.bel.trans (k.mono (Nat.le_trans hB h.sz)), Nat.le_trans h.sz k.size⟩

/-- A level is stored. -/
theorem LvI.store {w wr : World} {g : Gh} {W B n c : Nat} {E : Nat → Nat → Bool} {G : Gr} {pr : Int} {v : Value} {l : List (Nat × Nat × Nat)} (h : LvI w wr g W B n E G pr c v l) (ap : Apart g W B n) (p : LvP n E l) {m : Nat} (hm : m < l.length) :
    LvI w (wr.setCell ⟨g.lr (l[m]?.getD (0, 0, 0)).1, (l[m]?.getD (0, 0, 0)).2.1, none⟩ (.int .i64 (((l[m]?.getD (0, 0, 0)).2.2 / 2 : Nat) : Int))) g W B n E G pr c v l := by
  obtain ⟨T, t1, t2⟩ := h.lm
  have b := p.ab m hm
  have hu : (l[m]?.getD (0, 0, 0)).1 < n := by omega
  have ty := rowIs_ty (t1.rows _ hu)
  refine ⟨⟨h.inv.core.level ap hu _, idx_set h.inv.ia ty (by decide) (by decide) _, (by obtain ⟨qr, hb⟩ := h.inv.ib; exact ⟨qr, idx_set hb ty (by decide) (by decide) _⟩), h.inv.gn, h.inv.gi, h.inv.ns, h.inv.ad⟩, ⟨_, t1.level h.inv.core.tW ap hu _, t2.set p hm⟩, owns_one h.ln (But.setCell wr _ _) ty (by decide), h.bel.setCell (ap.blr _ hu) _, Nat.le_trans h.sz (But.setCell wr ⟨g.lr (l[m]?.getD (0, 0, 0)).1, (l[m]?.getD (0, 0, 0)).2.1, none⟩ (.int .i64 (((l[m]?.getD (0, 0, 0)).2.2 / 2 : Nat) : Int))).size⟩

theorem shl_two {t : Nat} (h : t ≤ 5) : wrap64 (2 * 2 ^ t) = ((2 ^ (t + 1) : Nat) : Int) := by
  have : t = 0 ∨ t = 1 ∨ t = 2 ∨ t = 3 ∨ t = 4 ∨ t = 5 := by omega
  rcases this with rfl | rfl | rfl | rfl | rfl | rfl <;> simp [wrap64]

theorem mul_wrap {c t : Nat} (hc : c ≤ 1073741824) (ht : t ≤ 5) : wrap64 ((c : Int) * (t : Int)) = (c : Int) * (t : Int) ∧ IntKind.i64.wrap ((c : Int) * (t : Int)) = (c : Int) * (t : Int) := by
  have h1 : (c : Int) * (t : Int) ≤ (c : Int) * 5 := Int.mul_le_mul_of_nonneg_left (by omega) (by omega)
  have h0 : 0 ≤ (c : Int) * (t : Int) := Int.mul_nonneg (by omega) (by omega)
  have hc' : (c : Int) ≤ 1073741824 := by omega
  generalize (c : Int) * (t : Int) = q at h0 h1
  refine ⟨by unfold wrap64; omega, by rw [IntKind.wrap_i64]; omega⟩

set_option maxRecDepth 100000 in
set_option maxHeartbeats 8000000 in
theorem leveled_any (w : World) (g : Gh) (W B n K : Nat) (E : Nat → Nat → Bool) (G : Gr) (pr : Int) (h : Inv w g W n E G pr) (hl : LX w g W n G pr K) (ap : Apart g W B n) (hK : K ≤ 1073741824) (hB : B ≤ w.heap.size) :
    Calls Try.prog 17 #[ptr W, .string (bytesB G)] w fun e w' => e = .returned (.bool true) ∧ (Inv w' g W n E G pr ∧ LX w' g W n G pr K) ∧ Below B w w' := by
  obtain ⟨c, T, hc, hlm, hpot, hseen⟩ := hl
  obtain ⟨k1, p1, p2, hln⟩ := lnS_bytes h.gi
  have gN := h.gn
  have n48 := ap.n48
  have n1 := ap.n1
  have HP : Hid (LvP n E (lnG G)) := by rw [← gN]; exact lvP_of h.gi h.ad
  have HSe := hid (seenL_of h.gi hseen)
  have HI := hid h
  have HLM := hid hlm
  have HPot := hid hpot
  have HLn := hid hln
  have hle := HP.out.le
  have l5 : Nat.log2 n ≤ 5 := log2_le5 n1 n48
  have HK2 := hid hc
  have HBB := hid hB
  have HHal := hid h.gi
  clear h hlm hpot hseen hln hc
  generalize hbs : bytesB G = bs at HLn ⊢
  clear hbs
  go_enter Try.func17, Try.ntmps17
  go_wp2_with fail
  refine (lines_any w bs (lnG G) k1 p1 p2 HLn.out).mono ?_
  rintro e z1 ⟨val, rfl, hL1, hb1⟩
  have HV : Hid (LvI w z1 g W B n E G pr c val (lnG G)) := ⟨HI.out.below hb1, ⟨T, HLM.out.below hb1, HSe.out⟩, hL1, hb1.mono hB, hb1.size⟩
  obtain ⟨lq, lc, hv, _⟩ := hL1.form
  subst hv
  clear hL1 hb1 HI HLM HSe HLn
  obtain ⟨l, hlG⟩ : ∃ l, lnG G = l := ⟨_, rfl⟩
  have HlG := hid hlG
  rw [hlG] at HP HV hle ⊢
  clear hlG
  have HNum : Hid (Calls Try.prog 32 #[ptr W] z1 fun e w' => e = .returned (.int .i64 l.length) ∧ w' = z1) := by
    have := number_any z1 g W B n E HV.out.inv.core ap
    rw [HP.out.len] at this
    exact this
  have hbq : ((l.length : Int) != (l.length : Int)) = false := by simp
  go_wp2_with fail
  refine HNum.out.mono ?_
  rintro e z2 ⟨rfl, hw⟩
  replace hw := hw.symm
  subst hw
  clear HNum
  go_wp2_with fail
  go_loopw [6] (fun a wr => ∃ t : Nat, t ≤ Nat.log2 n ∧ a = .int .i64 t ∧ Hid (LvI w wr g W B n E G pr c (.slice lq l.length lc) l)) (fun a _ => Nat.log2 n - (intOf a).toNat)
  case atStart => exact ⟨0, by omega, rfl, HV⟩
  case round =>
    obtain ⟨t, ht, rfl, HV⟩ := hrel
    have w0 := HV.out.inv.core.w0
    have hpw : 2 ^ (t + 1) ≤ n ↔ t + 1 ≤ Nat.log2 n := (Nat.le_log2 (by omega)).symm
    have hp2 : 2 ^ (t + 1) ≤ 64 := by
      have : 2 ^ (t + 1) ≤ 2 ^ 6 := Nat.pow_le_pow_right (by omega) (by omega)
      omega
    have hw2 := shl_two (t := t) (by omega)
    have HBd : Hid (∀ q, Below wr.heap.size wr (wr.drewN q)) := fun q => Below.drewN' q (Below.refl _ _)
    generalize 2 ^ (t + 1) = pw at hpw hp2 hw2
    by_cases ct : pw ≤ n
    · have ht1 := hpw.1 ct
      have ct' : wrap64 (2 * 2 ^ t) ≤ (n : Int) := by rw [hw2]; omega
      clear hpw hw2
      go_wp2_with fail
      go_quiet (fail)
      have HV1 := hid (HV.out.below HBB.out (HBd.out nq))
      clear w0
      generalize wr.drewN nq = w1 at HV1 ⊢
      go_wp2
      exact ⟨⟨t + 1, by omega, by go_num, HV1⟩, by simp [intOf]; omega⟩
    · have hte : t = Nat.log2 n := by omega
      have ct' : ¬ wrap64 (2 * 2 ^ t) ≤ (n : Int) := by rw [hw2]; omega
      have HTe := hid hte
      clear hpw hw2 hte
      go_wp2_with fail
      go_quiet (fail)
      have HV1 := hid (HV.out.below HBB.out (HBd.out nq))
      clear w0 HV HBd
      generalize wr.drewN nq = w1 at HV1 ⊢
      go_wp2_with fail
      clear ct'
      go_loopw [7, 38] (fun a b wr => ∃ m : Nat, m ≤ l.length ∧ a = .int .i64 (trs l m : Nat) ∧ b = .int .i64 m ∧ Hid (LvI w wr g W B n E G pr c (.slice lq l.length lc) l)) (fun _ b _ => l.length - (intOf b).toNat)
      case atStart => exact ⟨0, by omega, rfl, rfl, HV1⟩
      case round =>
        obtain ⟨m, hm, rfl, rfl, HV⟩ := hrel
        clear HV1
        by_cases cm : m < l.length
        · have cm' : (m : Int) < (l.length : Int) := by omega
          have htr := trs_le l m
          have HTr : Hid (trs l (m + 1) = trs l m + (l[m]?.getD (0, 0, 0)).2.2 % 2) := rfl
          generalize trs l m = tr at htr HTr
          obtain ⟨lq', lc', hlv, hlf⟩ := HV.out.ln.form
          simp only [Value.slice.injEq, true_and] at hlv
          obtain ⟨rfl, rfl⟩ := hlv
          obtain ⟨lg, hlq, hlg, _, hl1, hl2, hcell⟩ := hlf (by omega)
          subst hlq
          unfold maxLen at hl2
          obtain ⟨d0, d1, d2⟩ := hcell m cm
          obtain ⟨b1, b2, b3, b4, b5⟩ := HP.out.ab m cm
          obtain ⟨T1, t1, t2⟩ := HV.out.lm
          have b6 := t2 m cm
          have HSt := hid (fun wx (hx : LvI w wx g W B n E G pr c (.slice (some ⟨lg, 0, none⟩) l.length lc) l) => hx.store ap HP.out cm)
          clear hlf hcell t2
          generalize l[m]?.getD (0, 0, 0) = x at d0 d1 d2 b1 b2 b3 b4 b5 b6 HSt HTr
          obtain ⟨xa, xb, xc⟩ := x
          simp only at d0 d1 d2 b1 b2 b3 b4 b5 b6 HSt HTr
          have HNc : Hid (∀ j, (wr.alloc (.cells #[.int .i64 xa, .int .i64 xb, .int .i64 xc] 80)).cell? ⟨wr.heap.size, j, none⟩ = #[Value.int .i64 xa, .int .i64 xb, .int .i64 xc][j]?) := fun j => new_cell _ _ _ j
          have HBa : Hid (Below wr.heap.size wr (wr.alloc (.cells #[.int .i64 xa, .int .i64 xb, .int .i64 xc] 80))) := (Below.refl _ _).alloc (Nat.le_refl _) _
          have hsz : wr.heap.size < (wr.alloc (.cells #[.int .i64 xa, .int .i64 xb, .int .i64 xc] 80)).heap.size := by simp
          have HTx : Hid (∀ u, u < n → g.lr u ≠ wr.heap.size) := fun u hu => by have := (t1.rows u hu).lt; omega
          have HT1 := hid t1
          clear t1
          go_wp2_with fail
          clear d0 d1 d2
          generalize wr.alloc (.cells #[.int .i64 xa, .int .i64 xb, .int .i64 xc] 80) = w2 at HNc HBa hsz ⊢
          have HV2 := hid (HV.out.below HBB.out HBa.out)
          have HT2 := hid (HT1.out.below HBa.out)
          have z0 : w2.cell? ⟨wr.heap.size, 0, none⟩ = some (.int .i64 xa) := HNc.out 0
          have z1 : w2.cell? ⟨wr.heap.size, 1, none⟩ = some (.int .i64 xb) := HNc.out 1
          have z2 : w2.cell? ⟨wr.heap.size, 2, none⟩ = some (.int .i64 xc) := HNc.out 2
          have x0 := HV2.out.inv.core.w0
          have x3 := HV2.out.inv.core.w3
          have x4 := HV2.out.inv.core.w4
          have y1 := HV2.out.inv.core.re xa (by omega)
          have y2 := (HV2.out.inv.core.ce xa (by omega)).cell (i := xb) b2
          rw [b3] at y2
          have y3 := HV2.out.inv.core.rl xa (by omega)
          have y4 := (HT2.out.rows xa (by omega)).cell (i := xb) b2
          have e1 : ¬ (xb : Int) ≤ (xa : Int) := by omega
          have e2 : ¬ (n : Int) ≤ (xb : Int) := by omega
          have e3 : (xa : Int) < (n : Int) := by omega
          have e4 : (xb : Int) < (n : Int) := by omega
          have e5 : ¬ (t : Int) < (xc : Int) / 2 := by have := HTe.out; omega
          have e6 : ¬ (xc : Int) / 2 < T1 xa xb := by omega
          have hec := ap.ec
          have hlc := ap.lc
          unfold maxLen at hec hlc
          clear HV HT1 HBa HNc
          go_quiet (fail)
          have HB3 : Hid (Below w2.heap.size w2 (w2.drewN nq)) := Below.drewN' _ (Below.refl _ _)
          have HV3 := hid (HV2.out.below HBB.out HB3.out)
          have HT3 := hid (HT2.out.below HB3.out)
          have v0 := (HB3.out.cell (p := ⟨wr.heap.size, 0, none⟩) hsz).trans z0
          have v1 := (HB3.out.cell (p := ⟨wr.heap.size, 1, none⟩) hsz).trans z1
          have v2 := (HB3.out.cell (p := ⟨wr.heap.size, 2, none⟩) hsz).trans z2
          clear z0 z1 z2 x0 x3 x4 y1 y2 y3 y4 HV2 HT2
          generalize w2.drewN nq = w3 at HB3 HV3 HT3 v0 v1 v2 ⊢
          have x4 := HV3.out.inv.core.w4
          have y3 := HV3.out.inv.core.rl xa (by omega)
          have y4 := (HT3.out.rows xa (by omega)).cell (i := xb) b2
          have y5 := (HT3.out.rows xa (by omega)).frozen
          go_wp2_with fail
          go_region
          have e7 : ((xc / 2 : Nat) : Int) = (xc : Int) / 2 := by omega
          have hst := HSt.out w3 HV3.out
          rw [e7] at hst
          have HV4 : Hid (LvI w (w3.setCell ⟨g.lr xa, xb, none⟩ (.int .i64 ((xc : Int) / 2))).drew g W B n E G pr c (.slice (some ⟨lg, 0, none⟩) l.length lc) l) := hst.below HBB.out (Below.refl _ _).drew
          have v3 : (w3.setCell ⟨g.lr xa, xb, none⟩ (.int .i64 ((xc : Int) / 2))).drew.cell? ⟨wr.heap.size, 2, none⟩ = some (.int .i64 xc) := (far (HTx.out xa (by omega)) w3 xb _ 2).trans v2
          clear hst v0 v1 v2 x4 y3 y4 y5 HV3 HT3 HB3
          generalize (w3.setCell ⟨g.lr xa, xb, none⟩ (.int .i64 ((xc : Int) / 2))).drew = w4 at HV4 v3 ⊢
          go_wp2
          exact ⟨⟨m + 1, by omega, by rw [HTr.out]; congr 1, by go_num, HV4⟩, by simp [intOf]; omega⟩
        · have hme : m = l.length := by omega
          subst hme
          have HTr : Hid (∀ p : Nat, (∀ ld : Nat → Bool, (∀ v, v < n → (ld v = true ↔ ∀ u, u < v → ¬ RE n E u v)) → p = cnt ld n) → trs l l.length + p = n) := fun p hp => by
            have := comps_ok HHal.out HV.out.inv.ns HV.out.inv.ad (p := p) (by rw [gN]; exact hp)
            rw [HlG.out, gN] at this
            exact this
          generalize trs l l.length = tr at HTr
          have x0 := HV.out.inv.core.w0
          have HCo := hid (components_any wr.drew g W B n E (HV.out.inv.core.below (Below.refl _ _).drew) ap)
          go_wp2_with fail
          go_cut [124] (fun a wc => a = .bool false ∧ Hid (LvI w wc g W B n E G pr c (.slice lq l.length lc) l))
          case first =>
            go_region_with (go_at_call 31; refine HCo.out.mono ?_; rintro e w2 ⟨p, rfl, hp, hb2⟩; have HB2 : Hid (Below wr.heap.size wr w2) := below_drew hb2; have hp2 := HTr.out p hp; have hp3 : ((tr : Int) != (n : Int) - (p : Int)) = false := (by simp; omega); have x0' := (HB2.out.cell (p := ⟨W, 0, none⟩) (cell_lt x0)).trans x0; clear hp hb2)
            all_goals
              have HV2 := hid (HV.out.below HBB.out HB2.out)
              go_wp2
              go_meet
              case rel => exact ⟨by rw [show IntKind.i64.wrap ((n : Int) - (p : Int)) = (n : Int) - (p : Int) by rw [IntKind.wrap_i64]; omega, hp3], HV2⟩
          case rest =>
            obtain ⟨rfl, HV⟩ := hcut
            go_wp2_with fail
            go_loopw [10] (fun a wr => ∃ i : Nat, i ≤ t + 1 ∧ a = .int .i64 i ∧ Hid (LvI w wr g W B n E G pr c (.slice lq l.length lc) l)) (fun a _ => t + 1 - (intOf a).toNat)
            case atStart => exact ⟨0, by omega, rfl, HV⟩
            case round =>
              obtain ⟨i, hi, rfl, HV⟩ := hrel
              have x0 := HV.out.inv.core.w0
              by_cases ci : i ≤ t
              · have ci' : (i : Int) ≤ (t : Int) := by omega
                go_wp2_with fail
                refine (forest_any wr w.heap.size n i (.slice lq l.length lc) l HV.out.ln n1 n48 (by omega) hle (fun m hm => by have := HP.out.ab m hm; omega)).mono ?_
                rintro e w2 ⟨eb, ec, er, rfl, hec1, hec2, hmat, hb2⟩
                have HV2 := hid (HV.out.below HBB.out hb2)
                have HM2 := hid hmat
                clear hmat hb2 x0
                go_wp2_with fail
                go_loopw [12] (fun a wr => ∃ v : Nat, v ≤ n ∧ a = .int .i64 v ∧ Hid (LvI w wr g W B n E G pr c (.slice lq l.length lc) l) ∧ Hid (Mat wr eb er n (fE l i l.length))) (fun a _ => n - (intOf a).toNat)
                case atStart => exact ⟨0, by omega, rfl, HV2, HM2⟩
                case round =>
                  obtain ⟨v, hv, rfl, HV, HM⟩ := hrel
                  have x0 := HV.out.inv.core.w0
                  by_cases cv : v < n
                  · have cv' : (v : Int) < (n : Int) := by omega
                    go_wp2_with fail
                    refine (reach_any wr eb er n ec v _ HM.out n48 ⟨hec1, hec2⟩ cv).mono ?_
                    rintro e w3 ⟨r, rfl, hr1, hr2, hb3⟩
                    have HV3 := hid (HV.out.below HBB.out hb3)
                    have HM3 := hid (HM.out.below hb3)
                    have HR3 := hid hr1
                    have HOk : Hid (cnt r n ≤ n / 2 ^ i ∧ ∀ m, m < l.length → (l[m]?.getD (0, 0, 0)).2.2 = 2 * i → (l[m]?.getD (0, 0, 0)).1 = v → r (l[m]?.getD (0, 0, 0)).2.1 = true) := by
                      have hte := HTe.out
                      have := level_ok HHal.out HV.out.inv.ns (i := i) (v := v) (by rw [gN]; omega) (by rw [gN]; exact cv) (r := r) (by rw [gN, HlG.out]; exact hr2)
                      rw [gN, HlG.out] at this
                      exact this
                    clear hr1 hr2 hb3 x0
                    generalize wr.heap.size = rq at HR3 ⊢
                    have x0 := HV3.out.inv.core.w0
                    have hcl := cnt_le r n
                    have hcn : ¬ (n : Int) / 2 ^ i < ((cnt r n : Nat) : Int) := by
                      have e1 := HOk.out.1
                      have e2 : (n : Int) / 2 ^ i = ((n / 2 ^ i : Nat) : Int) := by simp
                      rw [e2]; omega
                    go_wp2_with fail
                    go_quiet (first | (go_at_call 28; exact Calls.quiet_of_same (count_any _ rq n r (row_but (S := fun _ => False) HR3.out (But.of (Below.drewN' _ (Below.refl _ _))) (fun q => q)) n48)))
                    have HB4 : Hid (Below w3.heap.size w3 (w3.drewN nq)) := Below.drewN' _ (Below.refl _ _)
                    have HV4 := hid (HV3.out.below HBB.out HB4.out)
                    have HM4 := hid (HM3.out.below HB4.out)
                    have HR4 : Hid ((w3.drewN nq).rowIs rq 4 n (fun y => .bool (r y))) := row_but (S := fun _ => False) HR3.out (But.of HB4.out) (fun q => q)
                    clear x0 HV3 HM3 HR3 HB4 HV HM
                    generalize w3.drewN nq = w4 at HV4 HM4 HR4 ⊢
                    go_wp2_with fail
                    clear hcn
                    go_loopw [159] (fun a wr => ∃ m : Nat, m ≤ l.length ∧ a = .int .i64 m ∧ Hid (LvI w wr g W B n E G pr c (.slice lq l.length lc) l) ∧ Hid (Mat wr eb er n (fE l i l.length)) ∧ Hid (wr.rowIs rq 4 n (fun y => .bool (r y)))) (fun a _ => l.length - (intOf a).toNat)
                    case atStart => exact ⟨0, by omega, rfl, HV4, HM4, HR4⟩
                    case round =>
                      obtain ⟨m, hm, rfl, HV, HM, HR⟩ := hrel
                      clear HV4 HM4 HR4
                      by_cases cm : m < l.length
                      · have cm' : (m : Int) < (l.length : Int) := by omega
                        obtain ⟨lq', lc', hlv, hlf⟩ := HV.out.ln.form
                        simp only [Value.slice.injEq, true_and] at hlv
                        obtain ⟨rfl, rfl⟩ := hlv
                        obtain ⟨lg, hlq, hlg, _, hl1, hl2, hcell⟩ := hlf (by omega)
                        subst hlq
                        unfold maxLen at hl2
                        obtain ⟨d0, d1, d2⟩ := hcell m cm
                        obtain ⟨b1, b2, _, _, b5⟩ := HP.out.ab m cm
                        have b6 := HOk.out.2 m cm
                        clear hlf hcell
                        generalize l[m]?.getD (0, 0, 0) = x at d0 d1 d2 b1 b2 b5 b6
                        obtain ⟨xa, xb, xc⟩ := x
                        simp only at d0 d1 d2 b1 b2 b5 b6
                        have HBa : Hid (∀ o, Below wr.heap.size wr (wr.alloc o)) := fun o => (Below.refl _ _).alloc (Nat.le_refl _) o
                        have HFn : Hid (∀ o, Hid (LvI w (wr.alloc o) g W B n E G pr c (.slice (some ⟨lg, 0, none⟩) l.length lc) l) ∧ Hid (Mat (wr.alloc o) eb er n (fE l i l.length)) ∧ Hid ((wr.alloc o).rowIs rq 4 n (fun y => .bool (r y)))) := fun o => ⟨HV.out.below HBB.out (HBa.out o), HM.out.below (HBa.out o), row_but (S := fun _ => False) HR.out (But.of (HBa.out o)) (fun q => q)⟩
                        by_cases e1 : xc = 2 * i
                        · by_cases e2 : xa = v
                          · have y1 := (HFn.out (.cells #[.int .i64 xa, .int .i64 xb, .int .i64 xc] 80)).2.2.out.cell (i := xb) b2
                            rw [b6 e1 e2] at y1
                            subst e2
                            have k1 : ((xc : Int) == 2 * (i : Int)) = true := by simp only [beq_iff_eq]; omega
                            have k3 : (xb : Int) < (n : Int) := by omega
                            clear b6 e1
                            go_wp2
                            exact ⟨⟨m + 1, by omega, by go_num, (HFn.out _).1, (HFn.out _).2.1, (HFn.out _).2.2⟩, by simp [intOf]; omega⟩
                          · have k1 : ((xc : Int) == 2 * (i : Int)) = true := by simp only [beq_iff_eq]; omega
                            have k2 : ((xa : Int) == (v : Int)) = false := by simp only [beq_eq_false_iff_ne, ne_eq]; omega
                            clear b6 e1 e2
                            go_wp2
                            exact ⟨⟨m + 1, by omega, by go_num, (HFn.out _).1, (HFn.out _).2.1, (HFn.out _).2.2⟩, by simp [intOf]; omega⟩
                        · have k1 : ((xc : Int) == 2 * (i : Int)) = false := by simp only [beq_eq_false_iff_ne, ne_eq]; omega
                          clear b6 e1
                          go_wp2
                          exact ⟨⟨m + 1, by omega, by go_num, (HFn.out _).1, (HFn.out _).2.1, (HFn.out _).2.2⟩, by simp [intOf]; omega⟩
                      · have cm' : ¬ (m : Int) < (l.length : Int) := by omega
                        go_wp2
                        exact ⟨⟨v + 1, by omega, by go_num, HV, HM⟩, by simp [intOf]; omega⟩
                  · have cv' : ¬ (v : Int) < (n : Int) := by omega
                    go_wp2
                    exact ⟨⟨i + 1, by omega, by go_num, HV⟩, by simp [intOf]; omega⟩
              · have ci' : ¬ (i : Int) ≤ (t : Int) := by omega
                have x1 := HV.out.inv.core.w1
                obtain ⟨T1, t1, t2⟩ := HV.out.lm
                have HT1 := hid t1
                have hSn : Seen G T1 := SeenL.back HHal.out (by rw [HlG.out]; exact t2)
                have HSn := hid hSn
                have hbd := HPot.out.bound HHal.out
                rw [gN, ← HTe.out] at hbd
                rw [Int.mul_comm] at hbd
                obtain ⟨hw1, hw2⟩ := mul_wrap (c := c) (t := t) (Nat.le_trans HK2.out hK) (by omega)
                have HFin : Hid (decide (pr ≤ wrap64 ((c : Int) * (t : Int))) = true) := by show _ = _; rw [hw1]; exact decide_eq_true hbd
                clear hbd hw1 hw2
                clear t1 t2 hSn x0
                go_wp2_with fail
                refine (Told_any wr g.a G pr HV.out.inv.ia HV.out.inv.gi HV.out.inv.ns).mono ?_
                rintro e w2 ⟨cc, rfl, _, hb2⟩
                have HV2 := hid (HV.out.below HBB.out hb2)
                have HT2 := hid (HT1.out.below hb2)
                have x5 := HT2.out.c5
                clear hb2 HV HT1 x1
                go_wp2
                go_ret
                refine ⟨?_, ⟨HV2.out.inv, ⟨c, T1, HK2.out, HT2.out, HPot.out, HSn.out⟩⟩, HV2.out.bel⟩
                exact congrArg (fun b => Ending.returned (Value.bool b)) HFin.out

end Go.Proofs.Ytckallochdegiab
