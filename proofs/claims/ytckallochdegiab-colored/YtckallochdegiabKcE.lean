import Derived.Test.YtckallochdegiabKcD
namespace Go.Proofs.Ytckallochdegiab
set_option linter.unusedVariables false
set_option linter.unusedSimpArgs false
open Go.RowKit

/-- A list of members is as it is asked. -/
theorem mem_ok {G : Gr} (hI : GI G) (hns : NS G) {t : List Itm} (ht : t ∈ lv G 0) {v : Nat} (hv : v < G.N) (hvt : ((v : Int), (-1 : Int)) ∈ t) {r : Nat → Bool} (hr : ∀ y, y < G.N → (r y = true ↔ Rch G.edges false 0 v y))
    (h0 : 0 < (verts (fromX t (leastV t v, -1))).length) : MemL G.N r (verts (fromX t (leastV t v, -1))) := by
  have L := hI.li 0 (by omega)
  have ok := hI.okI (i := 0) (by omega) ht
  have okf : ∀ y, y ∈ fromX t (leastV t v, -1) → OkI y := fun y hy => ok y ((fromX_mem _ _ _).1 hy)
  have la := leastV_at (L.tr t ht) ok hvt
  have inT : ∀ x, x ∈ verts (fromX t (leastV t v, -1)) → ((x : Int), (-1 : Int)) ∈ t := fun x hx => (fromX_mem _ _ _).1 ((verts_mem okf).1 hx)
  have lt : ∀ x, x ∈ verts (fromX t (leastV t v, -1)) → x < G.N := fun x hx => by
    have := (L.rng t ht _ (inT x hx)).1
    simp only at this; omega
  refine ⟨h0, fun x hx => ⟨lt x hx, (hr x (lt x hx)).2 ((tree_rch hI hns ht hv hvt (lt x hx)).1 (inT x hx))⟩, verts_nodup ((fromX_rot' t _).nodup (L.tr t ht).nd) okf, fun x hx => ?_, tree_size hI hns ht hv hvt hr⟩
  obtain ⟨s, hs, _⟩ := fromX_head la.1
  have e : (verts (fromX t (leastV t v, -1)))[0]?.getD 0 = (leastV t v).toNat := by rw [hs]; simp [verts]
  rw [e]
  have := la.2 _ (inT x hx)
  simp only at this; omega

section
variable {w : World} {b n : Nat} {G : Gr} {pr : Int}
theorem Conn_far (h : IdxG w b G pr) (hI : GI G) (hns : NS G) (hN : G.N = n) (u : Int) : Calls Try.prog 25 #[ptr b, .int .i64 u, .int .i64 n] w fun e w' => e = .returned (.tuple #[.bool false, .int .i64 1]) ∧ w' = w := by
  refine (iConn_any w b G pr u n h hI hns).mono ?_
  rintro e w' (⟨_, h1, h2⟩ | ⟨_, h1, _⟩)
  · exact ⟨h1, h2⟩
  · rw [hN] at h1; simp [vtx] at h1
theorem Size_less (h : IdxG w b G pr) (hI : GI G) (hns : NS G) : Calls Try.prog 26 #[ptr b, .int .i64 (-1)] w fun e w' => e = .returned (.tuple #[.int .i64 0, .int .i64 1]) ∧ w' = w := by
  refine (iSize_any w b G pr (-1) h hI hns).mono ?_
  rintro e w' (⟨_, h1, h2⟩ | ⟨h1, _⟩)
  · exact ⟨h1, h2⟩
  · simp [vtx] at h1
theorem Mem_far (h : IdxG w b G pr) (hI : GI G) (hN : G.N = n) : Calls Try.prog 27 #[ptr b, .int .i64 n] w fun e w' => e = .returned (.tuple #[.slice none 0 0, .int .i64 1]) ∧ w' = w := by
  refine (Members_any w b G pr n h hI).mono ?_
  rintro e w' (⟨_, h1, h2⟩ | ⟨h1, _⟩)
  · exact ⟨h1, h2⟩
  · rw [hN] at h1; simp [vtx] at h1
end

/-- The answers, of a graph whose edges E are and where r is who is reached from u. -/
structure Asks (n : Nat) (E : Nat → Nat → Bool) (G : Gr) (u : Nat) (r ld : Nat → Bool) : Prop where
  gn : G.N = n
  gi : GI G
  ns : NS G
  ad : Adj G E
  un : u < n
  rr : ∀ y, y < n → (r y = true ↔ Rch G.edges false 0 u y)
  le : ∀ v, v < n → (ld v = true ↔ ∀ u, u < v → ¬ RE n E u v)

section
variable {w : World} {b n u : Nat} {E : Nat → Nat → Bool} {G : Gr} {pr : Int} {r ld : Nat → Bool}
theorem Conn_ok (h : IdxG w b G pr) (a : Asks n E G u r ld) {v : Nat} (hv : v < n) : Calls Try.prog 25 #[ptr b, .int .i64 u, .int .i64 v] w fun e w' => e = .returned (.tuple #[.bool (r v), .int .i64 0]) ∧ Below w.heap.size w w' := by
  have hu := a.un
  have gN := a.gn
  have vu : vtx G.N u = true := vtx_yes (by omega) (by omega)
  have vv : vtx G.N v = true := vtx_yes (by omega) (by omega)
  refine (iConn_any w b G pr u v h a.gi a.ns).mono ?_
  rintro e w' (⟨h1 | h1, _⟩ | ⟨_, _, c, h1, h2, h3⟩)
  · rw [vu] at h1; simp at h1
  · rw [vv] at h1; simp at h1
  · have : c = r v := Bool.eq_iff_iff.2 (h2.trans (a.rr v hv).symm)
    subst this
    exact ⟨h1, h3⟩
theorem Size_ok (h : IdxG w b G pr) (a : Asks n E G u r ld) : Calls Try.prog 26 #[ptr b, .int .i64 u] w fun e w' => e = .returned (.tuple #[.int .i64 (cnt r n : Nat), .int .i64 0]) ∧ Below w.heap.size w w' := by
  have hu := a.un
  have gN := a.gn
  have vu : vtx G.N u = true := vtx_yes (by omega) (by omega)
  refine (iSize_any w b G pr u h a.gi a.ns).mono ?_
  rintro e w' (⟨h1, _⟩ | ⟨_, k, h1, h2, h3⟩)
  · rw [vu] at h1; simp at h1
  · have := h2 r (by rw [gN]; exact a.rr)
    rw [gN] at this
    subst this
    exact ⟨h1, h3⟩
theorem Mem_ok (h : IdxG w b G pr) (a : Asks n E G u r ld) : Calls Try.prog 27 #[ptr b, .int .i64 u] w fun e w' => ∃ val l, e = .returned (.tuple #[val, .int .i64 0]) ∧ NumsAt w' w.heap.size val l ∧ MemL n r l ∧ Below w.heap.size w w' := by
  have hu := a.un
  have gN := a.gn
  have vu : vtx G.N u = true := vtx_yes (by omega) (by omega)
  refine (Members_any w b G pr u h a.gi).mono ?_
  rintro e w' (⟨h1, _⟩ | ⟨_, val, t, h1, h2, h3, h4, h5, h6⟩)
  · rw [vu] at h1; simp at h1
  · have := mem_ok a.gi a.ns h2 (v := u) (by omega) h3 (r := r) (by rw [gN]; exact a.rr) h5
    rw [gN] at this
    exact ⟨val, _, h1, h4, this, h6⟩
theorem Told_ok (h : IdxG w b G pr) (a : Asks n E G u r ld) : Calls Try.prog 30 #[ptr b] w fun e w' => e = .returned (.tuple #[.int .i64 n, .int .i64 (cnt ld n : Nat), .int .i64 G.edges.length, .int .i64 pr]) ∧ Below w.heap.size w w' := by
  have gN := a.gn
  refine (Told_any w b G pr h a.gi a.ns).mono ?_
  rintro e w' ⟨c, h1, h2, h3⟩
  have := h2 ld (fun v hv => by
    rw [a.le v (by omega)]
    constructor
    · intro q y hy k
      exact q y hy (by rw [← gN]; exact (re_rch a.gi a.ad (by omega) hv).2 (rch_comm k))
    · intro q y hy k
      exact q y hy (rch_comm ((re_rch a.gi a.ad (by omega) hv).1 (by rw [gN]; exact k))))
  rw [gN] at this h1
  subst this
  exact ⟨h1, h3⟩
theorem number_ok {W B : Nat} {g : Gh} (h : Core w g W n E) (ap : Apart g W B n) (a : Asks n E G u r ld) : Calls Try.prog 32 #[ptr W] w fun e w' => e = .returned (.int .i64 G.edges.length) ∧ w' = w := by
  refine (number_any w g W B n E h ap).mono ?_
  rintro e w' ⟨h1, h2⟩
  have := sm_edges a.gi a.ad
  rw [a.gn] at this
  rw [this, Nat.mul_div_cancel_left _ (by omega)] at h1
  exact ⟨h1, h2⟩
theorem components_ok {W B : Nat} {g : Gh} (h : Core w g W n E) (ap : Apart g W B n) (a : Asks n E G u r ld) : Calls Try.prog 31 #[ptr W] w fun e w' => e = .returned (.int .i64 (cnt ld n : Nat)) ∧ Below w.heap.size w w' := by
  refine (components_any w g W B n E h ap).mono ?_
  rintro e w' ⟨p, h1, h2, h3⟩
  rw [h2 ld a.le] at h1
  exact ⟨h1, h3⟩
end

/-- What the two rounds keep. -/
structure AS (w wr : World) (g : Gh) (W n : Nat) (E : Nat → Nat → Bool) (G : Gr) (pr : Int) (q : Nat) (r : Nat → Bool) (eq : Nat) : Prop where
  inv : Inv wr g W n E G pr
  row : wr.rowIs q 4 n (fun y => .bool (r y))
  el : ∀ k, k < 2 → ∃ x qr, wr.cell? ⟨eq, k, none⟩ = some (ptr x) ∧ IdxG wr x G qr
  bel : Below w.heap.size w wr
theorem AS.below {w wr w' : World} {g : Gh} {W n : Nat} {E : Nat → Nat → Bool} {G : Gr} {pr : Int} {q : Nat} {r : Nat → Bool} {eq : Nat} (h : AS w wr g W n E G pr q r eq) (k : Below wr.heap.size wr w') : AS w w' g W n E G pr q r eq :=
  ⟨h.inv.below k, row_but (S := fun _ => False) h.row (But.of k) (fun q => q), fun j hj => by
    obtain ⟨x, qr, h1, h2⟩ := h.el j hj
    exact ⟨x, qr, cell_but (S := fun _ => False) h1 (But.of k) (fun q => q), h2.below k⟩, h.bel.trans (k.mono h.bel.size)⟩

theorem start_as {w z : World} {g : Gh} {W n : Nat} {E : Nat → Nat → Bool} {G : Gr} {pr : Int} {q : Nat} {r : Nat → Bool} (hI : Inv z g W n E G pr) (hr : z.rowIs q 4 n (fun y => .bool (r y))) (hb : Below w.heap.size w z) (t : Nat) :
    AS w (z.alloc (.cells #[ptr g.a, ptr g.b] t)).drew g W n E G pr q r z.heap.size := by
  have b : Below z.heap.size z (z.alloc (.cells #[ptr g.a, ptr g.b] t)).drew := ((Below.refl _ _).alloc (Nat.le_refl _) _).drew
  have I2 := hI.below b
  refine ⟨I2, row_but (S := fun _ => False) hr (But.of b) (fun q => q), fun k hk => ?_, hb.trans (b.mono hb.size)⟩
  have c : k = 0 ∨ k = 1 := by omega
  rcases c with rfl | rfl
  · exact ⟨g.a, _, by show (z.alloc _).cell? _ = _; rw [new_cell]; rfl, I2.ia⟩
  · obtain ⟨qr, hb2⟩ := I2.ib
    exact ⟨g.b, qr, by show (z.alloc _).cell? _ = _; rw [new_cell]; rfl, hb2⟩

set_option maxRecDepth 100000 in
set_option maxHeartbeats 2000000 in
theorem asked_any (W B : Nat) (g : Gh) (n : Nat) (E : Nat → Nat → Bool) (G : Gr) (pr : Int) (x y : Int) (w : World) (h : Inv w g W n E G pr) (ap : Apart g W B n)
    (hx1 : -9223372036854775808 ≤ x) (hx2 : x ≤ 9223372036854775807) (hy1 : -9223372036854775808 ≤ y) (hy2 : y ≤ 9223372036854775807) :
    Calls Try.prog 14 #[ptr W, .int .i64 x, .int .i64 y] w fun e w' => e = .returned (.bool true) ∧ Below w.heap.size w w' := by
  have hn := ap.n48
  have n1 := ap.n1
  have hec2 := ap.ec
  obtain ⟨a0, a1⟩ := pk_range x n (by omega)
  obtain ⟨b0, b1⟩ := pk_range y n (by omega)
  obtain ⟨u, hu⟩ := Int.eq_ofNat_of_zero_le a0
  obtain ⟨v, hv⟩ := Int.eq_ofNat_of_zero_le b0
  have Hx : Hid (pk x n = u) := hu
  have Hy : Hid (pk y n = v) := hv
  have hun : u < n := by omega
  have hvn : v < n := by omega
  clear hu hv a0 a1 b0 b1
  have w0 := h.core.w0
  have w1 := h.core.w1
  have w2 := h.core.w2
  have w3 := h.core.w3
  have gN := h.gn
  have HI := hid h
  clear h
  go_enter Try.func14, Try.ntmps14
  go_wp2_with fail
  refine (pick_any x n _ (by omega) (by omega) (by omega)).mono ?_
  rintro e w' ⟨rfl, hw⟩
  replace hw := hw.symm
  subst hw
  rw [Hx.out]
  go_wp2_with fail
  refine (pick_any y n _ (by omega) (by omega) (by omega)).mono ?_
  rintro e w' ⟨rfl, hw⟩
  replace hw := hw.symm
  subst hw
  rw [Hy.out]
  go_wp2_with fail
  refine (reach_any w g.eb g.er n g.ecap u E HI.out.core.mat hn hec2 hun).mono ?_
  rintro e z ⟨r, rfl, hr1, hr2, hr3⟩
  have HR : Hid (∀ y, y < G.N → (r y = true ↔ Rch G.edges false 0 u y)) := by
    intro y hy
    rw [← re_rch HI.out.gi HI.out.ad (by omega) hy, gN]
    exact hr2 y (by omega)
  have HA : Hid (∃ ld, Asks n E G u r ld) := by
    classical
    exact ⟨fun v => decide (∀ u, u < v → ¬ RE n E u v), gN, HI.out.gi, HI.out.ns, HI.out.ad, hun, fun y hy => HR.out y (by omega), fun v _ => decide_eq_true_iff⟩
  have HR1 := hid hr1
  have HB1 := hid hr3
  have HI1 := hid (HI.out.below hr3)
  clear hr1 hr2 hr3 w0 w1 w2 w3
  have w0 := HI1.out.core.w0
  have w1 := HI1.out.core.w1
  have w2 := HI1.out.core.w2
  generalize hq : w.heap.size = q at HR1 ⊢
  go_wp2_with fail
  go_cut [54, 55, 56] from 46 to 177 (fun a b c wc => a = .slice (some ⟨z.heap.size, 0, none⟩) 2 2 ∧ b = .int .i64 2 ∧ c = .int .i64 0 ∧ Hid (AS w wc g W n E G pr q r z.heap.size))
  case first =>
    go_region_law (fail)
    all_goals
      have HF : Hid (AS w (z.alloc (.cells #[ptr g.a, ptr g.b] 29)).drew g W n E G pr q r z.heap.size) := start_as HI1.out HR1.out HB1.out _
      go_wp2
      go_meet
      case rel => exact ⟨rfl, rfl, rfl, HF⟩
  case rest =>
    obtain ⟨rfl, rfl, rfl, hA⟩ := hcut
    clear w0 w1 w2 HR1 HB1 HI1
    generalize z.heap.size = eq at *
    go_wp2_with fail
    go_loopw [56] (fun b wr => ∃ k : Nat, k ≤ 2 ∧ b = .int .i64 k ∧ Hid (AS w wr g W n E G pr q r eq)) (fun b _ => 2 - (intOf b).toNat)
    case atStart => exact ⟨0, by omega, rfl, hA⟩
    case round =>
      clear hA
      obtain ⟨k, hk, rfl, hS⟩ := hrel
      by_cases ck : k < 2
      · have ck' : (k : Int) < 2 := by omega
        obtain ⟨xx, qr, e1, e2⟩ := hS.out.el k ck
        have HX := hid e2
        clear e2
        go_wp2_with fail
        clear e1
        obtain ⟨ld, hA⟩ := HA.out
        have HQ := hid hA
        clear hA
        have hcl := cnt_le r n
        refine (Conn_ok HX.out HQ.out hvn).mono ?_
        rintro e wa ⟨rfl, ba⟩
        have HSa := hid (hS.out.below ba)
        have HXa := hid (HX.out.below ba)
        clear ba hS HX
        go_wp2_with fail
        refine (Size_ok HXa.out HQ.out).mono ?_
        rintro e wb ⟨rfl, bb⟩
        have HSb := hid (HSa.out.below bb)
        have HXb := hid (HXa.out.below bb)
        clear bb HSa HXa
        go_wp2_with fail
        refine (Mem_ok HXb.out HQ.out).mono ?_
        rintro e wc ⟨val, l, rfl, nc, mc, bc⟩
        have HSc := hid (HSb.out.below bc)
        have HXc := hid (HXb.out.below bc)
        have HNc := hid nc
        have HMc := hid mc
        clear bc nc mc HSb HXb
        have dv := HSc.out.row.cell (i := v) hvn
        have hvn' : (v : Int) < (n : Int) := by omega
        cases hz : r v <;> (
          rw [hz] at dv
          clear hz
          go_wp2_with fail
          refine (count_any wc q n r HSc.out.row hn).mono ?_
          rintro e wd ⟨rfl, hw⟩
          replace hw := hw.symm
          subst hw
          go_wp2_with fail
          refine (members_any wc q n _ val r l HSc.out.row hn HNc.out HMc.out).mono ?_
          rintro e wd ⟨rfl, bd⟩
          have HSd := hid (HSc.out.below bd)
          have HXd := hid (HXc.out.below bd)
          clear bd HSc HXc HNc dv
          go_wp2_with fail
          refine (Told_ok HXd.out HQ.out).mono ?_
          rintro e we ⟨rfl, be⟩
          have HSe := hid (HSd.out.below be)
          clear be HSd HXd
          have w0 := HSe.out.inv.core.w0
          go_wp2_with fail
          refine (components_ok HSe.out.inv.core ap HQ.out).mono ?_
          rintro e wf ⟨rfl, bf⟩
          have HSf := hid (HSe.out.below bf)
          clear bf HSe w0
          go_wp2_with fail
          refine (number_ok HSf.out.inv.core ap HQ.out).mono ?_
          rintro e wg ⟨rfl, hw⟩
          replace hw := hw.symm
          subst hw
          go_wp2
          exact ⟨⟨k + 1, by omega, by go_num, HSf⟩, by simp [intOf]; omega⟩)
      · have hke : k = 2 := by omega
        subst hke
        have w0 := hS.out.inv.core.w0
        have w1 := hS.out.inv.core.w1
        have HIa := hid hS.out.inv.ia
        have HL := hid hS.out.bel
        clear hS
        go_wp2_with fail
        go_quiet (first | (go_at_call 25; exact Calls.quiet_of_same (Conn_far (HIa.out.below (Below.drewN' _ (Below.refl _ _))) HI.out.gi HI.out.ns gN _)))
        go_wp2_with fail
        refine (Size_less (HIa.out.below (Below.drewN' _ (Below.refl _ _))) HI.out.gi HI.out.ns).mono ?_
        rintro e wd ⟨rfl, hw⟩
        replace hw := hw.symm
        subst hw
        go_wp2_with fail
        have w0' : (wr.drewN nq).cell? ⟨W, 0, none⟩ = some (.int .i64 n) := by rw [cell_drewN]; exact w0
        have w1' : (wr.drewN nq).cell? ⟨W, 1, none⟩ = some (ptr g.a) := by rw [cell_drewN]; exact w1
        have HIb := hid (HIa.out.below (Below.drewN' nq (Below.refl _ _)))
        have HLb := hid (Below.drewN' nq HL.out)
        clear w0 w1 HIa HL
        generalize wr.drewN nq = zz at w0' w1' HIb HLb ⊢
        go_quiet (first | (go_at_call 27; exact Calls.quiet_of_same (Mem_far (HIb.out.below (Below.drewN' _ (Below.refl _ _))) HI.out.gi gN)))
        go_wp2
        go_ret
        exact ⟨rfl, Below.drewN' _ HLb.out⟩

end Go.Proofs.Ytckallochdegiab
