import Derived.Test.YtckallochdegiabKpA
import Derived.Deep.RegionWith
import Derived.Test.YtckallochdegiabEuler
namespace Go.Proofs.Ytckallochdegiab
set_option linter.unusedVariables false
set_option linter.unusedSimpArgs false
open Go.RowKit

theorem ends_loop {n : Nat} {u : Nat} (hu : u < n) : ends n u u = 2 := by simp [ends, vtx]; omega
theorem ends_far {n : Nat} {u : Int} : ends n u n = 1 := by simp [ends, vtx]
theorem ends_less {n : Nat} {u : Int} : ends n (-1) u = 1 := by simp [ends, vtx]

theorem Insert_loop {b : Nat} {n u : Nat} (w : World) (hn : w.cell? ⟨b, 0, none⟩ = some (.int .i64 n)) (hu : u < n) :
    Calls Try.prog 45 #[ptr b, .int .i64 u, .int .i64 u] w fun e w' => e = .returned (.int .i64 2) ∧ w' = w := by
  have := Insert_bad b n u u w hn (by rw [ends_loop hu]; omega); rw [ends_loop hu] at this; exact this
theorem Delete_loop {b : Nat} {n u : Nat} (w : World) (hn : w.cell? ⟨b, 0, none⟩ = some (.int .i64 n)) (hu : u < n) :
    Calls Try.prog 46 #[ptr b, .int .i64 u, .int .i64 u] w fun e w' => e = .returned (.int .i64 2) ∧ w' = w := by
  have := Delete_bad b n u u w hn (by rw [ends_loop hu]; omega); rw [ends_loop hu] at this; exact this
theorem Insert_far {b : Nat} {n u : Nat} (w : World) (hn : w.cell? ⟨b, 0, none⟩ = some (.int .i64 n)) :
    Calls Try.prog 45 #[ptr b, .int .i64 u, .int .i64 n] w fun e w' => e = .returned (.int .i64 1) ∧ w' = w := by
  have := Insert_bad b n u n w hn (by rw [ends_far]; omega); rw [ends_far] at this; exact this
theorem Delete_less {b : Nat} {n u : Nat} (w : World) (hn : w.cell? ⟨b, 0, none⟩ = some (.int .i64 n)) :
    Calls Try.prog 46 #[ptr b, .int .i64 (-1), .int .i64 u] w fun e w' => e = .returned (.int .i64 1) ∧ w' = w := by
  have := Delete_bad b n (-1) u w hn (by rw [ends_less]; omega); rw [ends_less] at this; exact this

theorem cell_drewN (w : World) (k : Nat) (p : Addr) : (w.drewN k).cell? p = w.cell? p := by
  induction k with
  | zero => rfl
  | succ k ih => exact ih

/-- What a move leaves. -/
def MvR (g : Gh) (W B n K : Nat) (w : World) (e : Ending) (w' : World) : Prop := e = .returned (.bool true) ∧ (∃ E G pr, Inv w' g W n E G pr ∧ LX w' g W n G pr K) ∧ Below B w w'

set_option maxRecDepth 100000 in
set_option maxHeartbeats 1000000 in
/-- A move from a vertex to itself: refused four times. -/
theorem moved_loop (W B : Nat) (g : Gh) (n u : Nat) (E : Nat → Nat → Bool) (G : Gr) (pr : Int) (x y : Int) (w : World) (h : Inv w g W n E G pr) (K : Nat) (hl : LX w g W n G pr K)
    (hx0 : 0 ≤ x) (hx1 : x ≤ 255) (hy0 : 0 ≤ y) (hy1 : y ≤ 255) (hxu : pk x n = u) (hyu : pk y n = u) (hu : u < n) (hn : n ≤ 48) :
    Calls Try.prog 23 #[ptr W, .int .i64 x, .int .i64 y] w (MvR g W B n (K + 1) w) := by
  have w0 := h.core.w0
  have w1 := h.core.w1
  have w2 := h.core.w2
  have ca := h.ia.cn
  obtain ⟨qr, hib⟩ := h.ib
  have cb := hib.cn
  clear hib
  rw [h.gn] at ca cb
  have Hx : Hid (pk x n = u) := hxu
  have Hy : Hid (pk y n = u) := hyu
  have HI := hid h
  have HX := hid hl
  clear hxu hyu h hl
  go_enter Try.func23, Try.ntmps23
  go_wp2_with fail
  refine (pick_any x n _ (by omega) (by omega) (by omega)).mono ?_
  rintro e w' ⟨rfl, hw⟩
  replace hw := hw.symm
  subst hw
  rw [Hx.out]
  go_wp2_with fail
  refine (pick_any y n _ (by omega) (by omega) (by omega)).mono ?_
  rintro e w' ⟨rfl, hw⟩
  replace hw := hw.symm
  subst hw
  rw [Hy.out]
  go_wp2_with fail
  go_quiet (first
    | (go_at_call_of 45 (Value.int IntKind.i64 (n : Int)); exact Calls.quiet_of_same (Insert_far _ (by rw [cell_drewN]; exact ca)))
    | (go_at_call 45; exact Calls.quiet_of_same (Insert_loop _ (by rw [cell_drewN]; exact ca) hu))
    | (go_at_call_of 46 (ptr g.b); exact Calls.quiet_of_same (Delete_less _ (by rw [cell_drewN]; exact cb)))
    | (go_at_call 46; exact Calls.quiet_of_same (Delete_loop _ (by rw [cell_drewN]; exact ca) hu)))
  go_wp2
  go_ret
  exact ⟨rfl, ⟨E, G, pr, HI.out.below (Below.drewN' _ (Below.refl _ _)), (HX.out.below (Below.drewN' _ (Below.refl _ _))).mono (by omega)⟩, Below.drewN' _ (Below.refl _ _)⟩

/-- A cell of a block of another type is written: an index stays. -/
theorem idx_set {w : World} {b c t o : Nat} {G : Gr} {pr : Int} (h : IdxG w b G pr) (hc : TyAt w c t) (h1 : t ≠ 71) (h2 : t ≠ 118) (v : Value) : IdxG (w.setCell ⟨c, o, none⟩ v) b G pr :=
  h.but (But.setCell w ⟨c, o, none⟩ v) (fun q => h.ty.ne hc (fun e => h1 e.symm) q) (noIt_one hc h2)

/-- Both cells of an edge are written: the two indexes stay; below B nothing turns. -/
theorem edges_keep {w : World} {g : Gh} {W B n : Nat} {E : Nat → Nat → Bool} {G : Gr} {pr : Int} (h : Inv w g W n E G pr) (ap : Apart g W B n) {u v : Nat} (hu : u < n) (hv : v < n) (t : Bool) :
    Core ((w.setCell ⟨g.er u, v, none⟩ (.bool t)).setCell ⟨g.er v, u, none⟩ (.bool t)) g W n (upd E u v t) ∧ IdxG ((w.setCell ⟨g.er u, v, none⟩ (.bool t)).setCell ⟨g.er v, u, none⟩ (.bool t)) g.a G pr ∧ (∃ qr, IdxG ((w.setCell ⟨g.er u, v, none⟩ (.bool t)).setCell ⟨g.er v, u, none⟩ (.bool t)) g.b G qr) ∧
    Below B w ((w.setCell ⟨g.er u, v, none⟩ (.bool t)).setCell ⟨g.er v, u, none⟩ (.bool t)) := by
  have t1 := rowIs_ty (h.core.ce u hu)
  have t2 := rowIs_ty ((h.core.edge (v := v) ap hu t).ce v hv)
  obtain ⟨qr, hib⟩ := h.ib
  exact ⟨h.core.edges ap hu hv t, idx_set (idx_set h.ia t1 (by decide) (by decide) _) t2 (by decide) (by decide) _, ⟨qr, idx_set (idx_set hib t1 (by decide) (by decide) _) t2 (by decide) (by decide) _⟩, ((Below.refl _ _).setCell (ap.ber u hu) _).setCell (ap.ber v hv) _⟩

theorem idx_other {w w' : World} {a b : Nat} {G G' : Gr} {pr pr' : Int} (h : IdxG w a G pr) (hb : IdxG w b G' pr') (hne : a ≠ b) (k : But (fun q => q = b) w w') : IdxG w' a G pr := h.but k hne hb.noIt

set_option maxRecDepth 100000 in
set_option maxHeartbeats 1000000 in
/-- A move of an edge that is there. -/
theorem moved_gone (W B : Nat) (g : Gh) (n u v : Nat) (E : Nat → Nat → Bool) (G : Gr) (pr : Int) (x y : Int) (w : World) (h : Inv w g W n E G pr) (K : Nat) (hl : LX w g W n G pr K) (hK : K ≤ 2 ^ 30) (ap : Apart g W B n) (hB : B ≤ w.heap.size)
    (hx0 : 0 ≤ x) (hx1 : x ≤ 255) (hy0 : 0 ≤ y) (hy1 : y ≤ 255) (hxu : pk x n = u) (hyu : pk y n = v) (hu : u < n) (hv : v < n) (huv : u ≠ v) (ht : E u v = true) :
    Calls Try.prog 23 #[ptr W, .int .i64 x, .int .i64 y] w (MvR g W B n (K + 1) w) := by
  have hn := ap.n48
  have hec := ap.ec
  unfold maxLen at hec
  have hne : ((u : Int) == (v : Int)) = false := by simp; omega
  have w0 := h.core.w0
  have w1 := h.core.w1
  have w2 := h.core.w2
  have w3 := h.core.w3
  have ru := h.core.re u hu
  have rv := h.core.re v hv
  have gN := h.gn
  have c1 := (h.core.ce u hu).cell (i := v) hv
  have c2 := (h.core.ce v hv).cell (i := u) hu
  have hs := h.ad.sym (u := u) (v := v) (by omega) (by omega)
  rw [ht] at c1
  rw [← hs, ht] at c2
  have fu := (h.core.ce u hu).frozen
  have fv := (h.core.ce v hv).frozen
  have k1 := far (show g.er u ≠ W from (rowIs_ty (h.core.ce u hu)).ne h.core.tW (by decide))
  have k2 := far (show g.er v ≠ W from (rowIs_ty (h.core.ce v hv)).ne h.core.tW (by decide))
  have k3 := far (show g.er u ≠ g.eb from (rowIs_ty (h.core.ce u hu)).ne h.core.te (by decide))
  have k4 := far (show g.er u ≠ g.er v from fun q => huv (ap.ie u v hu hv q))
  have Hx : Hid (pk x n = u) := hxu
  have Hy : Hid (pk y n = v) := hyu
  have HI := hid h
  obtain ⟨k, hk⟩ := (h.ad.find (u := u) (v := v) (by omega) (by omega)).2 ht
  have HK := hid hk
  have HK2 : Hid (findIx G.edges (min (v : Int) u) (max (v : Int) u) = k) := by show _ = _; rw [Int.min_comm, Int.max_comm]; exact hk
  obtain ⟨kk1, kk2, kk3⟩ := find_ge hk
  have HKey : Hid (k < G.edges.length ∧ key (G.edges[k]?.getD e0) = (min (u : Int) v, max (u : Int) v)) := ⟨kk1, Prod.ext kk2 kk3⟩
  have HS0 := hid (edges_keep h ap hu hv false)
  obtain ⟨cm, T, hcm, hlm, hpot, hseen⟩ := hl
  have HM0 : Hid (LM ((w.setCell ⟨g.er u, v, none⟩ (.bool false)).setCell ⟨g.er v, u, none⟩ (.bool false)) g W n cm T) := (hlm.set h.core.tW (rowIs_ty (h.core.ce u hu)) (by decide) (by decide)).set (h.core.edge (v := v) ap hu false).tW (rowIs_ty ((h.core.edge (v := v) ap hu false).ce v hv)) (by decide) (by decide)
  have HPD : Hid (∀ G' pr', delF G pr (min (u : Int) v) (max (u : Int) v) k = (G', pr') → Pot G' pr' cm ∧ Seen G' T) := fun G' pr' hd => by
    have e1 : (G.edges[k]?.getD e0).u = min (u : Int) v := kk2
    have e2 : (G.edges[k]?.getD e0).v = max (u : Int) v := kk3
    obtain ⟨a1, a2⟩ := hpot.del h.gi h.ns kk1 (by omega)
    rw [e1, e2, hd] at a1 a2
    exact ⟨a1, hseen.del a2⟩
  clear hlm hpot hseen
  clear hxu hyu h ht hk kk1 kk2 kk3 hs
  go_enter Try.func23, Try.ntmps23
  go_wp2_with fail
  refine (pick_any x n _ (by omega) (by omega) (by omega)).mono ?_
  rintro e w' ⟨rfl, hw⟩
  replace hw := hw.symm
  subst hw
  rw [Hx.out]
  go_wp2_with fail
  refine (pick_any y n _ (by omega) (by omega) (by omega)).mono ?_
  rintro e w' ⟨rfl, hw⟩
  replace hw := hw.symm
  subst hw
  rw [Hy.out]
  go_wp2_with fail
  clear w0 w1 w2 w3 ru rv c1 c2 fu fv k1 k2 k3 k4
  generalize (w.setCell ⟨g.er u, v, none⟩ (.bool false)).setCell ⟨g.er v, u, none⟩ (.bool false) = z at HS0 HM0 ⊢
  obtain ⟨C2, A2, ⟨qr, B2⟩, L2⟩ := HS0.out
  refine (Insert_there g.a G pr v u k z A2 HI.out.gi (by omega) (by omega) (Ne.symm huv) HK2.out).mono ?_
  rintro e z' ⟨rfl, hz⟩
  replace hz := hz.symm
  subst hz
  have w1 := C2.w1
  have w2 := C2.w2
  have HC := hid C2
  have HA2 := hid A2
  have HB2 := hid B2
  have HL2 := hid L2
  clear C2 A2 B2 L2 HS0
  go_wp2_with fail
  clear w1 w2
  refine (Delete_old g.a G pr u v k z HA2.out HI.out.gi HI.out.ns (by omega) (by omega) huv HK.out).mono ?_
  rintro e z1 ⟨rfl, ⟨G', pr', A3, d3, e3⟩, o3⟩
  have HC3 := hid (HC.out.idx HA2.out o3)
  have HM3 := hid (HM0.out.idx HC.out.tW HA2.out o3)
  have HB3 := hid (idx_other HB2.out HA2.out ap.ab.symm o3)
  have HL3 : Hid (Below B w z1) := HL2.out.trans (o3.below (fun q hq => by subst hq; exact ap.ba) (Nat.le_trans hB HL2.out.size))
  have HA3 := hid A3
  have HD3 := hid d3
  have HE3 := hid e3
  clear A3 d3 e3 o3 HC HA2 HB2 HM0
  have w1 := HC3.out.w1
  have w2 := HC3.out.w2
  go_wp2_with fail
  clear w1 w2
  refine (Delete_old g.b G qr v u k z1 HB3.out HI.out.gi HI.out.ns (by omega) (by omega) (Ne.symm huv) HK2.out).mono ?_
  rintro e z2 ⟨rfl, ⟨G2, pr2, B4, d4, _⟩, o4⟩
  rw [Int.min_comm, Int.max_comm] at d4
  have hg1 : G2 = G' := by
    have q1 := congrArg Prod.fst d4
    have q2 := congrArg Prod.fst HD3.out
    rw [delF_pr G qr pr] at q1
    exact q1.symm.trans q2
  subst hg1
  have HC4 := hid (HC3.out.idx HB3.out o4)
  have HM4 := hid (HM3.out.idx HC3.out.tW HB3.out o4)
  have HA4 := hid (idx_other HA3.out HB3.out ap.ab o4)
  have HL4 : Hid (Below B w z2) := HL3.out.trans (o4.below (fun q hq => by subst hq; exact ap.bb) (Nat.le_trans hB HL3.out.size))
  have HB4 := hid B4
  have hA : Adj G2 (upd E u v false) := HI.out.ad.del HI.out.gi.nd HE3.out.1 HKey.out.1 HKey.out.2 HE3.out.2.2.1
  have HAd := hid hA
  have gN2 : G2.N = n := HE3.out.1.trans gN
  have HF : Hid (findIx G2.edges (min (u : Int) v) (max (u : Int) v) = -1) := (hA.find (u := u) (v := v) (by omega) (by omega)).1 (upd_at E u v false)
  clear B4 d4 o4 hA HC3 HA3 HB3 HL3 HM3
  have w1 := HC4.out.w1
  have w2 := HC4.out.w2
  go_wp2_with fail
  clear w1 w2
  refine (Delete_none g.a G2 pr' u v z2 HA4.out HE3.out.2.2.2.1 (by omega) (by omega) huv HF.out).mono ?_
  rintro e z3 ⟨rfl, hb3⟩
  have HR : Hid ((Inv z3 g W n (upd E u v false) G2 pr' ∧ LX z3 g W n G2 pr' (K + 1)) ∧ Below B w z3) := ⟨⟨(⟨HC4.out, HA4.out, ⟨pr2, HB4.out⟩, gN2, HE3.out.2.2.2.1, HE3.out.2.2.2.2, HAd.out⟩ : Inv z2 g W n (upd E u v false) G2 pr').below hb3, ⟨cm, T, by omega, HM4.out.below hb3, (HPD.out G2 pr' HD3.out).1, (HPD.out G2 pr' HD3.out).2⟩⟩, HL4.out.trans (hb3.mono (Nat.le_trans hB HL4.out.size))⟩
  clear hb3
  go_wp2_with fail
  go_ret
  exact ⟨rfl, ⟨_, _, _, HR.out.1⟩, HR.out.2⟩

/-- The five stores of a move that lets an edge come. -/
def five (w : World) (g : Gh) (W u v : Nat) (c : Int) : World :=
  (((((w.setCell ⟨g.er u, v, none⟩ (.bool true)).setCell ⟨g.er v, u, none⟩ (.bool true)).setCell ⟨g.lr u, v, none⟩ (.int .i64 0)).setCell ⟨g.lr v, u, none⟩ (.int .i64 0)).setCell ⟨W, 5, none⟩ (.int .i64 (wrap64 (c + 1))))

theorem five_keep {w : World} {g : Gh} {W B n : Nat} {E : Nat → Nat → Bool} {G : Gr} {pr : Int} (ap : Apart g W B n) {u v : Nat} (hu : u < n) (hv : v < n) (c : Int) (h : Inv w g W n E G pr) :
    Core (five w g W u v c) g W n (upd E u v true) ∧ IdxG (five w g W u v c) g.a G pr ∧ (∃ qr, IdxG (five w g W u v c) g.b G qr) ∧ Below B w (five w g W u v c) ∧ ∀ T, LM w g W n c T → LM (five w g W u v c) g W n (wrap64 (c + 1)) (fun x y => if (x = u ∧ y = v) ∨ (x = v ∧ y = u) then 0 else T x y) := by
  have HLe : ∀ T, LM w g W n c T → LM ((w.setCell ⟨g.er u, v, none⟩ (.bool true)).setCell ⟨g.er v, u, none⟩ (.bool true)) g W n c T := fun T hlm => (hlm.set h.core.tW (rowIs_ty (h.core.ce u hu)) (by decide) (by decide)).set (h.core.edge (v := v) ap hu true).tW (rowIs_ty ((h.core.edge (v := v) ap hu true).ce v hv)) (by decide) (by decide)
  unfold five
  obtain ⟨C2, A2, ⟨qr, B2⟩, L2⟩ := edges_keep h ap hu hv true
  generalize (w.setCell ⟨g.er u, v, none⟩ (.bool true)).setCell ⟨g.er v, u, none⟩ (.bool true) = z at *
  obtain ⟨f1, h1⟩ := C2.cl u hu
  have t1 := rowIs_ty h1
  have C3 := C2.level (v := v) ap hu 0
  obtain ⟨f2, h2⟩ := C3.cl v hv
  have t2 := rowIs_ty h2
  have C4 := C3.level (v := u) ap hv 0
  have t3 := C4.tW
  refine ⟨C4.came _, idx_set (idx_set (idx_set A2 t1 (by decide) (by decide) _) t2 (by decide) (by decide) _) t3 (by decide) (by decide) _, ⟨qr, idx_set (idx_set (idx_set B2 t1 (by decide) (by decide) _) t2 (by decide) (by decide) _) t3 (by decide) (by decide) _⟩, ((L2.setCell (ap.blr u hu) _).setCell (ap.blr v hv) _).setCell ap.bW _, fun T hlm => ?_⟩
  refine LM.congr (((HLe T hlm).level C2.tW ap hu 0).level C3.tW ap hv 0 |>.came C4 _) (fun x y => ?_)
  by_cases e1 : x = v ∧ y = u <;> by_cases e2 : x = u ∧ y = v <;> simp [e1, e2]

set_option maxRecDepth 100000 in
set_option maxHeartbeats 1000000 in
/-- A move of an edge that is not there. -/
theorem moved_come (W B : Nat) (g : Gh) (n u v : Nat) (E : Nat → Nat → Bool) (G : Gr) (pr : Int) (x y : Int) (w : World) (h : Inv w g W n E G pr) (K : Nat) (hl : LX w g W n G pr K) (hK : K ≤ 2 ^ 30) (ap : Apart g W B n) (hB : B ≤ w.heap.size)
    (hx0 : 0 ≤ x) (hx1 : x ≤ 255) (hy0 : 0 ≤ y) (hy1 : y ≤ 255) (hxu : pk x n = u) (hyu : pk y n = v) (hu : u < n) (hv : v < n) (huv : u ≠ v) (ht : E u v = false) :
    Calls Try.prog 23 #[ptr W, .int .i64 x, .int .i64 y] w (MvR g W B n (K + 1) w) := by
  classical
  have hn := ap.n48
  have hec := ap.ec
  have hlc := ap.lc
  unfold maxLen at hec hlc
  have hne : ((u : Int) == (v : Int)) = false := by simp; omega
  have w0 := h.core.w0
  have w1 := h.core.w1
  have w2 := h.core.w2
  have w3 := h.core.w3
  have w4 := h.core.w4
  obtain ⟨cm, T, hcm, hlm, hpot, hseen⟩ := hl
  have w5 := hlm.c5
  obtain ⟨c, hcc0⟩ : ∃ c : Int, c = (cm : Int) := ⟨_, rfl⟩
  rw [← hcc0] at w5
  have ru := h.core.re u hu
  have rv := h.core.re v hv
  have lu := h.core.rl u hu
  have lv := h.core.rl v hv
  have gN := h.gn
  have c1 := (h.core.ce u hu).cell (i := v) hv
  have c2 := (h.core.ce v hv).cell (i := u) hu
  obtain ⟨fl1, hf1⟩ := h.core.cl u hu
  obtain ⟨fl2, hf2⟩ := h.core.cl v hv
  have c3 := hf1.cell (i := v) hv
  have c4 := hf2.cell (i := u) hu
  have hs := h.ad.sym (u := u) (v := v) (by omega) (by omega)
  rw [ht] at c1
  rw [← hs, ht] at c2
  have fu := (h.core.ce u hu).frozen
  have fv := (h.core.ce v hv).frozen
  have gu := hf1.frozen
  have gv := hf2.frozen
  have fW := h.core.fW
  have teu := rowIs_ty (h.core.ce u hu)
  have tev := rowIs_ty (h.core.ce v hv)
  have tlu := rowIs_ty hf1
  have tlv := rowIs_ty hf2
  have k1 := far (show g.er u ≠ W from teu.ne h.core.tW (by decide))
  have k2 := far (show g.er v ≠ W from tev.ne h.core.tW (by decide))
  have k3 := far (show g.er u ≠ g.eb from teu.ne h.core.te (by decide))
  have k4 := far (show g.er u ≠ g.er v from fun q => huv (ap.ie u v hu hv q))
  have k5 := far (show g.er u ≠ g.lb from teu.ne h.core.tl (by decide))
  have k6 := far (show g.er v ≠ g.lb from tev.ne h.core.tl (by decide))
  have k7 := far (show g.er u ≠ g.lr u from teu.ne tlu (by decide))
  have k8 := far (show g.er v ≠ g.lr u from tev.ne tlu (by decide))
  have k9 := far (show g.er u ≠ g.lr v from teu.ne tlv (by decide))
  have k10 := far (show g.er v ≠ g.lr v from tev.ne tlv (by decide))
  have k11 := far (show g.lr u ≠ W from tlu.ne h.core.tW (by decide))
  have k12 := far (show g.lr v ≠ W from tlv.ne h.core.tW (by decide))
  have k13 := far (show g.lr u ≠ g.lb from tlu.ne h.core.tl (by decide))
  have k14 := far (show g.lr u ≠ g.lr v from fun q => huv (ap.il u v hu hv q))
  have Hx : Hid (pk x n = u) := hxu
  have Hy : Hid (pk y n = v) := hyu
  have HI := hid h
  have HK := hid ((h.ad.find (u := u) (v := v) (by omega) (by omega)).1 ht)
  obtain ⟨cc, hcc⟩ : ∃ c : Bool, c = true ↔ Rch G.edges false 0 u v := ⟨decide (Rch G.edges false 0 u v), by simp⟩
  have HCC := hid hcc
  have HS0 := hid (five_keep ap hu hv c h)
  have HM0 := hid (HS0.out.2.2.2.2 T (by rw [hcc0]; exact hlm))
  have HPI : Hid (wrap64 (c + 1) = ((cm + 1 : Nat) : Int) ∧ ∀ b, Pot (insG G u v b) pr (cm + 1) ∧ Seen (insG G u v b) (fun x y => if (x = u ∧ y = v) ∨ (x = v ∧ y = u) then 0 else T x y)) := ⟨by rw [hcc0]; unfold wrap64; omega, fun b => ⟨hpot.ins u v b, hseen.ins h.gi HK.out b⟩⟩
  have HCm := hid hcm
  clear hlm hpot hseen hcm hcc0
  clear hxu hyu h ht hs teu tev tlu tlv hf1 hf2 hcc
  go_enter Try.func23, Try.ntmps23
  go_wp2_with fail
  refine (pick_any x n _ (by omega) (by omega) (by omega)).mono ?_
  rintro e w' ⟨rfl, hw⟩
  replace hw := hw.symm
  subst hw
  rw [Hx.out]
  go_wp2_with fail
  refine (pick_any y n _ (by omega) (by omega) (by omega)).mono ?_
  rintro e w' ⟨rfl, hw⟩
  replace hw := hw.symm
  subst hw
  rw [Hy.out]
  go_wp2_with fail
  clear w0 w1 w2 w3 w4 w5 ru rv lu lv c1 c2 c3 c4 fu fv gu gv fW k1 k2 k3 k4 k5 k6 k7 k8 k9 k10 k11 k12 k13 k14
  obtain ⟨C2, A2, ⟨qr, B2⟩, L2, _⟩ := HS0.out
  have M2 := HM0.out
  rw [five] at C2 A2 B2 L2 M2
  clear HS0 HM0
  generalize (((((w.setCell ⟨g.er u, v, none⟩ (.bool true)).setCell ⟨g.er v, u, none⟩ (.bool true)).setCell ⟨g.lr u, v, none⟩ (.int .i64 0)).setCell ⟨g.lr v, u, none⟩ (.int .i64 0)).setCell ⟨W, 5, none⟩ (.int .i64 (wrap64 (c + 1)))) = z at C2 A2 B2 L2 M2 ⊢
  refine (Delete_none g.b G qr u v z B2 HI.out.gi (by omega) (by omega) huv HK.out).mono ?_
  rintro e z0 ⟨rfl, hb0⟩
  have HC := hid (C2.below hb0)
  have HM2 := hid (M2.below hb0)
  have HA2 := hid (A2.below hb0)
  have HB2 := hid (B2.below hb0)
  have HL2 : Hid (Below B w z0) := L2.trans (hb0.mono (Nat.le_trans hB L2.size))
  clear C2 A2 B2 L2 M2 hb0
  have w1 := HC.out.w1
  have w2 := HC.out.w2
  go_wp2_with fail
  clear w1 w2
  refine (Insert_new g.a G pr u v cc z0 HA2.out HI.out.gi HI.out.ns (by omega) (by omega) huv HK.out HCC.out).mono ?_
  rintro e z1 ⟨rfl, A3, o3⟩
  have HC3 := hid (HC.out.idx HA2.out o3)
  have HM3 := hid (HM2.out.idx HC.out.tW HA2.out o3)
  have HB3 := hid (idx_other HB2.out HA2.out ap.ab.symm o3)
  have HL3 : Hid (Below B w z1) := HL2.out.trans (o3.below (fun q hq => by subst hq; exact ap.ba) (Nat.le_trans hB HL2.out.size))
  have HA3 := hid A3
  clear A3 o3 HC HA2 HB2 HM2
  have w1 := HC3.out.w1
  have w2 := HC3.out.w2
  go_wp2_with fail
  clear w1 w2
  refine (Insert_new g.b G qr u v cc z1 HB3.out HI.out.gi HI.out.ns (by omega) (by omega) huv HK.out HCC.out).mono ?_
  rintro e z2 ⟨rfl, B4, o4⟩
  have HC4 := hid (HC3.out.idx HB3.out o4)
  have HM4 := hid (HM3.out.idx HC3.out.tW HB3.out o4)
  have HA4 := hid (idx_other HA3.out HB3.out ap.ab o4)
  have HL4 : Hid (Below B w z2) := HL3.out.trans (o4.below (fun q hq => by subst hq; exact ap.bb) (Nat.le_trans hB HL3.out.size))
  obtain ⟨g1, g2, _, _⟩ := ins_ok HI.out.gi HI.out.ns (u := (u : Int)) (v := (v : Int)) (by omega) (by omega) (by omega) (by omega) (by omega) HK.out HCC.out
  have keys : (insG G u v (!cc)).edges.map key = G.edges.map key ++ [(min (u : Int) v, max (u : Int) v)] := by
    unfold insG
    split
    · rw [lnks_edges]; simp [setE, addE, key]
    · simp [addE, key]
  have gN1 : (insG G u v (!cc)).N = G.N := by
    unfold insG
    split
    · rw [lnks_N]; rfl
    · rfl
  have hA : Adj (insG G u v (!cc)) (upd E u v true) := HI.out.ad.add gN1 keys
  have gN2 : (insG G u v (!cc)).N = n := gN1.trans gN
  obtain ⟨k, hk⟩ := (hA.find (u := u) (v := v) (by omega) (by omega)).2 (upd_at E u v true)
  have HF := hid hk
  have HR : Hid (Inv z2 g W n (upd E u v true) (insG G u v (!cc)) pr) := ⟨HC4.out, HA4.out, ⟨qr, B4⟩, gN2, g1, g2, hA⟩
  have HLX : Hid (LX z2 g W n (insG G u v (!cc)) pr (K + 1)) := ⟨cm + 1, _, by have := HCm.out; omega, by rw [← HPI.out.1]; exact HM4.out, (HPI.out.2 _).1, (HPI.out.2 _).2⟩
  clear B4 o4 g1 g2 keys hA hk HC3 HA3 HB3 HL3 HM3 HM4 HPI
  generalize insG G u v (!cc) = G2 at HR HF HA4 gN1 gN2 HLX
  have w1 := HC4.out.w1
  have w2 := HC4.out.w2
  go_wp2_with fail
  clear w1 w2
  refine (Insert_there g.a G2 pr u v k z2 HA4.out HR.out.gi (by omega) (by omega) huv HF.out).mono ?_
  rintro e z3 ⟨rfl, hz⟩
  replace hz := hz.symm
  subst hz
  go_wp2_with fail
  go_ret
  exact ⟨rfl, ⟨_, _, _, HR.out, HLX.out⟩, HL4.out⟩

theorem moved_any (W B : Nat) (g : Gh) (n : Nat) (E : Nat → Nat → Bool) (G : Gr) (pr : Int) (x y : Int) (w : World) (h : Inv w g W n E G pr) (K : Nat) (hl : LX w g W n G pr K) (hK : K ≤ 2 ^ 30) (ap : Apart g W B n) (hB : B ≤ w.heap.size)
    (hx0 : 0 ≤ x) (hx1 : x ≤ 255) (hy0 : 0 ≤ y) (hy1 : y ≤ 255) : Calls Try.prog 23 #[ptr W, .int .i64 x, .int .i64 y] w (MvR g W B n (K + 1) w) := by
  have n1 := ap.n1
  obtain ⟨a0, a1⟩ := pk_range x n (by omega)
  obtain ⟨b0, b1⟩ := pk_range y n (by omega)
  obtain ⟨u, hu⟩ := Int.eq_ofNat_of_zero_le a0
  obtain ⟨v, hv⟩ := Int.eq_ofNat_of_zero_le b0
  by_cases huv : u = v
  · subst huv
    exact moved_loop W B g n u E G pr x y w h K hl hx0 hx1 hy0 hy1 hu hv (by omega) ap.n48
  · cases ht : E u v
    · exact moved_come W B g n u v E G pr x y w h K hl hK ap hB hx0 hx1 hy0 hy1 hu hv (by omega) (by omega) huv ht
    · exact moved_gone W B g n u v E G pr x y w h K hl hK ap hB hx0 hx1 hy0 hy1 hu hv (by omega) (by omega) huv ht

theorem byte_range (b : UInt8) : 0 ≤ IntKind.i64.wrap (b.toNat : Int) ∧ IntKind.i64.wrap (b.toNat : Int) ≤ 255 := by
  have := b.toNat_lt
  rw [IntKind.wrap_i64]; omega

set_option maxRecDepth 100000 in
set_option maxHeartbeats 1000000 in
theorem many_any (W B : Nat) (g : Gh) (n : Nat) (E : Nat → Nat → Bool) (G : Gr) (pr : Int) (s : ByteArray) (w : World) (h : Inv w g W n E G pr) (K : Nat) (hl : LX w g W n G pr K) (hK : K ≤ 2 ^ 29) (ap : Apart g W B n) (hB : B ≤ w.heap.size) (hs : s.size ≤ 1048576) :
    Calls Try.prog 13 #[ptr W, .string s] w (MvR g W B n (K + 1048578) w) := by
  have HI := hid h
  have HX := hid hl
  clear h hl
  go_enter Try.func13, Try.ntmps13
  go_wp2
  go_loopw [5] (fun i wr => ∃ k : Nat, k ≤ s.size + 1 ∧ i = .int .i64 k ∧ Hid (∃ E G pr, Inv wr g W n E G pr ∧ LX wr g W n G pr (K + k)) ∧ Hid (Below B w wr)) (fun i _ => s.size + 2 - (intOf i).toNat)
  case atStart => exact ⟨0, by omega, rfl, ⟨E, G, pr, HI.out, HX.out⟩, Below.refl _ _⟩
  case round =>
    obtain ⟨k, hk, rfl, hE, hL⟩ := hrel
    clear HI HX
    by_cases hlt : k + 1 < s.size
    · have hlt' : k < s.size := by omega
      go_wp2_with fail
      have hlt2 : (k : Int) + 1 < (s.size : Int) := by omega
      have hlt3 : ((k : Int) + 1).toNat = k + 1 := by omega
      have hlt4 : 0 ≤ (k : Int) + 1 := by omega
      have hlt5 : IntKind.i64.wrap ((k : Int) + 1) = (k : Int) + 1 := by rw [IntKind.wrap_i64]; omega
      obtain ⟨E1, G1, pr1, hE1, hX1⟩ := hE.out
      have HE := hid (hE1.below (Below.refl _ _).drew)
      have HX1 := hid (hX1.below (Below.refl _ _).drew)
      have hBr : B ≤ wr.drew.heap.size := Nat.le_trans hB hL.out.size
      clear hE hE1 hX1
      go_region_with (go_at_call 23; refine (moved_any W B g n E1 G1 pr1 _ _ _ HE.out (K + k) HX1.out (by omega) ap hBr (byte_range _).1 (byte_range _).2 (byte_range _).1 (byte_range _).2).mono ?_; rintro e w1 ⟨rfl, hE2, hL2⟩)
      all_goals
        have HE2 : Hid (∃ E G pr, Inv w1 g W n E G pr ∧ LX w1 g W n G pr (K + (k + 2))) := by
          obtain ⟨E2, G2, pr2, i2, x2⟩ := hE2
          exact ⟨E2, G2, pr2, i2, x2.mono (by omega)⟩
        have HL2 : Hid (Below B w w1) := (hL.out.drew).trans hL2
        clear hE2 hL2 hL HE HX1
        first
          | exact ⟨⟨k + 2, by omega, by go_num, HE2, HL2⟩, by simp [intOf]; omega⟩
          | (go_wp2
             go_roundw
             case rel => exact ⟨k + 2, by omega, by go_num, HE2, HL2⟩
             case measure => simp [intOf]; omega)
    · go_wp2
      go_ret
      obtain ⟨E2, G2, pr2, i2, x2⟩ := hE.out
      exact ⟨rfl, ⟨E2, G2, pr2, i2, x2.mono (by omega)⟩, hL.out⟩

end Go.Proofs.Ytckallochdegiab
