import Derived.Test.YtgponhhaopmlbabKpC
namespace Go.Proofs.Ytgponhhaopmlbab
set_option linter.unusedVariables false
set_option linter.unusedSimpArgs false
open Go.RowKit

set_option maxHeartbeats 400000 in
theorem isVertex_nil (v : Int) (w : World) : Calls Try.prog 27 #[.pointer none, .int .i64 v] w fun e w' => e = .returned (.bool false) ∧ w' = w := by
  go_enter Try.func27, Try.ntmps27
  go_wp2
  go_ret
  exact ⟨rfl, rfl⟩

set_option maxHeartbeats 400000 in
theorem checkEnds_nil (u v : Int) (w : World) : Calls Try.prog 32 #[.pointer none, .int .i64 u, .int .i64 v] w fun e w' => e = .returned (.int .i64 1) ∧ w' = w := by
  go_enter Try.func32, Try.ntmps32
  go_wp2_with fail
  refine (isVertex_nil u w).mono ?_
  rintro e w' ⟨rfl, rfl⟩
  go_wp2
  go_ret
  exact ⟨rfl, rfl⟩

set_option maxHeartbeats 400000 in
theorem Delete_nil (u v : Int) (w : World) : Calls Try.prog 26 #[.pointer none, .int .i64 u, .int .i64 v] w fun e w' => e = .returned (.int .i64 1) ∧ w' = w := by
  go_enter Try.func26, Try.ntmps26
  go_wp2_with fail
  refine (checkEnds_nil u v w).mono ?_
  rintro e w' ⟨rfl, rfl⟩
  go_wp2
  go_ret
  exact ⟨rfl, rfl⟩

theorem Save_ptr (p : Option Addr) (w : World) : Calls Try.prog 9 #[.pointer p] w fun e w' => e = .returned (.string ⟨#[]⟩) ∧ w' = w := by
  go_enter Try.func9, Try.ntmps9
  go_wp2
  go_ret
  exact ⟨rfl, rfl⟩

def wn (n a : Nat) (s3 s4 : Value) (c : Int) : Nat → Value := fun i => if i = 0 then .int .i64 n else if i = 1 then ptr a else if i = 2 then .pointer none else if i = 3 then s3 else if i = 4 then s4 else .int .i64 c

/-- The law's world, its second index nil. -/
structure Kn (w : World) (g : Gh) (W n : Nat) (E : Nat → Nat → Bool) (G : Gr) (pr : Int) : Prop where
  rW : ∃ c, w.rowIs W 33 6 (wn n g.a (.slice (some ⟨g.eb, 0, none⟩) n g.ecap) (.slice (some ⟨g.lb, 0, none⟩) n g.lcap) c)
  re : ∀ u, u < n → w.cell? ⟨g.eb, u, none⟩ = some (.slice (some ⟨g.er u, 0, none⟩) n n)
  rl : ∀ u, u < n → w.cell? ⟨g.lb, u, none⟩ = some (.slice (some ⟨g.lr u, 0, none⟩) n n)
  te : TyAt w g.eb 41
  tl : TyAt w g.lb 42
  ce : ∀ u, u < n → w.rowIs (g.er u) 4 n (fun v => .bool (E u v))
  cl : ∀ u, u < n → ∃ f : Nat → Int, w.rowIs (g.lr u) 3 n (fun v => .int .i64 (f v))
  ia : IdxG w g.a G pr
  gn : G.N = n
  gi : GI G
  ns : NS G
  ad : Adj G E

section
variable {w w' : World} {g : Gh} {W B n : Nat} {E : Nat → Nat → Bool} {G : Gr} {pr : Int}
theorem Kn.tW (h : Kn w g W n E G pr) : TyAt w W 33 := by obtain ⟨c, h⟩ := h.rW; exact rowIs_ty h
theorem Kn.w0 (h : Kn w g W n E G pr) : w.cell? ⟨W, 0, none⟩ = some (.int .i64 n) := by obtain ⟨c, h⟩ := h.rW; exact h.cell (i := 0) (by omega)
theorem Kn.w1 (h : Kn w g W n E G pr) : w.cell? ⟨W, 1, none⟩ = some (ptr g.a) := by obtain ⟨c, h⟩ := h.rW; exact h.cell (i := 1) (by omega)
theorem Kn.w2 (h : Kn w g W n E G pr) : w.cell? ⟨W, 2, none⟩ = some (.pointer none) := by obtain ⟨c, h⟩ := h.rW; exact h.cell (i := 2) (by omega)
theorem Kn.w3 (h : Kn w g W n E G pr) : w.cell? ⟨W, 3, none⟩ = some (.slice (some ⟨g.eb, 0, none⟩) n g.ecap) := by obtain ⟨c, h⟩ := h.rW; exact h.cell (i := 3) (by omega)
theorem Kn.w4 (h : Kn w g W n E G pr) : w.cell? ⟨W, 4, none⟩ = some (.slice (some ⟨g.lb, 0, none⟩) n g.lcap) := by obtain ⟨c, h⟩ := h.rW; exact h.cell (i := 4) (by omega)
theorem Kn.w5 (h : Kn w g W n E G pr) : ∃ c, w.cell? ⟨W, 5, none⟩ = some (.int .i64 c) := by obtain ⟨c, h⟩ := h.rW; exact ⟨c, h.cell (i := 5) (by omega)⟩
theorem Kn.fW (h : Kn w g W n E G pr) : ∀ o, w.frozen? ⟨W, o, none⟩ = false := by obtain ⟨c, h⟩ := h.rW; exact h.frozen

theorem Kn.below (h : Kn w g W n E G pr) (k : Below w.heap.size w w') : Kn w' g W n E G pr := by
  have b : But (fun _ => False) w w' := But.of k
  obtain ⟨c, hc⟩ := h.rW
  refine ⟨⟨c, row_but hc b (fun q => q)⟩, fun u hu => cell_but (h.re u hu) b (fun q => q), fun u hu => cell_but (h.rl u hu) b (fun q => q), ty_but h.te b (fun q => q), ty_but h.tl b (fun q => q), fun u hu => row_but (h.ce u hu) b (fun q => q), fun u hu => ?_, h.ia.below k, h.gn, h.gi, h.ns, h.ad⟩
  obtain ⟨f, hf⟩ := h.cl u hu
  exact ⟨f, row_but hf b (fun q => q)⟩

/-- The second index becomes nil. -/
theorem Inv.nil (h : Inv w g W n E G pr) : Kn (w.setCell ⟨W, 2, none⟩ (.pointer none)) g W n E G pr := by
  have bs := But.setCell w ⟨W, 2, none⟩ (.pointer none)
  have c := h.core
  have tW := c.tW
  obtain ⟨k, hk⟩ := c.rW
  refine ⟨⟨k, (hk.set 2 _).congr (fun i hi => ?_)⟩, fun u hu => cell_but (c.re u hu) bs (fun q => c.te.ne tW (by decide) q), fun u hu => cell_but (c.rl u hu) bs (fun q => c.tl.ne tW (by decide) q), ty_but c.te bs (fun q => c.te.ne tW (by decide) q), ty_but c.tl bs (fun q => c.tl.ne tW (by decide) q), fun u hu => row_but (c.ce u hu) bs (fun q => (rowIs_ty (c.ce u hu)).ne tW (by decide) q), fun u hu => ?_, idx_set h.ia tW (by decide) (by decide) _, h.gn, h.gi, h.ns, h.ad⟩
  · simp only [wf, wn]
    have : i = 0 ∨ i = 1 ∨ i = 2 ∨ i = 3 ∨ i = 4 ∨ i = 5 := by omega
    rcases this with rfl | rfl | rfl | rfl | rfl | rfl <;> simp
  · obtain ⟨f, hf⟩ := c.cl u hu
    exact ⟨f, row_but hf bs (fun q => (rowIs_ty hf).ne tW (by decide) q)⟩

/-- The two stores of an edge that goes. -/
theorem Kn.two (h : Kn w g W n E G pr) (ap : Apart g W B n) {u v : Nat} (hu : u < n) (hv : v < n) (huv : u ≠ v) (t : Bool) :
    IdxG ((w.setCell ⟨g.er u, v, none⟩ (.bool t)).setCell ⟨g.er v, u, none⟩ (.bool t)) g.a G pr ∧ Below B w ((w.setCell ⟨g.er u, v, none⟩ (.bool t)).setCell ⟨g.er v, u, none⟩ (.bool t)) ∧
    TyAt ((w.setCell ⟨g.er u, v, none⟩ (.bool t)).setCell ⟨g.er v, u, none⟩ (.bool t)) W 33 := by
  have t1 := rowIs_ty (h.ce u hu)
  have r2 := (h.ce v hv).setOther (a := ⟨g.er u, v, none⟩) (fun q => huv (ap.ie u v hu hv q.symm)) (.bool t)
  have t2 := rowIs_ty r2
  have bs := But.setCell w ⟨g.er u, v, none⟩ (.bool t)
  have tW1 := ty_but h.tW bs (fun q => h.tW.ne t1 (by decide) q)
  exact ⟨idx_set (idx_set h.ia t1 (by decide) (by decide) _) t2 (by decide) (by decide) _, ((Below.refl _ _).setCell (ap.ber u hu) _).setCell (ap.ber v hv) _, ty_but tW1 (But.setCell _ ⟨g.er v, u, none⟩ (.bool t)) (fun q => tW1.ne t2 (by decide) q)⟩
end

/-- What a move leaves: it was none, and all is as it was; or it was told false. -/
def NilR (g : Gh) (W B n : Nat) (E : Nat → Nat → Bool) (G : Gr) (pr : Int) (w : World) (e : Ending) (w' : World) : Prop := ∃ b : Bool, e = .returned (.bool b) ∧ (b = true → Kn w' g W n E G pr) ∧ (w'.cell? ⟨W, 1, none⟩ = some (ptr g.a) ∧ w'.cell? ⟨W, 2, none⟩ = some (.pointer none)) ∧ Below B w w'

set_option maxRecDepth 100000 in
set_option maxHeartbeats 1000000 in
theorem nil_loop (W B : Nat) (g : Gh) (n u : Nat) (E : Nat → Nat → Bool) (G : Gr) (pr : Int) (x y : Int) (w : World) (h : Kn w g W n E G pr)
    (hx0 : 0 ≤ x) (hx1 : x ≤ 255) (hy0 : 0 ≤ y) (hy1 : y ≤ 255) (hxu : pk x n = u) (hyu : pk y n = u) (hu : u < n) (hn : n ≤ 48) :
    Calls Try.prog 13 #[ptr W, .int .i64 x, .int .i64 y] w (NilR g W B n E G pr w) := by
  have w0 := h.w0
  have w1 := h.w1
  have w2 := h.w2
  have ca := h.ia.cn
  rw [h.gn] at ca
  have Hx : Hid (pk x n = u) := hxu
  have Hy : Hid (pk y n = u) := hyu
  have HK : Hid (∀ k, Kn (w.drewN k) g W n E G pr) := fun k => h.below (Below.drewN' _ (Below.refl _ _))
  clear hxu hyu h
  go_enter Try.func13, Try.ntmps13
  go_wp2_with fail
  refine (pick_any x n _ (by omega) (by omega) (by omega)).mono ?_
  rintro e w' ⟨rfl, hw⟩
  replace hw := hw.symm
  subst hw
  rw [Hx.out]
  go_wp2_with fail
  refine (pick_any y n _ (by omega) (by omega) (by omega)).mono ?_
  rintro e w' ⟨rfl, hw⟩
  replace hw := hw.symm
  subst hw
  rw [Hy.out]
  go_wp2_with fail
  go_quiet (first
    | (go_at_call_of 25 (Value.int IntKind.i64 (n : Int)); exact Calls.quiet_of_same (Insert_far _ (by rw [cell_drewN]; exact ca)))
    | (go_at_call 25; exact Calls.quiet_of_same (Insert_loop _ (by rw [cell_drewN]; exact ca) hu))
    | (go_at_call_of 26 (Value.pointer none); exact Calls.quiet_of_same (Delete_nil _ _ _))
    | (go_at_call 26; exact Calls.quiet_of_same (Delete_loop _ (by rw [cell_drewN]; exact ca) hu)))
  go_wp2
  go_ret
  exact ⟨true, rfl, fun _ => HK.out _, ⟨(HK.out _).w1, (HK.out _).w2⟩, Below.drewN' _ (Below.refl _ _)⟩

set_option maxRecDepth 100000 in
set_option maxHeartbeats 1000000 in
theorem nil_gone (W B : Nat) (g : Gh) (n u v : Nat) (E : Nat → Nat → Bool) (G : Gr) (pr : Int) (x y : Int) (w : World) (h : Kn w g W n E G pr) (ap : Apart g W B n) (hB : B ≤ w.heap.size)
    (hx0 : 0 ≤ x) (hx1 : x ≤ 255) (hy0 : 0 ≤ y) (hy1 : y ≤ 255) (hxu : pk x n = u) (hyu : pk y n = v) (hu : u < n) (hv : v < n) (huv : u ≠ v) (ht : E u v = true) :
    Calls Try.prog 13 #[ptr W, .int .i64 x, .int .i64 y] w (NilR g W B n E G pr w) := by
  have hn := ap.n48
  have hec := ap.ec
  unfold maxLen at hec
  have hne : ((u : Int) == (v : Int)) = false := by simp; omega
  have w0 := h.w0
  have w1 := h.w1
  have w2 := h.w2
  have w3 := h.w3
  have ru := h.re u hu
  have rv := h.re v hv
  have gN := h.gn
  have c1 := (h.ce u hu).cell (i := v) hv
  have c2 := (h.ce v hv).cell (i := u) hu
  have hs := h.ad.sym (u := u) (v := v) (by omega) (by omega)
  rw [ht] at c1
  rw [← hs, ht] at c2
  have fu := (h.ce u hu).frozen
  have fv := (h.ce v hv).frozen
  have k1 := far (show g.er u ≠ W from (rowIs_ty (h.ce u hu)).ne h.tW (by decide))
  have k2 := far (show g.er v ≠ W from (rowIs_ty (h.ce v hv)).ne h.tW (by decide))
  have k3 := far (show g.er u ≠ g.eb from (rowIs_ty (h.ce u hu)).ne h.te (by decide))
  have k4 := far (show g.er u ≠ g.er v from fun q => huv (ap.ie u v hu hv q))
  have Hx : Hid (pk x n = u) := hxu
  have Hy : Hid (pk y n = v) := hyu
  have HI := hid h
  obtain ⟨k, hk⟩ := (h.ad.find (u := u) (v := v) (by omega) (by omega)).2 ht
  have HK := hid hk
  have HK2 : Hid (findIx G.edges (min (v : Int) u) (max (v : Int) u) = k) := by show _ = _; rw [Int.min_comm, Int.max_comm]; exact hk
  have HS0 := hid (h.two ap hu hv huv false)
  have HZ : Hid (∀ i, ((w.setCell ⟨g.er u, v, none⟩ (.bool false)).setCell ⟨g.er v, u, none⟩ (.bool false)).cell? ⟨W, i, none⟩ = w.cell? ⟨W, i, none⟩) := fun i => by rw [k2, k1]
  clear hxu hyu h ht hk hs
  go_enter Try.func13, Try.ntmps13
  go_wp2_with fail
  refine (pick_any x n _ (by omega) (by omega) (by omega)).mono ?_
  rintro e w' ⟨rfl, hw⟩
  replace hw := hw.symm
  subst hw
  rw [Hx.out]
  go_wp2_with fail
  refine (pick_any y n _ (by omega) (by omega) (by omega)).mono ?_
  rintro e w' ⟨rfl, hw⟩
  replace hw := hw.symm
  subst hw
  rw [Hy.out]
  go_wp2_with fail
  have W1 : ((w.setCell ⟨g.er u, v, none⟩ (.bool false)).setCell ⟨g.er v, u, none⟩ (.bool false)).cell? ⟨W, 1, none⟩ = some (ptr g.a) := by rw [HZ.out]; exact HI.out.w1
  have W2 : ((w.setCell ⟨g.er u, v, none⟩ (.bool false)).setCell ⟨g.er v, u, none⟩ (.bool false)).cell? ⟨W, 2, none⟩ = some (.pointer none) := by rw [HZ.out]; exact HI.out.w2
  clear w0 w1 w2 w3 ru rv c1 c2 fu fv k1 k2 k3 k4 HZ
  generalize (w.setCell ⟨g.er u, v, none⟩ (.bool false)).setCell ⟨g.er v, u, none⟩ (.bool false) = z at HS0 W1 W2 ⊢
  refine (Insert_there g.a G pr v u k z HS0.out.1 HI.out.gi (by omega) (by omega) (Ne.symm huv) HK2.out).mono ?_
  rintro e z' ⟨rfl, hz⟩
  replace hz := hz.symm
  subst hz
  go_wp2_with fail
  refine (Delete_old g.a G pr u v k z HS0.out.1 HI.out.gi HI.out.ns (by omega) (by omega) huv HK.out).mono ?_
  rintro e z1 ⟨rfl, _, o3⟩
  have hWa : ¬ W = g.a := HS0.out.2.2.ne HS0.out.1.ty (by decide)
  have V1 : z1.cell? ⟨W, 1, none⟩ = some (ptr g.a) := cell_but W1 o3 hWa
  have V2 : z1.cell? ⟨W, 2, none⟩ = some (.pointer none) := cell_but W2 o3 hWa
  have HL3 : Hid (Below B w z1) := HS0.out.2.1.trans (o3.below (fun q hq => by subst hq; exact ap.ba) (Nat.le_trans hB HS0.out.2.1.size))
  have HV : Hid (z1.cell? ⟨W, 1, none⟩ = some (ptr g.a) ∧ z1.cell? ⟨W, 2, none⟩ = some (.pointer none)) := ⟨V1, V2⟩
  clear W1 W2 o3
  go_wp2_with fail
  refine (Delete_nil v u z1).mono ?_
  rintro e z' ⟨rfl, hw⟩
  replace hw := hw.symm
  subst hw
  clear V1 V2
  go_wp2
  go_ret
  exact ⟨false, rfl, fun q => by simp at q, HV.out, HL3.out⟩

end Go.Proofs.Ytgponhhaopmlbab
