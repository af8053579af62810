import Derived.Test.YtfgahilgjpjncaaIdxC
namespace Go.Proofs.Ytfgahilgjpjncaa
set_option linter.unusedVariables false
set_option linter.unusedSimpArgs false
open Go.RowKit

theorem NumsAt.at_ {w : World} {B : Nat} {v : Value} {l : List Nat} (h : NumsAt w B v l) (hl : 0 < l.length) : ∃ g c, v = .slice (some ⟨g, 0, none⟩) l.length c ∧ g < w.heap.size ∧ B ≤ g ∧ l.length ≤ c ∧ c ≤ maxLen ∧ TyAt w g 3 ∧ ∀ j, j < l.length → w.cell? ⟨g, j, none⟩ = some (.int .i64 ((l[j]?.getD 0 : Nat) : Int)) := by
  rcases h.1.2 with ⟨_, h2⟩ | ⟨g, cap, cur, h1, hB, h3, h4, h5, _, h7⟩
  · omega
  · refine ⟨g, cap, h1, (Array.getElem?_eq_some_iff.1 h3).1, hB, h4, h5, ⟨cur, h3⟩, fun j hj => ?_⟩
    have := h.1.cells (g := g) (by rw [h1]; rfl) j (.int .i64 ((l[j]?.getD 0 : Nat) : Int)) (by rw [List.getElem?_map, List.getElem?_eq_getElem hj]; rfl)
    rw [addr_add, Nat.zero_add] at this
    exact this

/-- What contains answers. -/
def ContR (l : List Nat) (v : Nat) (w : World) (e : Ending) (w' : World) : Prop := ∃ b : Bool, e = .returned (.bool b) ∧ (b = true ↔ v ∈ l) ∧ w' = w

set_option maxRecDepth 100000 in
set_option maxHeartbeats 1000000 in
theorem contains_any (w : World) (B : Nat) (vl : Value) (l : List Nat) (v : Nat) (h : NumsAt w B vl l) (hl : 0 < l.length) : Calls Try.prog 62 #[vl, .int .i64 v] w (ContR l v w) := by
  obtain ⟨g, c, rfl, _, _, hlc, hcm, _, hcells⟩ := h.at_ hl
  unfold maxLen at hcm
  have HC := hid hcells
  clear h hcells
  go_enter Try.func62, Try.ntmps62
  go_wp2_with fail
  go_loopw [9] (fun a wr => ∃ m : Nat, m ≤ l.length ∧ a = .int .i64 m ∧ wr = w ∧ Hid (∀ j, j < m → l[j]?.getD 0 ≠ v)) (fun a _ => l.length - (intOf a).toNat)
  case atStart => exact ⟨0, by omega, rfl, rfl, fun j hj => by omega⟩
  case round =>
    obtain ⟨m, hm, rfl, rfl, hno⟩ := hrel
    by_cases cm : m < l.length
    · have cm' : (m : Int) < (l.length : Int) := by omega
      have d := HC.out m cm
      obtain ⟨x, hx⟩ : ∃ x, x = l[m]?.getD 0 := ⟨_, rfl⟩
      rw [← hx] at d
      have HX := hid hx
      clear hx
      by_cases e : (x : Int) = (v : Int)
      · have e' : ((x : Int) == (v : Int)) = true := by simpa using e
        have HE : Hid (x = v) := by show _ = _; omega
        clear e
        go_wp2
        go_ret
        refine ⟨true, rfl, ⟨fun _ => ?_, fun _ => rfl⟩, rfl⟩
        rw [← HE.out, HX.out, get_eq cm]; exact List.getElem_mem cm
      · have e' : ((x : Int) == (v : Int)) = false := by simpa using e
        have HE : Hid (x ≠ v) := by show _ ≠ _; omega
        clear e
        go_wp2
        refine ⟨⟨m + 1, by omega, by go_num, by trivial, fun j hj => ?_⟩, by simp [intOf]; omega⟩
        by_cases q : j = m
        · subst q; rw [← HX.out]; exact HE.out
        · exact hno.out j (by omega)
    · have cm' : ¬ (m : Int) < (l.length : Int) := by omega
      go_wp2
      go_ret
      refine ⟨false, rfl, ⟨fun q => by simp at q, fun q => ?_⟩, rfl⟩
      obtain ⟨j, hj, e⟩ := List.mem_iff_getElem.1 q
      exact absurd (by rw [get_eq hj]; exact e) (hno.out j (by omega))

theorem vtx_yes {n : Nat} {v : Int} (h0 : 0 ≤ v) (h1 : v < n) : vtx n v = true := by simp [vtx, h0, h1]

/-- What Connected answers. -/
def ConnR (n : Nat) (E : Nat → Nat → Bool) (u v : Int) (w : World) (e : Ending) (w' : World) : Prop :=
  ((vtx n u = false ∨ vtx n v = false) ∧ e = .returned (.tuple #[.bool false, .int .i64 1]) ∧ w' = w) ∨
  (vtx n u = true ∧ vtx n v = true ∧ ∃ (b : Bool) (l : List Nat), e = .returned (.tuple #[.bool b, .int .i64 0]) ∧ CompL n E u.toNat l ∧ (b = true ↔ v.toNat ∈ l) ∧ Below w.heap.size w w')

set_option maxRecDepth 100000 in
set_option maxHeartbeats 1000000 in
theorem iConn_any (w : World) (b n : Nat) (E : Nat → Nat → Bool) (u v : Int) (h : IdxAt w b n E) : Calls Try.prog 37 #[ptr b, .int .i64 u, .int .i64 v] w (ConnR n E u v w) := by
  have HI := hid h
  have cn := h.cn
  clear h
  cases h0 : vtx n u
  · have H0 := hid h0
    clear h0
    go_enter Try.func37, Try.ntmps37
    go_wp2_with fail
    refine (isVertex_any b n u _ cn).mono ?_
    rintro e w' ⟨rfl, rfl⟩
    rw [H0.out]
    go_wp2_with fail
    go_ret2
    exact Or.inl ⟨Or.inl H0.out, rfl, rfl⟩
  · have H0 := hid h0
    clear h0
    cases h1 : vtx n v
    · have H1 := hid h1
      clear h1
      go_enter Try.func37, Try.ntmps37
      go_wp2_with fail
      refine (isVertex_any b n u _ cn).mono ?_
      rintro e w' ⟨rfl, rfl⟩
      rw [H0.out]
      go_wp2_with fail
      refine (isVertex_any b n v _ cn).mono ?_
      rintro e w' ⟨rfl, rfl⟩
      rw [H1.out]
      go_wp2_with fail
      go_ret2
      exact Or.inl ⟨Or.inr H1.out, rfl, rfl⟩
    · have H1 := hid h1
      simp only [vtx, Bool.and_eq_true, decide_eq_true_eq] at h1
      have h2 := H0.out
      simp only [vtx, Bool.and_eq_true, decide_eq_true_eq] at h2
      obtain ⟨x, rfl⟩ : ∃ x : Nat, u = x := ⟨u.toNat, by omega⟩
      obtain ⟨y, rfl⟩ : ∃ y : Nat, v = y := ⟨v.toNat, by omega⟩
      have hxn : x < n := by omega
      clear h1 h2
      go_enter Try.func37, Try.ntmps37
      go_wp2_with fail
      refine (isVertex_any b n x _ cn).mono ?_
      rintro e w' ⟨rfl, rfl⟩
      rw [H0.out]
      go_wp2_with fail
      refine (isVertex_any b n y _ cn).mono ?_
      rintro e w' ⟨rfl, rfl⟩
      rw [H1.out]
      go_wp2_with fail
      refine (component_any _ b n E x HI.out hxn).mono ?_
      rintro e w1 ⟨vl, l, rfl, hN, hC, hB⟩
      have HB := hid hB
      have HC := hid hC
      have HN := hid hN
      clear hN hC hB
      go_wp2_with fail
      refine (contains_any _ _ vl l y HN.out (List.length_pos_of_mem HC.out.vin)).mono ?_
      rintro e w2 ⟨bb, rfl, hb, rfl⟩
      have HBb := hid hb
      clear hb
      go_wp2_with fail
      go_ret2
      exact Or.inr ⟨H0.out, H1.out, bb, l, rfl, HC.out, HBb.out, HB.out⟩

/-- What Size answers. -/
def SizeR (n : Nat) (E : Nat → Nat → Bool) (v : Int) (w : World) (e : Ending) (w' : World) : Prop :=
  (vtx n v = false ∧ e = .returned (.tuple #[.int .i64 0, .int .i64 1]) ∧ w' = w) ∨
  (vtx n v = true ∧ ∃ l : List Nat, e = .returned (.tuple #[.int .i64 l.length, .int .i64 0]) ∧ CompL n E v.toNat l ∧ Below w.heap.size w w')

set_option maxRecDepth 100000 in
set_option maxHeartbeats 1000000 in
theorem iSize_any (w : World) (b n : Nat) (E : Nat → Nat → Bool) (v : Int) (h : IdxAt w b n E) : Calls Try.prog 39 #[ptr b, .int .i64 v] w (SizeR n E v w) := by
  have HI := hid h
  have cn := h.cn
  clear h
  cases h0 : vtx n v
  · have H0 := hid h0
    clear h0
    go_enter Try.func39, Try.ntmps39
    go_wp2_with fail
    refine (isVertex_any b n v _ cn).mono ?_
    rintro e w' ⟨rfl, rfl⟩
    rw [H0.out]
    go_wp2_with fail
    go_ret2
    exact Or.inl ⟨H0.out, rfl, rfl⟩
  · have H0 := hid h0
    simp only [vtx, Bool.and_eq_true, decide_eq_true_eq] at h0
    obtain ⟨x, rfl⟩ : ∃ x : Nat, v = x := ⟨v.toNat, by omega⟩
    have hxn : x < n := by omega
    clear h0
    go_enter Try.func39, Try.ntmps39
    go_wp2_with fail
    refine (isVertex_any b n x _ cn).mono ?_
    rintro e w' ⟨rfl, rfl⟩
    rw [H0.out]
    go_wp2_with fail
    refine (component_any _ b n E x HI.out hxn).mono ?_
    rintro e w1 ⟨vl, l, rfl, hN, hC, hB⟩
    obtain ⟨g, c, hv, _, _, hlc, hcm, _, _⟩ := hN.at_ (List.length_pos_of_mem hC.vin)
    unfold maxLen at hcm
    subst hv
    have HB := hid hB
    have HC := hid hC
    clear hN hC hB
    go_wp2_with fail
    go_ret2
    exact Or.inr ⟨H0.out, l, rfl, HC.out, HB.out⟩

/-- The stubs of stage 1. -/
theorem Load_any (w : World) (s : ByteArray) (k : Int) : Calls Try.prog 28 #[.string s, .int .i64 k] w fun e w' => e = .returned (.tuple #[.pointer none, .int .i64 0]) ∧ w' = w := by
  go_enter Try.func28, Try.ntmps28
  go_wp2
  go_ret2
  exact ⟨rfl, rfl⟩
theorem Save_any (w : World) (b : Nat) : Calls Try.prog 30 #[ptr b] w fun e w' => e = .returned (.string ⟨#[]⟩) ∧ w' = w := by
  go_enter Try.func30, Try.ntmps30
  go_wp2
  go_ret
  exact ⟨rfl, rfl⟩
theorem Members_any (w : World) (b : Nat) (v : Int) : Calls Try.prog 41 #[ptr b, .int .i64 v] w fun e w' => e = .returned (.tuple #[.slice none 0 0, .int .i64 0]) ∧ w' = w := by
  go_enter Try.func41, Try.ntmps41
  go_wp2
  go_ret2
  exact ⟨rfl, rfl⟩

end Go.Proofs.Ytfgahilgjpjncaa
namespace Go.Proofs.Ytfgahilgjpjncaa
set_option linter.unusedVariables false
set_option linter.unusedSimpArgs false
open Go.RowKit

/-- A number is answered. -/
def IntR (w : World) (e : Ending) (w' : World) : Prop := ∃ c : Nat, e = .returned (.int .i64 c) ∧ Below w.heap.size w w'

set_option maxRecDepth 100000 in
set_option maxHeartbeats 1000000 in
theorem countEdges_any (w : World) (b n : Nat) (E : Nat → Nat → Bool) (h : IdxAt w b n E) : Calls Try.prog 67 #[ptr b] w (IntR w) := by
  have HI := hid h
  have cn := h.cn
  have n48 := h.n1
  clear h
  go_enter Try.func67, Try.ntmps67
  go_wp2_with fail
  go_loopw [3, 4] (fun a c wr => ∃ t v : Nat, v ≤ n ∧ t ≤ 48 * v ∧ a = .int .i64 t ∧ c = .int .i64 v ∧ wr = w) (fun _ c _ => n - (intOf c).toNat)
  case atStart => exact ⟨0, 0, by omega, by omega, rfl, rfl, rfl⟩
  case round =>
    obtain ⟨t, v, hv, ht, rfl, rfl, rfl⟩ := hrel
    by_cases cv : v < n
    · have cv' : (v : Int) < (n : Int) := by omega
      have v48 : (v : Int) < 48 := by omega
      go_wp2_with fail
      go_loopw [3, 5] (fun a c wr2 => ∃ t2 u : Nat, u ≤ v ∧ t2 ≤ 48 * v + u ∧ a = .int .i64 t2 ∧ c = .int .i64 u ∧ wr2 = wr) (fun _ c _ => v - (intOf c).toNat)
      case atStart => exact ⟨t, 0, by omega, by omega, rfl, rfl, rfl⟩
      case round =>
        obtain ⟨t2, u, hu, ht2, rfl, rfl, rfl⟩ := hrel
        by_cases cu : u < v
        · have cu' : (u : Int) < (v : Int) := by omega
          have u48 : (u : Int) < 48 := by omega
          have d := HI.out.ce u v (by omega) (by omega)
          cases hE : E u v
          · rw [hE] at d
            clear hE
            go_wp2
            exact ⟨⟨t2, u + 1, by omega, by omega, rfl, by go_num, by trivial⟩, by simp [intOf]; omega⟩
          · rw [hE] at d
            clear hE
            go_wp2
            exact ⟨⟨t2 + 1, u + 1, by omega, by omega, by go_num, by go_num, by trivial⟩, by simp [intOf]; omega⟩
        · have cu' : ¬ (u : Int) < (v : Int) := by omega
          go_wp2
          exact ⟨⟨t2, v + 1, by omega, by omega, rfl, by go_num, by trivial⟩, by simp [intOf]; omega⟩
    · have cv' : ¬ (v : Int) < (n : Int) := by omega
      go_wp2
      go_ret
      exact ⟨t, rfl, Below.refl _ _⟩

def SeenAt (w0 w : World) : Prop := (∃ s : Nat → Bool, w.rowIs w0.heap.size 83 48 (fun x => .bool (s x))) ∧ Below w0.heap.size w0 w

set_option maxRecDepth 100000 in
set_option maxHeartbeats 1000000 in
theorem countComponents_any (w : World) (b n : Nat) (E : Nat → Nat → Bool) (h : IdxAt w b n E) : Calls Try.prog 66 #[ptr b] w (IntR w) := by
  have HI := hid h
  have n48 := h.n1
  have hz := zeroB
  have hz1 := zB_ne
  clear h
  go_enter Try.func66, Try.ntmps66
  go_wp2_with fail
  go_loopw [4, 5] (fun a c wr => ∃ t v : Nat, v ≤ n ∧ t ≤ v ∧ a = .int .i64 t ∧ c = .int .i64 v ∧ Hid (SeenAt w wr)) (fun _ c _ => n - (intOf c).toNat)
  case atStart =>
    refine ⟨0, 0, by omega, by omega, rfl, rfl, ⟨fun _ => false, ?_⟩, (Below.refl _ _).alloc (Nat.le_refl _) _⟩
    have := World.rowIs_alloc w zB 83 (fun _ => .bool false) (fun i hi => zB_get i (by rw [zB_size] at hi; exact hi))
    rw [zB_size] at this
    exact this
  case round =>
    obtain ⟨t, v, hv, ht, rfl, rfl, hS⟩ := hrel
    have hI := HI.out.but (S := fun _ => False) (But.of hS.out.2) (fun q => q)
    have cn := hI.cn
    have HIr := hid hI
    clear hI
    by_cases cv : v < n
    · have cv' : (v : Int) < (n : Int) := by omega
      have v48 : (v : Int) < 48 := by omega
      obtain ⟨s, hs⟩ := hS.out.1
      have d := hs.cell (i := v) (by omega)
      cases hsv : s v
      · simp only [hsv] at d
        clear hsv hs
        go_wp2_with fail
        refine (component_any _ b n E v HIr.out cv).mono ?_
        rintro e w1 ⟨vl, l, rfl, hN, hC, hB⟩
        obtain ⟨g, c, hvl, hgl, hgB, hlc, hcm, hty, hcells⟩ := hN.at_ (List.length_pos_of_mem hC.vin)
        unfold maxLen at hcm
        subst hvl
        have HL : Hid (∀ j, j < l.length → l[j]?.getD 0 < 48) := fun j hj => by
          have := hC.lt (l[j]?.getD 0) (by rw [get_eq hj]; exact List.getElem_mem hj)
          omega
        have HS1 : Hid (SeenAt w w1) := by
          obtain ⟨⟨s, hs⟩, hb⟩ := hS.out
          exact ⟨⟨s, row_but (S := fun _ => False) hs (But.of hB) (fun q => q)⟩, hb.trans (hB.mono hb.size)⟩
        have HCe := hid hcells
        have HTy : Hid (TyAt w1 g 3) := hty
        have HS2 : Hid (SeenAt w w1 ∧ ∀ j, j < l.length → w1.cell? ⟨g, j, none⟩ = some (.int .i64 ((l[j]?.getD 0 : Nat) : Int))) := ⟨HS1.out, hcells⟩
        have hg2 : Hid (g ≠ w.heap.size) := by
          obtain ⟨⟨s, hs⟩, hb⟩ := HS1.out
          exact hty.ne (rowIs_ty hs) (by decide)
        clear hN hC hB hcells hty d HCe HTy HS1
        go_wp2_with fail
        go_loopw [25] (fun a wr => ∃ m : Nat, m ≤ l.length ∧ a = .int .i64 m ∧ Hid (SeenAt w wr ∧ ∀ j, j < l.length → wr.cell? ⟨g, j, none⟩ = some (.int .i64 ((l[j]?.getD 0 : Nat) : Int)))) (fun a _ => l.length - (intOf a).toNat)
        case atStart => exact ⟨0, by omega, rfl, HS2⟩
        case round =>
          clear HS2
          obtain ⟨m, hm, rfl, hX⟩ := hrel
          by_cases cm : m < l.length
          · have cm' : (m : Int) < (l.length : Int) := by omega
            have d := hX.out.2 m cm
            have x48 := HL.out m cm
            obtain ⟨x, hx⟩ : ∃ x, x = l[m]?.getD 0 := ⟨_, rfl⟩
            rw [← hx] at d x48
            clear hx
            have x48' : (x : Int) < 48 := by omega
            obtain ⟨⟨s3, hs3⟩, hb3⟩ := hX.out.1
            have d2 := hs3.cell (i := x) x48
            have fr := hs3.frozen
            have HS3 : Hid (SeenAt w (wr.setCell ⟨w.heap.size, x, none⟩ (.bool true)) ∧ ∀ j, j < l.length → (wr.setCell ⟨w.heap.size, x, none⟩ (.bool true)).cell? ⟨g, j, none⟩ = some (.int .i64 ((l[j]?.getD 0 : Nat) : Int))) := by
              refine ⟨⟨⟨fun y => if y = x then true else s3 y, (hs3.set x (.bool true)).congr ?_⟩, hb3.setCell (Nat.le_refl _) _⟩, fun j hj => ?_⟩
              · intro i _
                by_cases e : i = x <;> simp [e]
              · rw [far (fun q => hg2.out q.symm)]; exact hX.out.2 j hj
            clear hs3 hb3
            go_wp2
            exact ⟨⟨m + 1, by omega, by go_num, HS3⟩, by simp [intOf]; omega⟩
          · have cm' : ¬ (m : Int) < (l.length : Int) := by omega
            have HS4 := hid hX.out.1
            go_wp2
            exact ⟨⟨t + 1, v + 1, by omega, by omega, by go_num, by go_num, HS4⟩, by simp [intOf]; omega⟩
      · simp only [hsv] at d
        clear hsv hs
        go_wp2
        exact ⟨⟨t, v + 1, by omega, by omega, rfl, by go_num, hS⟩, by simp [intOf]; omega⟩
    · have cv' : ¬ (v : Int) < (n : Int) := by omega
      go_wp2
      go_ret
      exact ⟨t, rfl, hS.out.2⟩

theorem results_tmp4 {fn : Func} {t u v x : Tmp} (h : fn.results = #[.tmp t, .tmp u, .tmp v, .tmp x]) (tmps : Array Value) (P : Program) (w : World) :
    (results fn tmps).run P w = .ok (.tuple #[tmps.getD t undef, tmps.getD u undef, tmps.getD v undef, tmps.getD x undef]) w := by
  simp [results, h]

/-- What Told answers. -/
def ToldR (n : Nat) (w : World) (e : Ending) (w' : World) : Prop := ∃ c d : Nat, e = .returned (.tuple #[.int .i64 n, .int .i64 c, .int .i64 d, .int .i64 0]) ∧ Below w.heap.size w w'

set_option maxRecDepth 100000 in
set_option maxHeartbeats 1000000 in
theorem Told_any (w : World) (b n : Nat) (E : Nat → Nat → Bool) (h : IdxAt w b n E) : Calls Try.prog 44 #[ptr b] w (ToldR n w) := by
  have HI := hid h
  clear h
  go_enter Try.func44, Try.ntmps44
  go_wp2_with fail
  refine (countComponents_any _ b n E HI.out).mono ?_
  rintro e w1 ⟨c, rfl, hb1⟩
  have HB1 := hid hb1
  have HI1 := hid (HI.out.but (S := fun _ => False) (But.of hb1) (fun q => q))
  clear hb1
  go_wp2_with fail
  refine (countEdges_any _ b n E HI1.out).mono ?_
  rintro e w2 ⟨d, rfl, hb2⟩
  have cn := (HI1.out.but (S := fun _ => False) (But.of hb2) (fun q => q)).cn
  have HB2 : Hid (Below w.heap.size w w2) := HB1.out.trans (hb2.mono HB1.out.size)
  clear hb2
  go_wp2_with fail
  (try simp only [Exit.inBlock, Exit.then]); refine bodyPost_ret (results_tmp4 rfl _ _ _) rfl ?_
  exact ⟨c, d, rfl, HB2.out⟩

end Go.Proofs.Ytfgahilgjpjncaa
