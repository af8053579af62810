import Derived.Test.YtckallochdegiaaGreatWeak
import Derived.Test.YtckallochdegiaaGreatWalkX
namespace Go.Proofs.YtckallochdegiaaGreat
set_option linter.unusedVariables false
set_option linter.unusedSimpArgs false
open Go.RowKit

/-- The numbers that are left. -/
def Lf (w : World) (v : Value) (ts : List Nat) : Prop := IntsAt w v ts ∧ ∀ n, n ∈ ts → n < 2 ^ 28
section
variable {w w' : World} {v : Value} {ts : List Nat}
theorem Lf.below (h : Lf w v ts) (b : Below w.heap.size w w') : Lf w' v ts := ⟨h.1.below b (Nat.le_refl _), h.2⟩
theorem Lf.form (h : Lf w v ts) : (v = .slice none 0 0 ∧ ts = []) ∨ ∃ b o cap, v = .slice (some ⟨b, o, none⟩) ts.length cap ∧ ts.length ≤ cap ∧ cap ≤ maxLen ∧ (0 < ts.length → w.cell? ⟨b, o, none⟩ = some (.int .i64 ((ts[0]?.getD 0 : Nat) : Int))) ∧ (∀ o', (o' = o + 1 ∨ ts.length = 1) → 0 < ts.length → Lf w (.slice (some ⟨b, o', none⟩) (ts.length - 1) (cap - 1)) (ts.drop 1)) := by
  obtain ⟨h1, h2⟩ := h
  rcases h1 with e | ⟨b, o, cap, e, l1, l2, l3, l4⟩
  · exact Or.inl e
  · exact Or.inr ⟨b, o, cap, e, l1, l2, fun q => l4 0 q, fun o' ho hn => ⟨ints_drop l1 l2 l3 l4 1 hn o' ho, fun n hn => h2 n (List.mem_of_mem_drop hn)⟩⟩
theorem Lf.set (h : Lf w v ts) {tb t : Nat} (ht : TyAt w tb t) (hne : t ≠ 3) (i : Nat) (u : Value) : Lf (w.setCell ⟨tb, i, none⟩ u) v ts := by
  obtain ⟨h1, h2⟩ := h
  refine ⟨?_, h2⟩
  rcases h1 with e | ⟨b, o, cap, e, l1, l2, l3, l4⟩
  · exact Or.inl e
  · have ne : tb ≠ b := ht.ne l3 hne
    refine Or.inr ⟨b, o, cap, e, l1, l2, ?_, fun j hj => by rw [far ne]; exact l4 j hj⟩
    obtain ⟨c, hc⟩ := l3
    exact ⟨c, by rw [(But.setCell w ⟨tb, i, none⟩ u).block b (Array.getElem?_eq_some_iff.1 hc).1 (fun q => ne q.symm)]; exact hc⟩
theorem Lf.grown {row : Option Nat} (h : Lf w v ts) (g : w.grownBy w' row) (hr : ∀ k, row = some k → ¬ TyAt w k 3) : Lf w' v ts := by
  obtain ⟨h1, h2⟩ := h
  refine ⟨?_, h2⟩
  rcases h1 with e | ⟨b, o, cap, e, l1, l2, l3, l4⟩
  · exact Or.inl e
  · have eb := g.block b l3.lt (fun q => hr b q.symm l3)
    refine Or.inr ⟨b, o, cap, e, l1, l2, ?_, fun j hj => by rw [World.cell?_of_block (w := w) (a := ⟨b, o + j, none⟩) eb]; exact l4 j hj⟩
    obtain ⟨c, hc⟩ := l3
    exact ⟨c, by rw [eb]; exact hc⟩
theorem GrowT.grown {B : Nat} {T : List (List Itm)} {row : Option Nat} (h : GrowT w B v T) (g : w.grownBy w' row) (h1 : ∀ k, row = some k → ¬ TyAt w k 71) (h2 : ∀ k, row = some k → ¬ TyAt w k 68) : GrowT w' B v T := by
  obtain ⟨xs, k1, k2⟩ := h
  refine ⟨xs, ⟨k1.1, ?_⟩, fun j hj => (k2 j hj).grown g h1⟩
  rcases k1.2 with k | ⟨gb, cap, cur, hv, hB, hg, hle⟩
  · exact Or.inl k
  · exact Or.inr ⟨gb, cap, cur, hv, hB, by rw [g.block gb (Array.getElem?_eq_some_iff.1 hg).1 (fun q => h2 gb q.symm ⟨cur, hg⟩)]; exact hg, hle⟩
end

/-- The tours that have been laid. -/
def Laid (w : World) (tb tcap : Nat) (T : List (List (List Itm))) : Prop := ∃ F, w.rowIs tb 115 tcap F ∧ ∀ j, j < T.length → Lists w (F j) (T[j]?.getD [])
theorem Laid.below {w w' : World} {tb tcap : Nat} {T : List (List (List Itm))} (h : Laid w tb tcap T) (b : Below w.heap.size w w') : Laid w' tb tcap T := by
  obtain ⟨F, h1, h2⟩ := h
  exact ⟨F, row_but (S := fun _ => False) h1 (But.of b) (fun q => q), fun j hj => (h2 j hj).below b (Nat.le_refl _)⟩
theorem Laid.set {w : World} {tb tcap : Nat} {T : List (List (List Itm))} (h : Laid w tb tcap T) {u : Value} {ts : List (List Itm)} (hl : Lists w u ts) : Laid (w.setCell ⟨tb, T.length, none⟩ u) tb tcap (T ++ [ts]) := by
  obtain ⟨F, h1, h2⟩ := h
  have nt := noTour_one (rowIs_ty h1) (by decide) (by decide)
  have bt := But.setCell w ⟨tb, T.length, none⟩ u
  refine ⟨_, h1.set T.length u, fun j hj => ?_⟩
  rw [List.length_append] at hj
  by_cases c : j = T.length
  · subst c
    rw [List.getElem?_append_right (Nat.le_refl _)]
    simp only [Nat.sub_self, List.getElem?_cons_zero, Option.getD_some, if_true]
    exact hl.but bt nt
  · have : j < T.length := by simp at hj; omega
    rw [List.getElem?_append_left this]
    simp only [if_neg c]
    exact (h2 j this).but bt nt

theorem walksF_len {N : Nat} {es : List Edg} {i : Nat} : ∀ {vs : List Nat} {t : List Nat} {y : List (List Itm) × List Nat}, walksF N es i vs t = some y → y.1.length = vs.length := by
  intro vs
  induction vs with
  | nil => intro t y h; rw [walksF] at h; injection h with h; rw [← h]; rfl
  | cons v vs ih =>
    intro t y h
    rw [walksF] at h
    cases c : walkF N es i v t with
    | none => rw [c] at h; simp at h
    | some x =>
      rw [c] at h
      simp only at h
      cases d : walksF N es i vs x.2 with
      | none => rw [d] at h; simp at h
      | some z =>
        rw [d] at h
        simp only at h
        injection h with h
        rw [← h]
        simp [ih d]
/-- How far walks have come. -/
def WP (N : Nat) (es : List Edg) (i : Nat) (want t1 : List Nat) (m : Nat) (ls : List (List Itm)) (ts : List Nat) : Prop := walksF N es i want t1 = match walksF N es i (want.drop m) ts with | none => none | some y => some (ls ++ y.1, y.2)
section
variable {N : Nat} {es : List Edg} {i m : Nat} {want t1 ts : List Nat} {ls : List (List Itm)}
theorem WP.start : WP N es i want t1 0 [] t1 := by
  rw [WP, List.drop_zero]
  cases walksF N es i want t1 <;> rfl
theorem walks_at (hm : m < want.length) : walksF N es i (want.drop m) ts = match walkF N es i (want[m]?.getD 0) ts with | none => none | some x => (match walksF N es i (want.drop (m + 1)) x.2 with | none => none | some y => some (x.1 :: y.1, y.2)) := by
  rw [List.drop_eq_getElem_cons hm, get_eq hm, walksF]
  cases walkF N es i want[m] ts with
  | none => rfl
  | some x => simp only; cases walksF N es i (want.drop (m + 1)) x.2 <;> rfl
theorem WP.step (h : WP N es i want t1 m ls ts) (hm : m < want.length) {l : List Itm} {r : List Nat} (hw : walkF N es i (want[m]?.getD 0) ts = some (l, r)) : WP N es i want t1 (m + 1) (ls ++ [l]) r := by
  rw [WP, walks_at hm, hw] at h
  rw [WP, h]
  simp only
  cases walksF N es i (want.drop (m + 1)) r <;> simp
theorem WP.fail (h : WP N es i want t1 m ls ts) (hm : m < want.length) (hw : walkF N es i (want[m]?.getD 0) ts = none) : walksF N es i want t1 = none := by
  rw [WP, walks_at hm, hw] at h
  exact h
theorem WP.end_ (h : WP N es i want t1 m ls ts) (hm : want.length ≤ m) : walksF N es i want t1 = some (ls, ts) := by
  rw [WP, List.drop_eq_nil_of_le hm, walksF] at h
  rw [h]; simp
end
/-- How far levels have come. -/
def TP (N : Nat) (es : List Edg) (nt : Nat) (t : List Nat) (T : List (List (List Itm))) (ts : List Nat) : Prop := toursG N es nt 0 t = match toursG N es (nt - T.length) T.length ts with | none => none | some y => some (T ++ y.1, y.2)
section
variable {N : Nat} {es : List Edg} {nt : Nat} {t ts : List Nat} {T : List (List (List Itm))}
theorem TP.start : TP N es nt t [] t := by
  rw [TP]
  show toursG N es nt 0 t = match toursG N es nt 0 t with | none => none | some y => some ([] ++ y.1, y.2)
  cases toursG N es nt 0 t <;> rfl
theorem tours_at {i : Nat} (hi : i < nt) : toursG N es (nt - i) i ts = match lvlF N es i ts with | none => none | some x => (match toursG N es (nt - (i + 1)) (i + 1) x.2 with | none => none | some y => some (x.1 :: y.1, y.2)) := by
  rw [show nt - i = (nt - (i + 1)) + 1 from by omega, toursG]
  cases lvlF N es i ts with
  | none => rfl
  | some x => simp only; cases toursG N es (nt - (i + 1)) (i + 1) x.2 <;> rfl
theorem TP.step (h : TP N es nt t T ts) (hi : T.length < nt) {l : List (List Itm)} {r : List Nat} (hw : lvlF N es T.length ts = some (l, r)) : TP N es nt t (T ++ [l]) r := by
  rw [TP, tours_at hi, hw] at h
  rw [TP, h, List.length_append]
  simp only [List.length_cons, List.length_nil, Nat.zero_add]
  cases toursG N es (nt - (T.length + 1)) (T.length + 1) r <;> simp
theorem TP.fail (h : TP N es nt t T ts) (hi : T.length < nt) (hn : nt = Nat.log2 N + 1) (hw : lvlF N es T.length ts = none) : toursF N es t = none := by
  rw [TP, tours_at hi, hw] at h
  rw [toursF, ← hn, h]
theorem TP.end_ (h : TP N es nt t T ts) (hi : nt ≤ T.length) (hn : nt = Nat.log2 N + 1) : toursF N es t = if ts = [] then some T else none := by
  rw [TP, show nt - T.length = 0 from by omega, toursG] at h
  rw [toursF, ← hn, h]
  simp
theorem lvl_no {i : Nat} (h : ts = []) : lvlF N es i ts = none := by rw [h]; rfl
theorem lvl_bad {i : Nat} (h : ts[0]?.getD 0 ≠ (wantsF N es i).length) : lvlF N es i ts = none := by
  cases ts with
  | nil => rfl
  | cons x ts => rw [lvlF, if_neg (by simpa using h)]
theorem lvl_none {i : Nat} (h : walksF N es i (wantsF N es i) (ts.drop 1) = none) : lvlF N es i ts = none := by
  cases ts with
  | nil => rfl
  | cons x ts =>
    rw [lvlF]
    split
    · rw [List.drop_succ_cons, List.drop_zero] at h; rw [h]
    · rfl
theorem lvl_some {i : Nat} {ls : List (List Itm)} {r : List Nat} (hl : 0 < ts.length) (h : ts[0]?.getD 0 = (wantsF N es i).length) (hw : walksF N es i (wantsF N es i) (ts.drop 1) = some (ls, r)) : lvlF N es i ts = some ((onesV N es i).map oneT ++ ls, r) := by
  cases ts with
  | nil => simp at hl
  | cons x ts => rw [List.drop_succ_cons, List.drop_zero] at hw; rw [lvlF, if_pos (by simpa using h), hw]
end
theorem filt_step (p : Nat → Bool) (k : Nat) : (List.range (k + 1)).filter p = (List.range k).filter p ++ if p k = true then [k] else [] := by
  rw [List.range_succ, List.filter_append]
  by_cases c : p k = true <;> simp [c]
theorem all_step (p : Nat → Bool) (k : Nat) : (List.range (k + 1)).all p = ((List.range k).all p && p k) := by
  rw [List.range_succ, List.all_append]; simp

theorem walkF_sub {N : Nat} {es : List Edg} {i v : Nat} {t r : List Nat} {l : List Itm} (h : walkF N es i v t = some (l, r)) : ∀ n, n ∈ r → n ∈ t := by
  rw [walkF] at h
  split at h
  · injection h with h
    injection h with _ h
    rw [← h]; exact fun n hn => List.mem_of_mem_drop hn
  · simp at h
theorem walkF_ne {N : Nat} {es : List Edg} {i v : Nat} {t r : List Nat} {l : List Itm} (h : walkF N es i v t = some (l, r)) : l ≠ [] := by
  rw [walkF] at h
  split at h
  · injection h with h
    injection h with h _
    rw [← h, walkOut]; simp
  · simp at h
theorem lvl_ne {N : Nat} {es : List Edg} {i : Nat} {ts r : List Nat} {l : List (List Itm)} (h1 : 1 ≤ N) (h : lvlF N es i ts = some (l, r)) : l ≠ [] := by
  cases ts with
  | nil => simp [lvlF] at h
  | cons x ts =>
    rw [lvlF] at h
    split at h
    · cases d : walksF N es i (wantsF N es i) ts with
      | none => rw [d] at h; simp at h
      | some y =>
        rw [d] at h
        simp only at h
        injection h with h
        injection h with h _
        obtain ⟨v, v1, v2, _⟩ := lst_ex (N := N) (es := es) (i := i) 0 (by omega)
        rw [← h]
        intro q
        rw [List.append_eq_nil_iff] at q
        by_cases c : 1 < (compV N es i v).length
        · have hl := walksF_len d
          rw [q.2] at hl
          have : v ∈ wantsF N es i := wantsF_mem.2 ⟨v1, v2, c⟩
          have e0 : wantsF N es i = [] := List.eq_nil_of_length_eq_zero (by rw [← hl]; rfl)
          rw [e0] at this
          simp at this
        · have : oneT v ∈ (onesV N es i).map oneT := List.mem_map.2 ⟨v, onesV_mem.2 ⟨v1, v2, c⟩, rfl⟩
          rw [q.1] at this
          simp at this
    · simp at h

/-- What tours answers. -/
def ToursX (g N : Nat) (es : List Edg) (ev : Value) (tb nt tcap : Nat) (pr : Int) (t : List Nat) (w : World) (e : Ending) (w' : World) : Prop := e = .returned (.bool (toursF N es t).isSome) ∧ GW w' g N es ev tb nt tcap pr ∧ But (fun k => k = tb) w w' ∧ ∀ T, toursF N es t = some T → Laid w' tb tcap T
theorem toursX_no {g N : Nat} {es : List Edg} {ev : Value} {tb nt tcap : Nat} {pr : Int} {t : List Nat} {w w' : World} (h : toursF N es t = none) (hG : GW w' g N es ev tb nt tcap pr) (hb : But (fun k => k = tb) w w') : ToursX g N es ev tb nt tcap pr t w (.returned (.bool false)) w' :=
  ⟨by rw [h]; rfl, hG, hb, fun T q => by rw [h] at q; simp at q⟩

set_option maxRecDepth 100000 in
set_option maxHeartbeats 2000000 in
theorem tours_F (w : World) (g N : Nat) (es : List Edg) (ev : Value) (tb nt tcap : Nat) (pr : Int) (h : GW w g N es ev tb nt tcap pr) (tv : Value) (t : List Nat) (hT : Lf w tv t) (hes : es.length ≤ 2 ^ 20) (hnt : nt = Nat.log2 N + 1) :
    Calls Tryz.prog 57 #[ptr g, tv] w (ToursX g N es ev tb nt tcap pr t w) := by
  have HNt := hid hnt
  clear hnt
  have n48 := h.n48
  have n6 := h.nt6
  have d2 := h.c2
  have ntl := h.tl
  have ntm := h.tm
  unfold maxLen at ntm
  have HN1 := hid h.n1
  have HG := hid h
  have HT := hid hT
  clear h hT
  obtain ⟨i3, q0, q1, q2, q3⟩ := info_parts Tryz.info3
  obtain ⟨i71, p0, p1, p2, p3⟩ := info_parts Tryz.info68
  go_enter Tryz.func57, Tryz.ntmps57
  go_wp2_with fail
  clear d2
  go_loopw [1, 23] (fun a c wr => ∃ (i : Nat) (ts : List Nat) (T : List (List (List Itm))), i ≤ nt ∧ c = .int .i64 i ∧ Hid (T.length = i) ∧ Hid (TP N es nt t T ts) ∧ Hid (Laid wr tb tcap T) ∧ Hid (Lf wr a ts) ∧ Hid (GW wr g N es ev tb nt tcap pr) ∧ Hid (But (fun k => k = tb) w wr)) (fun _ c _ => nt - (intOf c).toNat)
  case atStart => exact ⟨0, t, [], by omega, rfl, rfl, TP.start, (by obtain ⟨F, hF⟩ := HG.out.rt; exact ⟨F, hF, fun j hj => by simp at hj⟩), HT, HG, But.refl _ _⟩
  case round =>
    clear HG HT
    obtain ⟨i, ts, T, hi, rfl, HTl, HTP, hLd, hL, hG, hBt⟩ := hrel
    by_cases ci : i < nt
    · have ci' : (i : Int) < (nt : Int) := by omega
      obtain ⟨w1, hw1⟩ : ∃ w1 : World, w1 = wr := ⟨_, rfl⟩
      rw [← hw1] at hL hG hBt hLd ⊢
      clear hw1 wr
      go_wp2_with fail
      go_loopw [6, 7, 8] (fun a b c wr => ∃ (v : Nat) (on : List (List Itm)) (want : List Nat), v ≤ N ∧ c = .int .i64 v ∧ want.length ≤ v ∧ on.length ≤ v ∧ Hid (∀ x, x ∈ want → x < N) ∧ Hid (want = (List.range v).filter fun v => isLst N es i v && decide (1 < (compV N es i v).length)) ∧ Hid (on = ((List.range v).filter fun v => isLst N es i v && !decide (1 < (compV N es i v).length)).map oneT) ∧ Hid (NumsAt wr w1.heap.size a want) ∧ Hid (GrowT wr w1.heap.size b on) ∧ Hid (Below w1.heap.size w1 wr)) (fun _ _ c _ => N - (intOf c).toNat)
      case atStart => exact ⟨0, [], [], by omega, rfl, by simp, by simp, fun x hx => by simp at hx, rfl, rfl, ⟨World.ownsRow_nil _ _ _ _, fun n hn => by simp at hn⟩, GrowT.nil, Below.refl _ _⟩
      case round =>
        obtain ⟨v, on, want, hv, rfl, hwl, hkv, hW, HWq, HOq, hN, hS, hB⟩ := hrel
        have hBs := hB.out.size
        have HGr := hid (hG.out.below hB.out)
        have d0 := HGr.out.c0
        by_cases cv : v < N
        · have cv' : (v : Int) < (N : Int) := by omega
          go_wp2_with fail
          refine (Component_any g N v i true es ev wr HGr.out.c0 HGr.out.c1 HGr.out.ed n48 (by omega) cv' HGr.out.inr).mono ?_
          rintro e w2 ⟨rfl, ⟨r, hR, hr⟩, hb2⟩
          have HRi : Hid (∀ x, x < N → r x = inI es i v x) := fun x hx => r_in hr hx
          clear hr
          have HR := hid hR
          have HB2 : Hid (Below w1.heap.size w1 w2) := hB.out.trans (hb2.mono hBs)
          have HN2 := hid (hN.out.below hb2 (Nat.le_refl _))
          have HS2 := hid (hS.out.below hb2 (Nat.le_refl _))
          have hB2s := HB2.out.size
          clear hR hb2 d0 hN hS hB HGr
          go_wp2_with fail
          go_loopw [10, 11, 40] (fun a b c wr => ∃ (s : Nat) (f : Bool) (j : Nat), j ≤ N ∧ s ≤ j ∧ a = .int .i64 s ∧ b = .bool f ∧ c = .int .i64 j ∧ wr = w2 ∧ Hid (s = ((List.range j).filter fun u : Nat => inI es i v u).length) ∧ Hid (f = (List.range j).all fun u : Nat => !inI es i v u || decide (v ≤ u))) (fun _ _ c _ => N - (intOf c).toNat)
          case atStart => exact ⟨0, true, 0, by omega, by omega, rfl, rfl, rfl, rfl, rfl, rfl⟩
          case round =>
            obtain ⟨s, f, j, hj, hs, rfl, rfl, rfl, rfl, HSq, HFq⟩ := hrel
            by_cases cj : j < N
            · have cj' : (j : Int) < (N : Int) := by omega
              have d := World.rowIs.cell HR.out (i := j) cj
              have HS1 : Hid (((List.range (j + 1)).filter fun u : Nat => inI es i v u).length = s + if r j = true then 1 else 0) := by show _ = _; rw [comp_step, HRi.out j cj, ← HSq.out]
              have HF1 : Hid (((List.range (j + 1)).all fun u : Nat => !inI es i v u || decide (v ≤ u)) = (f && (!r j || decide (v ≤ j)))) := by show _ = _; rw [all_step, HRi.out j cj, ← HFq.out]
              generalize r j = rj at d HS1 HF1
              cases rj
              · have HS3 : Hid (s = ((List.range (j + 1)).filter fun u : Nat => inI es i v u).length) := by show _ = _; rw [HS1.out]; simp
                have HF3 : Hid (f = (List.range (j + 1)).all fun u : Nat => !inI es i v u || decide (v ≤ u)) := by show _ = _; rw [HF1.out]; simp
                clear HS1 HF1 HSq HFq
                go_wp2
                exact ⟨⟨s, f, j + 1, by omega, by omega, rfl, rfl, by go_num, by trivial, HS3, HF3⟩, by simp [intOf]; omega⟩
              · have HS3 : Hid (s + 1 = ((List.range (j + 1)).filter fun u : Nat => inI es i v u).length) := by show _ = _; rw [HS1.out]; simp
                clear HS1 HSq
                cases f
                · have HF3 : Hid (false = (List.range (j + 1)).all fun u : Nat => !inI es i v u || decide (v ≤ u)) := by show _ = _; rw [HF1.out]; simp
                  clear HF1 HFq
                  go_wp2
                  exact ⟨⟨s + 1, false, j + 1, by omega, by omega, by go_num, rfl, by go_num, by trivial, HS3, HF3⟩, by simp [intOf]; omega⟩
                · by_cases cvj : v ≤ j
                  · have cvj' : decide ((v : Int) ≤ (j : Int)) = true := by simp; omega
                    have HF3 : Hid (true = (List.range (j + 1)).all fun u : Nat => !inI es i v u || decide (v ≤ u)) := by show _ = _; rw [HF1.out]; simp [cvj]
                    clear HF1 HFq
                    go_wp2
                    exact ⟨⟨s + 1, true, j + 1, by omega, by omega, by go_num, by first | rfl | (rw [cvj']), by go_num, by trivial, HS3, HF3⟩, by simp [intOf]; omega⟩
                  · have cvj' : decide ((v : Int) ≤ (j : Int)) = false := by simp; omega
                    have HF3 : Hid (false = (List.range (j + 1)).all fun u : Nat => !inI es i v u || decide (v ≤ u)) := by show _ = _; rw [HF1.out]; simp [cvj]
                    clear HF1 HFq
                    go_wp2
                    exact ⟨⟨s + 1, false, j + 1, by omega, by omega, by go_num, by first | rfl | (rw [cvj']), by go_num, by trivial, HS3, HF3⟩, by simp [intOf]; omega⟩
            · have cj' : ¬ (j : Int) < (N : Int) := by omega
              have HF3 : Hid (isLst N es i v = f) := by show _ = _; rw [HFq.out, show j = N by omega]; rfl
              have HS3 : Hid ((compV N es i v).length = s) := by show _ = _; rw [HSq.out, show j = N by omega]; rfl
              have HW1 := hid (filt_step (fun v => isLst N es i v && decide (1 < (compV N es i v).length)) v)
              have HO1 := hid (filt_step (fun v => isLst N es i v && !decide (1 < (compV N es i v).length)) v)
              rw [HF3.out, HS3.out, ← HWq.out] at HW1
              rw [HF3.out, HS3.out] at HO1
              clear HFq HSq HF3 HS3
              cases f
              · have HW2 : Hid (want = (List.range (v + 1)).filter fun v => isLst N es i v && decide (1 < (compV N es i v).length)) := by show _ = _; rw [HW1.out]; simp
                have HO2 : Hid (on = ((List.range (v + 1)).filter fun v => isLst N es i v && !decide (1 < (compV N es i v).length)).map oneT) := by show _ = _; rw [HO1.out, HOq.out]; simp
                clear HW1 HO1 HWq HOq
                go_wp2
                exact ⟨⟨v + 1, on, want, by omega, by go_num, by omega, by omega, hW, HW2, HO2, HN2, HS2, HB2⟩, by simp [intOf]; omega⟩
              · by_cases c1 : 1 < s
                · have c1' : (1 : Int) < (s : Int) := by omega
                  have HW2 : Hid (want ++ [v] = (List.range (v + 1)).filter fun v => isLst N es i v && decide (1 < (compV N es i v).length)) := by show _ = _; rw [HW1.out]; simp [c1]
                  have HO2 : Hid (on = ((List.range (v + 1)).filter fun v => isLst N es i v && !decide (1 < (compV N es i v).length)).map oneT) := by show _ = _; rw [HO1.out, HOq.out]; simp [c1]
                  clear HW1 HO1 HWq HOq
                  have HM : Hid (want.length + 1 ≤ maxLen) := by show _ ≤ _; unfold maxLen; omega
                  go_wp2_with (at_builtin; refine wpList_append_own _ rfl (.tmp 62) (.tmp 64) 25 rfl w1.heap.size 3 i3 _ 1 8 Tryz.underlying25 q0 q1 q2 q3 rfl (by decide) _ want.length _ rfl (HN2.out.1.alloc _) ⟨wr.heap.size, 0, none⟩ 1 1 [.int .i64 v] rfl rfl (one_cell wr _ _) (fun y hy => by simp at hy; subst hy; rfl) HM.out (by omega) (by simp; omega) ?_; intro v' w3 ho hg _)
                  have R1 : NumsAt w3 w1.heap.size v' (want ++ [v]) := by
                    refine ⟨by rw [List.length_append, List.map_append]; exact ho, fun m hm => ?_⟩
                    rcases List.mem_append.1 hm with q | q
                    · exact HN2.out.2 m q
                    · simp at q; omega
                  have R2 : Below w1.heap.size w1 w3 := (HB2.out.alloc hB2s _).grown hg (by simp; omega) (fun k hk => (HN2.out.1.lt k hk).1)
                  have R3 : GrowT w3 w1.heap.size u7 on := (HS2.out.below ((Below.refl _ _).alloc (Nat.le_refl _) _) (Nat.le_refl _)).grown hg (owns_not (HN2.out.1.alloc _) (by decide)) (owns_not (HN2.out.1.alloc _) (by decide))
                  have R4 : ∀ x, x ∈ want ++ [v] → x < N := fun x hx => by
                    rcases List.mem_append.1 hx with q | q
                    · exact hW.out x q
                    · simp at q; omega
                  exact ⟨⟨v + 1, on, want ++ [v], by omega, by go_num, by rw [List.length_append]; simp; omega, by omega, R4, HW2, HO2, R1, R3, R2⟩, by simp [intOf]; omega⟩
                · have c1' : ¬ (1 : Int) < (s : Int) := by omega
                  have HW2 : Hid (want = (List.range (v + 1)).filter fun v => isLst N es i v && decide (1 < (compV N es i v).length)) := by show _ = _; rw [HW1.out]; simp [c1]
                  have HO2 : Hid (on ++ [oneT v] = ((List.range (v + 1)).filter fun v => isLst N es i v && !decide (1 < (compV N es i v).length)).map oneT) := by show _ = _; rw [HO1.out, HOq.out]; simp [c1]
                  clear HW1 HO1 HWq HOq
                  obtain ⟨xs, hxs, hit⟩ := HS2.out
                  have HXs := hid hxs
                  have HIt := hid hit
                  clear hit
                  have HM : Hid (on.length + 1 ≤ maxLen) := by show _ ≤ _; unfold maxLen; omega
                  clear hxs
                  go_wp2_with (at_builtin; refine wpList_append_own _ rfl (.tmp 68) (.tmp 72) 115 rfl w1.heap.size 68 i71 (.slice none 0 0) 1 24 Tryz.underlying115 p0 p1 p2 p3 rfl (by decide) _ on.length xs rfl ((HXs.out.alloc _).alloc _) ⟨wr.heap.size + 1, 0, none⟩ 1 1 [.slice (some ⟨wr.heap.size, 0, none⟩) 1 1] rfl rfl (fun j y hj => by match j, hj with | 0, hj => (simp at hj; subst hj; rw [addr_add, show wr.heap.size + 1 = (wr.alloc (.cells #[.int .i64 v, .int .i64 (-1)] 71)).heap.size by simp]; exact new_cell _ _ _ 0)) (fun y hy => by simp at hy; subst hy; rfl) HM.out (by omega) (by simp; omega) ?_; intro v' w3 ho hg _)
                  have R2 : Below w1.heap.size w1 w3 := ((HB2.out.alloc hB2s _).alloc (by simp; omega) _).grown hg (by simp; omega) (fun k hk => (HXs.out.lt k hk).1)
                  have R1 : NumsAt w3 w1.heap.size u6 want := ((HN2.out.below ((Below.refl _ _).alloc (Nat.le_refl _) _) (Nat.le_refl _)).below ((Below.refl _ _).alloc (Nat.le_refl _) _) (Nat.le_refl _)).grown hg (owns_not ((HXs.out.alloc _).alloc _) (by decide))
                  have R3 : GrowT w3 w1.heap.size v' (on ++ [oneT v]) := GrowT.add ((HXs.out.alloc _).alloc _) (fun j hj => ((HIt.out j hj).below ((Below.refl _ _).alloc (Nat.le_refl _) _) (Nat.le_refl _)).below ((Below.refl _ _).alloc (Nat.le_refl _) _) (Nat.le_refl _)) (one_item wr v _) ho hg
                  exact ⟨⟨v + 1, on ++ [oneT v], want, by omega, by go_num, by omega, by rw [List.length_append]; simp; omega, hW, HW2, HO2, R1, R3, R2⟩, by simp [intOf]; omega⟩
        · have cv' : ¬ (v : Int) < (N : Int) := by omega
          have HL := hid (hL.out.below hB.out)
          have HWf : Hid (want = wantsF N es i) := by show _ = _; rw [HWq.out, show v = N by omega]; rfl
          have HOf : Hid (on = (onesV N es i).map oneT) := by show _ = _; rw [HOq.out, show v = N by omega]; rfl
          have HCi : Hid (T.length < nt) := by show _ < _; rw [HTl.out]; exact ci
          clear HWq HOq
          have HBt : Hid (But (fun k => k = tb) w wr) := hBt.out.trans (But.of (S := fun k => k = tb) hB.out) (fun _ _ q => q)
          obtain ⟨wp, wc, hwv⟩ : ∃ p c, u6 = .slice p want.length c := by
            rcases hN.out.1.2 with ⟨q, q2⟩ | ⟨gb, cap, cur, q, _⟩
            · exact ⟨none, 0, by rw [q, q2]⟩
            · exact ⟨_, _, q⟩
          subst hwv
          rcases HL.out.form with ⟨hnil, hts0⟩ | ⟨tbk, tof, tc, htv, t1, t2, t3, t4⟩
          · subst hnil
            have HF : Hid (toursF N es t = none) := HTP.out.fail HCi.out HNt.out (by exact lvl_no hts0)
            clear hts0
            go_wp2
            go_ret
            exact toursX_no HF.out HGr.out HBt.out
          · subst htv
            unfold maxLen at t2
            obtain ⟨tn, htn0⟩ : ∃ tn, tn = ts.length := ⟨_, rfl⟩
            have HTn := hid htn0
            rw [← htn0] at t1 t3 t4 ⊢
            clear htn0
            by_cases n0 : 0 < tn
            · have y := t3 n0
              have HX0 : Hid (ts[0]?.getD 0 ≠ (wantsF N es i).length → lvlF N es T.length ts = none) := fun q => by rw [HTl.out]; exact lvl_bad q
              have HX1 : Hid (∀ ls r, ts[0]?.getD 0 = (wantsF N es i).length → walksF N es i (wantsF N es i) (ts.drop 1) = some (ls, r) → lvlF N es T.length ts = some ((onesV N es i).map oneT ++ ls, r)) := fun ls r q q2 => by rw [HTl.out]; exact lvl_some (by rw [← HTn.out]; exact n0) q q2
              generalize ts[0]?.getD 0 = x at y HX0 HX1
              have HLd : Hid (∀ o', (o' = tof + 1 ∨ tn = 1) → Lf wr (.slice (some ⟨tbk, o', none⟩) (tn - 1) (tc - 1)) (ts.drop 1)) := fun o' ho => t4 o' ho n0
              clear t3 t4
              have zn : ((tn : Int) == 0) = false := by simp; omega
              by_cases cx : (x : Int) = (want.length : Int)
              · have cx' : ((x : Int) != (want.length : Int)) = false := by simpa using cx
                have s1 : (1 : Int) ≤ (tn : Int) := by omega
                have HX2 : Hid (∀ ls r, walksF N es i (wantsF N es i) (ts.drop 1) = some (ls, r) → lvlF N es T.length ts = some ((onesV N es i).map oneT ++ ls, r)) := fun ls r => HX1.out ls r (by rw [← HWf.out]; omega)
                clear cx HX0 HX1
                have HLz : Hid (tc = 1 → Lf wr (.slice (some ⟨tbk, tof, none⟩) 0 0) (ts.drop 1)) := fun q => by
                  have q2 := HLd.out tof (Or.inr (by omega))
                  have e1 : tn - 1 = 0 := by omega
                  have e2 : tc - 1 = 0 := by omega
                  rw [e1, e2] at q2
                  exact q2
                obtain ⟨w5, hw5⟩ : ∃ w5 : World, w5 = wr := ⟨_, rfl⟩
                rw [← hw5] at hN hS hB hBs HGr d0 HL HBt y HLd HLz ⊢
                clear hw5 wr
                by_cases hcap : tc = 1
                · have htn : tn = 1 := by omega
                  subst hcap htn
                  go_wp2_with fail
                  go_loopw [1, 7, 89] (fun a b c wr => ∃ (m : Nat) (ls : List (List Itm)) (tr : List Nat), m ≤ want.length ∧ c = .int .i64 m ∧ (on ++ ls).length ≤ N + m ∧ Hid (WP N es i want (ts.drop 1) m ls tr) ∧ Hid (Lf wr a tr) ∧ Hid (GrowT wr w1.heap.size b (on ++ ls)) ∧ Hid (NumsAt wr w1.heap.size (.slice wp want.length wc) want) ∧ Hid (Below w1.heap.size w1 wr)) (fun _ _ c _ => want.length - (intOf c).toNat)
                  case atStart => exact ⟨0, [], ts.drop 1, by omega, rfl, by simp; omega, WP.start, HLz.out trivial, by rw [List.append_nil]; exact hS.out, hN, hB⟩
                  case round =>
                    clear hS HLd HLz y d0 hN hB hBs
                    obtain ⟨m, ls, tr, hm, rfl, hk2, HWP, hLr, hSr, hNr, HB1r⟩ := hrel
                    have hB1s := HB1r.out.size
                    have HGx := hid (hG.out.below HB1r.out)
                    have HBx : Hid (But (fun k => k = tb) w wr) := hBt.out.trans (But.of (S := fun k => k = tb) HB1r.out) (fun _ _ q => q)
                    by_cases cm : m < want.length
                    · have cm' : (m : Int) < (want.length : Int) := by omega
                      obtain ⟨gb, gc, hgp, _, _, hgl, hgm, _, hgd⟩ := hNr.out.at_ (by omega)
                      simp only [Value.slice.injEq, true_and] at hgp
                      obtain ⟨rfl, rfl⟩ := hgp
                      have d := hgd m cm
                      clear hgd
                      have xN : want[m]?.getD 0 < N := hW.out _ (by rw [get_eq cm]; exact List.getElem_mem cm)
                      have HSt : Hid (∀ l r, walkF N es i (want[m]?.getD 0) tr = some (l, r) → WP N es i want (ts.drop 1) (m + 1) (ls ++ [l]) r) := fun l r q => HWP.out.step cm q
                      have HFl : Hid (walkF N es i (want[m]?.getD 0) tr = none → walksF N es i want (ts.drop 1) = none) := fun q => HWP.out.fail cm q
                      obtain ⟨y, hy⟩ : ∃ y, y = want[m]?.getD 0 := ⟨_, rfl⟩
                      rw [← hy] at d xN HSt HFl
                      clear hy
                      unfold maxLen at hgm
                      go_wp2_with fail
                      obtain ⟨hts1, hts2⟩ := hLr.out
                      refine (walk_F wr g N es ev tb nt tcap pr HGx.out i y (by omega) xN _ tr hts1 hts2 hes).mono ?_
                      rintro e w6 ⟨lp, ln, lc, v2, rfl, hok, hb6⟩
                      have HB6 : Hid (Below w1.heap.size w1 w6) := HB1r.out.trans (hb6.mono hB1s)
                      have HN6 := hid (hNr.out.below hb6 (Nat.le_refl _))
                      have HG6 := hid (HGx.out.below hb6)
                      have HT6 : Hid (But (fun k => k = tb) w w6) := HBx.out.trans (But.of (S := fun k => k = tb) hb6) (fun _ _ q => q)
                      have hb6s := hb6.size
                      cases hwk : walkF N es i y tr with
                      | none =>
                        have HF : Hid (toursF N es t = none) := HTP.out.fail HCi.out HNt.out (by rw [HTl.out]; exact lvl_none (by rw [← HWf.out]; exact HFl.out hwk))
                        clear hok hb6 hts1 hts2 d hwk HSt HFl
                        simp only [Option.isSome_none]
                        go_wp2
                        go_ret
                        exact toursX_no HF.out HG6.out HT6.out
                      | some lr =>
                        obtain ⟨l, rr⟩ := lr
                        obtain ⟨hGl, hI⟩ := hok l rr hwk
                        have HWn := hid (HSt.out l rr hwk)
                        have HL6 : Hid (Lf w6 v2 rr) := ⟨hI, fun n hn => hts2 n (walkF_sub hwk n hn)⟩
                        have HIl : Hid (Items w6 (.slice lp ln lc) l) := by
                          obtain ⟨bb, cc, q1, _⟩ := items_of_owns hGl (walkF_ne hwk)
                          exact ⟨bb, 0, cc, q1⟩
                        obtain ⟨xs, hxs, hit⟩ := hSr.out.below hb6 (Nat.le_refl _)
                        have HXs := hid hxs
                        have HIt := hid hit
                        have HM : Hid ((on ++ ls).length + 1 ≤ maxLen) := by show _ ≤ _; unfold maxLen; omega
                        clear hok hb6 hts1 hts2 d hI hxs hit hGl hwk HSt HFl
                        simp only [Option.isSome_some]
                        go_wp2_with (at_builtin; refine wpList_append_own _ rfl (.tmp 104) (.tmp 106) 115 rfl w1.heap.size 68 i71 (.slice none 0 0) 1 24 Tryz.underlying115 p0 p1 p2 p3 rfl (by decide) _ (on ++ ls).length xs rfl (HXs.out.alloc _) ⟨w6.heap.size, 0, none⟩ 1 1 [.slice lp ln lc] rfl rfl (one_cell w6 _ _) (fun y hy => by simp at hy; subst hy; rfl) HM.out (by omega) (by simp; omega) ?_; intro v' w7 ho hg _)
                        have R1 : Lf w7 v2 rr := (HL6.out.below ((Below.refl _ _).alloc (Nat.le_refl _) _)).grown hg (owns_not (HXs.out.alloc _) (by decide))
                        have R2 : Below w1.heap.size w1 w7 := (HB6.out.alloc (by omega) _).grown hg (by simp; omega) (fun k hk => (HXs.out.lt k hk).1)
                        have R3 := (HN6.out.below ((Below.refl _ _).alloc (Nat.le_refl _) _) (Nat.le_refl _)).grown hg (owns_not (HXs.out.alloc _) (by decide))
                        have R4 : GrowT w7 w1.heap.size v' ((on ++ ls) ++ [l]) := GrowT.add (HXs.out.alloc _) (fun j hj => (HIt.out j hj).below ((Below.refl _ _).alloc (Nat.le_refl _) _) (Nat.le_refl _)) (HIl.out.below ((Below.refl _ _).alloc (Nat.le_refl _) _) (Nat.le_refl _)) ho hg
                        rw [List.append_assoc] at R4
                        exact ⟨⟨m + 1, ls ++ [l], rr, by omega, by go_num, by rw [← List.append_assoc, List.length_append]; simp only [List.length_cons, List.length_nil]; omega, HWn, R1, R4, R3, R2⟩, by simp [intOf]; omega⟩
                    · have cm' : ¬ (m : Int) < (want.length : Int) := by omega
                      have e2 := HGx.out.c2
                      obtain ⟨tv0, e3⟩ := HGx.out.cT i ci
                      have e4 := HGx.out.frT
                      have HLl : Hid (lvlF N es T.length ts = some (on ++ ls, tr)) := by
                        have q := HWP.out.end_ (by omega)
                        rw [HWf.out] at q
                        show _ = _
                        rw [HX2.out ls tr q, HOf.out]
                      have HLs : Hid (Lists wr u7 (on ++ ls)) := hSr.out.lists (lvl_ne HN1.out HLl.out)
                      have HLd6 := hid (hLd.out.below HB1r.out)
                      obtain ⟨xs, hxs, _⟩ := hSr.out
                      obtain ⟨sp, sn, sc, hsv⟩ := owns_form hxs
                      clear hxs
                      subst hsv
                      have HTn2 : Hid (TP N es nt t (T ++ [on ++ ls]) tr ∧ (T ++ [on ++ ls]).length = i + 1) := ⟨HTP.out.step HCi.out HLl.out, by rw [List.length_append, HTl.out]; rfl⟩
                      have HLd7 := hid (HLd6.out.set HLs.out)
                      rw [HTl.out] at HLd7
                      go_wp2
                      exact ⟨⟨i + 1, tr, T ++ [on ++ ls], by omega, by go_num, HTn2.out.2, HTn2.out.1, HLd7, hLr.out.set HGx.out.tyT (by decide) _ _, HGx.out.set _ _, HBx.out.trans (But.setCell _ _ _) (fun _ _ q => q)⟩, by simp [intOf]; omega⟩
                · go_wp2_with fail
                  go_loopw [1, 7, 89] (fun a b c wr => ∃ (m : Nat) (ls : List (List Itm)) (tr : List Nat), m ≤ want.length ∧ c = .int .i64 m ∧ (on ++ ls).length ≤ N + m ∧ Hid (WP N es i want (ts.drop 1) m ls tr) ∧ Hid (Lf wr a tr) ∧ Hid (GrowT wr w1.heap.size b (on ++ ls)) ∧ Hid (NumsAt wr w1.heap.size (.slice wp want.length wc) want) ∧ Hid (Below w1.heap.size w1 wr)) (fun _ _ c _ => want.length - (intOf c).toNat)
                  case atStart => exact ⟨0, [], ts.drop 1, by omega, rfl, by simp; omega, WP.start, HLd.out _ (Or.inl rfl), by rw [List.append_nil]; exact hS.out, hN, hB⟩
                  case round =>
                    clear hS HLd HLz y d0 hN hB hBs
                    obtain ⟨m, ls, tr, hm, rfl, hk2, HWP, hLr, hSr, hNr, HB1r⟩ := hrel
                    have hB1s := HB1r.out.size
                    have HGx := hid (hG.out.below HB1r.out)
                    have HBx : Hid (But (fun k => k = tb) w wr) := hBt.out.trans (But.of (S := fun k => k = tb) HB1r.out) (fun _ _ q => q)
                    by_cases cm : m < want.length
                    · have cm' : (m : Int) < (want.length : Int) := by omega
                      obtain ⟨gb, gc, hgp, _, _, hgl, hgm, _, hgd⟩ := hNr.out.at_ (by omega)
                      simp only [Value.slice.injEq, true_and] at hgp
                      obtain ⟨rfl, rfl⟩ := hgp
                      have d := hgd m cm
                      clear hgd
                      have xN : want[m]?.getD 0 < N := hW.out _ (by rw [get_eq cm]; exact List.getElem_mem cm)
                      have HSt : Hid (∀ l r, walkF N es i (want[m]?.getD 0) tr = some (l, r) → WP N es i want (ts.drop 1) (m + 1) (ls ++ [l]) r) := fun l r q => HWP.out.step cm q
                      have HFl : Hid (walkF N es i (want[m]?.getD 0) tr = none → walksF N es i want (ts.drop 1) = none) := fun q => HWP.out.fail cm q
                      obtain ⟨y, hy⟩ : ∃ y, y = want[m]?.getD 0 := ⟨_, rfl⟩
                      rw [← hy] at d xN HSt HFl
                      clear hy
                      unfold maxLen at hgm
                      go_wp2_with fail
                      obtain ⟨hts1, hts2⟩ := hLr.out
                      refine (walk_F wr g N es ev tb nt tcap pr HGx.out i y (by omega) xN _ tr hts1 hts2 hes).mono ?_
                      rintro e w6 ⟨lp, ln, lc, v2, rfl, hok, hb6⟩
                      have HB6 : Hid (Below w1.heap.size w1 w6) := HB1r.out.trans (hb6.mono hB1s)
                      have HN6 := hid (hNr.out.below hb6 (Nat.le_refl _))
                      have HG6 := hid (HGx.out.below hb6)
                      have HT6 : Hid (But (fun k => k = tb) w w6) := HBx.out.trans (But.of (S := fun k => k = tb) hb6) (fun _ _ q => q)
                      have hb6s := hb6.size
                      cases hwk : walkF N es i y tr with
                      | none =>
                        have HF : Hid (toursF N es t = none) := HTP.out.fail HCi.out HNt.out (by rw [HTl.out]; exact lvl_none (by rw [← HWf.out]; exact HFl.out hwk))
                        clear hok hb6 hts1 hts2 d hwk HSt HFl
                        simp only [Option.isSome_none]
                        go_wp2
                        go_ret
                        exact toursX_no HF.out HG6.out HT6.out
                      | some lr =>
                        obtain ⟨l, rr⟩ := lr
                        obtain ⟨hGl, hI⟩ := hok l rr hwk
                        have HWn := hid (HSt.out l rr hwk)
                        have HL6 : Hid (Lf w6 v2 rr) := ⟨hI, fun n hn => hts2 n (walkF_sub hwk n hn)⟩
                        have HIl : Hid (Items w6 (.slice lp ln lc) l) := by
                          obtain ⟨bb, cc, q1, _⟩ := items_of_owns hGl (walkF_ne hwk)
                          exact ⟨bb, 0, cc, q1⟩
                        obtain ⟨xs, hxs, hit⟩ := hSr.out.below hb6 (Nat.le_refl _)
                        have HXs := hid hxs
                        have HIt := hid hit
                        have HM : Hid ((on ++ ls).length + 1 ≤ maxLen) := by show _ ≤ _; unfold maxLen; omega
                        clear hok hb6 hts1 hts2 d hI hxs hit hGl hwk HSt HFl
                        simp only [Option.isSome_some]
                        go_wp2_with (at_builtin; refine wpList_append_own _ rfl (.tmp 104) (.tmp 106) 115 rfl w1.heap.size 68 i71 (.slice none 0 0) 1 24 Tryz.underlying115 p0 p1 p2 p3 rfl (by decide) _ (on ++ ls).length xs rfl (HXs.out.alloc _) ⟨w6.heap.size, 0, none⟩ 1 1 [.slice lp ln lc] rfl rfl (one_cell w6 _ _) (fun y hy => by simp at hy; subst hy; rfl) HM.out (by omega) (by simp; omega) ?_; intro v' w7 ho hg _)
                        have R1 : Lf w7 v2 rr := (HL6.out.below ((Below.refl _ _).alloc (Nat.le_refl _) _)).grown hg (owns_not (HXs.out.alloc _) (by decide))
                        have R2 : Below w1.heap.size w1 w7 := (HB6.out.alloc (by omega) _).grown hg (by simp; omega) (fun k hk => (HXs.out.lt k hk).1)
                        have R3 := (HN6.out.below ((Below.refl _ _).alloc (Nat.le_refl _) _) (Nat.le_refl _)).grown hg (owns_not (HXs.out.alloc _) (by decide))
                        have R4 : GrowT w7 w1.heap.size v' ((on ++ ls) ++ [l]) := GrowT.add (HXs.out.alloc _) (fun j hj => (HIt.out j hj).below ((Below.refl _ _).alloc (Nat.le_refl _) _) (Nat.le_refl _)) (HIl.out.below ((Below.refl _ _).alloc (Nat.le_refl _) _) (Nat.le_refl _)) ho hg
                        rw [List.append_assoc] at R4
                        exact ⟨⟨m + 1, ls ++ [l], rr, by omega, by go_num, by rw [← List.append_assoc, List.length_append]; simp only [List.length_cons, List.length_nil]; omega, HWn, R1, R4, R3, R2⟩, by simp [intOf]; omega⟩
                    · have cm' : ¬ (m : Int) < (want.length : Int) := by omega
                      have e2 := HGx.out.c2
                      obtain ⟨tv0, e3⟩ := HGx.out.cT i ci
                      have e4 := HGx.out.frT
                      have HLl : Hid (lvlF N es T.length ts = some (on ++ ls, tr)) := by
                        have q := HWP.out.end_ (by omega)
                        rw [HWf.out] at q
                        show _ = _
                        rw [HX2.out ls tr q, HOf.out]
                      have HLs : Hid (Lists wr u7 (on ++ ls)) := hSr.out.lists (lvl_ne HN1.out HLl.out)
                      have HLd6 := hid (hLd.out.below HB1r.out)
                      obtain ⟨xs, hxs, _⟩ := hSr.out
                      obtain ⟨sp, sn, sc, hsv⟩ := owns_form hxs
                      clear hxs
                      subst hsv
                      have HTn2 : Hid (TP N es nt t (T ++ [on ++ ls]) tr ∧ (T ++ [on ++ ls]).length = i + 1) := ⟨HTP.out.step HCi.out HLl.out, by rw [List.length_append, HTl.out]; rfl⟩
                      have HLd7 := hid (HLd6.out.set HLs.out)
                      rw [HTl.out] at HLd7
                      go_wp2
                      exact ⟨⟨i + 1, tr, T ++ [on ++ ls], by omega, by go_num, HTn2.out.2, HTn2.out.1, HLd7, hLr.out.set HGx.out.tyT (by decide) _ _, HGx.out.set _ _, HBx.out.trans (But.setCell _ _ _) (fun _ _ q => q)⟩, by simp [intOf]; omega⟩
              · have cx' : ((x : Int) != (want.length : Int)) = true := by simpa using cx
                have HF : Hid (toursF N es t = none) := HTP.out.fail HCi.out HNt.out (HX0.out (by rw [← HWf.out]; omega))
                go_wp2
                go_ret
                exact toursX_no HF.out HGr.out HBt.out
            · have hn0 : tn = 0 := by omega
              have HF : Hid (toursF N es t = none) := HTP.out.fail HCi.out HNt.out (lvl_no (List.eq_nil_of_length_eq_zero (by rw [← HTn.out]; exact hn0)))
              clear HTn
              subst hn0
              go_wp2
              go_ret
              exact toursX_no HF.out HGr.out HBt.out
    · have ci' : ¬ (i : Int) < (nt : Int) := by omega
      obtain ⟨lp, lc, hlv⟩ : ∃ p c, u1 = .slice p ts.length c := by
        rcases hL.out.1 with ⟨q, q2⟩ | ⟨b, o, cap, q, _⟩
        · exact ⟨_, _, by rw [q, q2]; rfl⟩
        · exact ⟨_, _, q⟩
      subst hlv
      have HE := hid (HTP.out.end_ (by rw [HTl.out]; omega) HNt.out)
      clear HTP
      by_cases z : ts.length = 0
      · have z1 : ((ts.length : Int) == 0) = true := by simp; exact List.eq_nil_of_length_eq_zero z
        have HE2 : Hid (toursF N es t = some T) := by show _ = _; rw [HE.out, if_pos (List.eq_nil_of_length_eq_zero z)]
        clear HE z
        go_wp2
        go_ret
        exact ⟨by rw [HE2.out]; rfl, hG.out, hBt.out, fun T' q => by rw [HE2.out] at q; injection q with q; rw [← q]; exact hLd.out⟩
      · have z1 : ((ts.length : Int) == 0) = false := by simp; exact fun q => z (by rw [q]; rfl)
        have HE2 : Hid (toursF N es t = none) := by show _ = _; rw [HE.out, if_neg (fun q => z (by rw [q]; rfl))]
        clear HE z
        go_wp2
        go_ret
        exact toursX_no HE2.out hG.out hBt.out

end Go.Proofs.YtckallochdegiaaGreat
