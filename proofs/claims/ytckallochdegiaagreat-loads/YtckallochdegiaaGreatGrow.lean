import Derived.Test.YtckallochdegiaaGreatDeleteW
import Derived.Test.YtckallochdegiaaGreatAppend
namespace Go.Proofs.YtckallochdegiaaGreat
set_option linter.unusedVariables false
set_option linter.unusedSimpArgs false
open Go.RowKit

/-- A block that is no tour's, grown: the items stay. -/
theorem Items.grown {w w' : World} {row : Option Nat} {v : Value} {l : List Itm} (h : Items w v l) (g : w.grownBy w' row) (hr : ∀ k, row = some k → ¬ TyAt w k 71) : Items w' v l := by
  obtain ⟨x, o, cap, h⟩ := h
  exact ⟨x, o, cap, h.block (g.block x h.lt (fun q => hr x q.symm h.ty))⟩

/-- Tours that are being gathered: v is a row of one's own, from block B on. -/
def GrowT (w : World) (B : Nat) (v : Value) (ts : List (List Itm)) : Prop := ∃ xs, w.ownsRow B 68 1 v ts.length xs ∧ ∀ j, j < ts.length → Items w (xs[j]?.getD undef) (ts[j]?.getD [])
/-- Levels that are being gathered. -/
def GrowL (w : World) (B : Nat) (v : Value) (L : List (List (List Itm))) : Prop := ∃ xs, w.ownsRow B 115 1 v L.length xs ∧ ∀ j, j < L.length → Lists w (xs[j]?.getD undef) (L[j]?.getD [])

section
variable {w w' : World} {B C : Nat} {v : Value} {ts : List (List Itm)} {L : List (List (List Itm))}

theorem GrowT.nil : GrowT w B (.slice none 0 0) [] := ⟨[], World.ownsRow_nil _ _ _ _, fun j hj => by simp at hj⟩
theorem GrowL.nil : GrowL w B (.slice none 0 0) [] := ⟨[], World.ownsRow_nil _ _ _ _, fun j hj => by simp at hj⟩
theorem GrowT.below (h : GrowT w B v ts) (b : Below C w w') (hC : w.heap.size ≤ C) : GrowT w' B v ts := by
  obtain ⟨xs, h1, h2⟩ := h
  exact ⟨xs, owns_below h1 b hC, fun j hj => (h2 j hj).below b hC⟩
theorem GrowL.below (h : GrowL w B v L) (b : Below C w w') (hC : w.heap.size ≤ C) : GrowL w' B v L := by
  obtain ⟨xs, h1, h2⟩ := h
  exact ⟨xs, owns_below h1 b hC, fun j hj => (h2 j hj).below b hC⟩
theorem GrowT.add {xs : List Value} {x v' : Value} {t : List Itm} (h : w.ownsRow B 68 1 v ts.length xs) (hi : ∀ j, j < ts.length → Items w (xs[j]?.getD undef) (ts[j]?.getD [])) (hx : Items w x t) (ho : w'.ownsRow B 68 1 v' (ts.length + 1) (xs ++ [x])) (hg : w.grownBy w' v.ownBlock) : GrowT w' B v' (ts ++ [t]) := by
  have nt := owns_not h (t := 71) (by decide)
  have hl := h.1
  refine ⟨xs ++ [x], by rw [List.length_append]; exact ho, fun j hj => ?_⟩
  by_cases e : j < ts.length
  · rw [List.getElem?_append_left (by omega), List.getElem?_append_left e]; exact (hi j e).grown hg nt
  · have : j = ts.length := by simp at hj; omega
    subst this
    rw [List.getElem?_append_right (by omega), List.getElem?_append_right (by omega)]
    simp only [Nat.sub_self, List.getElem?_cons_zero, Option.getD_some]
    rw [show ts.length - xs.length = 0 by omega]
    exact hx.grown hg nt
theorem GrowT.lists (h : GrowT w B v ts) (hne : ts ≠ []) : Lists w v ts := by
  obtain ⟨xs, h1, h2⟩ := h
  exact lists_of_owns h1 hne h2
theorem Lists.grown {row : Option Nat} (h : Lists w v ts) (g : w.grownBy w' row) (h1 : ∀ k, row = some k → ¬ TyAt w k 71) (h2 : ∀ k, row = some k → ¬ TyAt w k 68) : Lists w' v ts :=
  h.but (But.grown g) (fun k hk _ => ⟨h1 k hk.symm, h2 k hk.symm⟩)
theorem GrowL.add {xs : List Value} {x v' : Value} {t : List (List Itm)} (h : w.ownsRow B 115 1 v L.length xs) (hi : ∀ j, j < L.length → Lists w (xs[j]?.getD undef) (L[j]?.getD [])) (hx : Lists w x t) (ho : w'.ownsRow B 115 1 v' (L.length + 1) (xs ++ [x])) (hg : w.grownBy w' v.ownBlock) : GrowL w' B v' (L ++ [t]) := by
  have n1 := owns_not h (t := 71) (by decide)
  have n2 := owns_not h (t := 68) (by decide)
  have hl := h.1
  refine ⟨xs ++ [x], by rw [List.length_append]; exact ho, fun j hj => ?_⟩
  by_cases e : j < L.length
  · rw [List.getElem?_append_left (by omega), List.getElem?_append_left e]; exact (hi j e).grown hg n1 n2
  · have : j = L.length := by simp at hj; omega
    subst this
    rw [List.getElem?_append_right (by omega), List.getElem?_append_right (by omega)]
    simp only [Nat.sub_self, List.getElem?_cons_zero, Option.getD_some]
    rw [show L.length - xs.length = 0 by omega]
    exact hx.grown hg n1 n2
theorem GrowL.set {x t : Nat} (h : GrowL w B v L) (hx : TyAt w x t) (h0 : t ≠ 115) (h1 : t ≠ 71) (h2 : t ≠ 68) (o : Nat) (u : Value) : GrowL (w.setCell ⟨x, o, none⟩ u) B v L := by
  obtain ⟨xs, h3, h4⟩ := h
  exact ⟨xs, owns_set_other h3 hx h0 o u, fun j hj => (h4 j hj).but (But.setCell w ⟨x, o, none⟩ u) (noTour_one hx h1 h2)⟩
/-- The levels, as a graph has them. -/
theorem GrowL.rep (h : GrowL w B v L) (hne : L ≠ []) : ∃ tb tcap F, v = .slice (some ⟨tb, 0, none⟩) L.length tcap ∧ B ≤ tb ∧ w.rowIs tb 115 tcap F ∧ L.length ≤ tcap ∧ tcap ≤ maxLen ∧ ∀ i, i < L.length → Lists w (F i) (L[i]?.getD []) := by
  obtain ⟨xs, h1, h2⟩ := h
  rcases h1.2 with ⟨_, h0⟩ | ⟨g, cap, cur, hv, hB, hg, hle, hmx, hsz, htake⟩
  · exact absurd (List.eq_nil_of_length_eq_zero h0) hne
  · refine ⟨g, cap, fun i => cur[i]?.getD undef, hv, hB, ⟨cur, hg, by omega, fun i hi => ?_⟩, hle, hmx, fun i hi => ?_⟩
    · simp only [Array.getElem?_eq_getElem (show i < cur.size by omega), Option.getD_some]
    · have e : cur[i]?.getD undef = xs[i]?.getD undef := by
        rw [← htake, List.getElem?_take, if_pos (by omega), Array.getElem?_toList]
      show Lists w (cur[i]?.getD undef) _
      rw [e]; exact h2 i hi
end

end Go.Proofs.YtckallochdegiaaGreat
namespace Go.Proofs.YtckallochdegiaaGreat
set_option linter.unusedVariables false
set_option linter.unusedSimpArgs false
open Go.RowKit

set_option maxRecDepth 100000 in
set_option maxHeartbeats 1000000 in
theorem Top_any (w : World) (n : Nat) (h1 : 1 ≤ n) (h48 : n ≤ 48) : Calls Tryz.prog 56 #[.int .i64 n] w fun e w' => e = .returned (.int .i64 (Nat.log2 n : Nat)) ∧ w' = w := by
  have hl := log2_le5 h1 h48
  have HP : Hid (∀ k, 2 ^ (k + 1) ≤ n ↔ k + 1 ≤ Nat.log2 n) := fun k => (Nat.le_log2 (by omega)).symm
  go_enter Tryz.func56, Tryz.ntmps56
  go_wp2_with fail
  go_loopw [3, 4] (fun a b wr => ∃ k : Nat, k ≤ Nat.log2 n ∧ a = .int .i64 k ∧ b = .int .i64 ((2 ^ (k + 1) : Nat) : Int) ∧ wr = w) (fun a _ _ => Nat.log2 n - (intOf a).toNat)
  case atStart => exact ⟨0, by omega, rfl, rfl, rfl⟩
  case round =>
    obtain ⟨k, hk, rfl, rfl, rfl⟩ := hrel
    have hp := HP.out k
    have pb : 2 ^ (k + 1) ≤ 64 := by
      have : 2 ^ (k + 1) ≤ 2 ^ 6 := Nat.pow_le_pow_right (by omega) (by omega)
      omega
    have pb2 : 2 ^ (k + 1 + 1) = 2 * 2 ^ (k + 1) := by rw [Nat.pow_succ, Nat.mul_comm]
    have HPB := hid pb2
    clear pb2
    generalize hq : 2 ^ (k + 1) = q at hp pb HPB ⊢
    by_cases c : q ≤ n
    · have c' : (q : Int) ≤ (n : Int) := by omega
      have hk1 := hp.1 c
      clear hq hp
      go_wp2
      exact ⟨⟨k + 1, by omega, by go_num, by rw [HPB.out]; go_num, by trivial⟩, by simp [intOf]; omega⟩
    · have c' : ¬ (q : Int) ≤ (n : Int) := by omega
      have hk1 : k = Nat.log2 n := by
        by_cases d : k + 1 ≤ Nat.log2 n
        · exact absurd (hp.2 d) c
        · omega
      have HK := hid hk1
      clear hq hp hk1
      go_wp2
      go_ret
      exact ⟨by rw [HK.out]; rfl, rfl⟩

def nf (n : Nat) (v : Value) : Nat → Value := fun i => if i = 0 then .int .i64 n else if i = 1 then .slice none 0 0 else if i = 2 then v else .int .i64 0

theorem Tryz.info115 : (Tryz.prog.info? 115).map (fun i => (i.zero, i.size, i.bytes)) = some (some (.slice none 0 0), 1, 24) := by kernel_rfl

/-- A vertex by itself, as New lays it. -/
theorem one_item (w : World) (v : Int) (o : Obj) : Items ((w.alloc (.cells #[.int .i64 v, .int .i64 (-1)] 71)).alloc o) (.slice (some ⟨w.heap.size, 0, none⟩) 1 1) [(v, -1)] := by
  refine Items.below (w := w.alloc (.cells #[.int .i64 v, .int .i64 (-1)] 71)) (B := (w.alloc (.cells #[.int .i64 v, .int .i64 (-1)] 71)).heap.size) ?_ ((Below.refl _ _).alloc (Nat.le_refl _) o) (Nat.le_refl _)
  refine ⟨w.heap.size, 0, 1, rfl, by simp, by unfold maxLen; omega, fun i hi => ?_, fun i hi => ?_, ?_⟩
  · simp at hi; subst hi; rw [new_cell]; rfl
  · simp at hi; subst hi; rw [new_cell]; rfl
  · exact ⟨_, by show (w.heap.push _)[w.heap.size]? = _; simp; rfl⟩

theorem new_row3 {w w3 : World} {B e n b t m : Nat} {v : Value} {xs : List Value} {o : Obj} {f : Nat → Value} (h : w.rowIs b t m f) (ho : w.ownsRow B e 1 v n xs) (hg : (w.alloc o).grownBy w3 v.ownBlock) (hB : b < B) : w3.rowIs b t m f := by
  have h2 := h.alloc o
  exact h2.of_block (hg.block b h2.lt (fun q => by have := (ho.lt b q.symm).1; omega))

set_option maxRecDepth 100000 in
set_option maxHeartbeats 4000000 in
theorem New_any (w : World) (n : Nat) (h1 : 1 ≤ n) (h48 : n ≤ 48) : Calls Tryz.prog 55 #[.int .i64 n] w fun e w' => ∃ g tb tcap F, e = .returned (ptr g) ∧ w.heap.size ≤ g ∧ w.heap.size ≤ tb ∧ GRep w' g (newG n) (.slice none 0 0) tb tcap F 0 ∧ Below w.heap.size w w' := by
  have hl := log2_le5 h1 h48
  obtain ⟨i71, p0, p1, p2, p3⟩ := info_parts Tryz.info68
  obtain ⟨i87, q0, q1, q2, q3⟩ := info_parts Tryz.info115
  go_enter Tryz.func55, Tryz.ntmps55
  go_wp2_with fail
  go_loopw [4] (fun a wr => ∃ m : Nat, m ≤ Nat.log2 n + 1 ∧ a = .int .i64 m ∧ Hid (∃ v, wr.rowIs w.heap.size 45 4 (nf n v) ∧ GrowL wr (w.heap.size + 1) v (List.replicate m (baseT n))) ∧ Hid (Below w.heap.size w wr)) (fun a _ => Nat.log2 n + 1 - (intOf a).toNat)
  case atStart =>
    refine ⟨0, by omega, rfl, ⟨.slice none 0 0, ?_, GrowL.nil⟩, (Below.refl _ _).alloc (Nat.le_refl _) _⟩
    refine World.rowIs_alloc w _ _ _ ?_
    intro i hi
    match i, hi with
    | 0, _ => rfl
    | 1, _ => rfl
    | 2, _ => rfl
    | 3, _ => rfl
  case round =>
    obtain ⟨m, hm, rfl, hV, hB⟩ := hrel
    go_wp2_with fail
    refine (Top_any _ n h1 h48).mono ?_
    rintro e w1 ⟨rfl, rfl⟩
    by_cases c : m ≤ Nat.log2 n
    · have c' : (m : Int) ≤ ((Nat.log2 n : Nat) : Int) := by omega
      go_wp2_with fail
      go_loopw [5, 6] (fun a b wr => ∃ k : Nat, k ≤ n ∧ b = .int .i64 k ∧ Hid (GrowT wr w1.heap.size a (baseT k)) ∧ Hid (Below w1.heap.size w1 wr)) (fun _ b _ => n - (intOf b).toNat)
      case atStart => exact ⟨0, by omega, rfl, GrowT.nil, Below.refl _ _⟩
      case round =>
        obtain ⟨k, hk, rfl, hT, hL⟩ := hrel
        have hB1 := hL.out.size
        by_cases d : k < n
        · have d' : (k : Int) < (n : Int) := by omega
          obtain ⟨xs, ho, hi⟩ := hT.out
          rw [baseT_length] at ho
          have HO := hid ho
          have HI := hid hi
          have HM : Hid (k + 1 ≤ maxLen) := by show _ ≤ _; unfold maxLen; omega
          clear ho hi
          go_wp2_with (at_builtin; refine wpList_append_own _ rfl (.tmp 21) (.tmp 25) 115 rfl w1.heap.size 68 i71 (.slice none 0 0) 1 24 Tryz.underlying115 p0 p1 p2 p3 rfl (by decide) _ k xs rfl ((HO.out.alloc _).alloc _) ⟨wr.heap.size + 1, 0, none⟩ 1 1 [.slice (some ⟨wr.heap.size, 0, none⟩) 1 1] rfl rfl (fun j y hj => by match j, hj with | 0, hj => (simp at hj; subst hj; rw [addr_add, show wr.heap.size + 1 = (wr.alloc (.cells #[.int .i64 k, .int .i64 (-1)] 71)).heap.size by simp]; exact new_cell _ _ _ 0)) (fun y hy => by simp at hy; subst hy; rfl) HM.out (by omega) (by simp; omega) ?_; intro v' w3 ho hg _)
          have R1 : Hid (GrowT w3 w1.heap.size v' (baseT (k + 1))) := by
            show GrowT _ _ _ _
            rw [baseT_succ]
            exact GrowT.add (w := (wr.alloc _).alloc _) (ts := baseT k) (xs := xs) (by rw [baseT_length]; exact (HO.out.alloc _).alloc _) (fun j hj => (HI.out j hj).below (((Below.refl _ _).alloc (Nat.le_refl _) _).alloc (by simp) _) (Nat.le_refl _)) (one_item wr k _) (by rw [baseT_length]; exact ho) hg
          have R2 : Hid (Below w1.heap.size w1 w3) := ((hL.out.alloc hB1 _).alloc (by simp; omega) _).grown hg (by simp; omega) (fun j hj => (HO.out.lt j hj).1)
          clear ho hg
          go_wp2
          exact ⟨⟨k + 1, by omega, by go_num, R1, R2⟩, by simp [intOf]; omega⟩
        · have d' : ¬ (k : Int) < (n : Int) := by omega
          have hkn : k = n := by omega
          have HT : Hid (Lists wr u5 (baseT n)) := by
            rw [← hkn]; exact hT.out.lists (by rw [hkn]; intro q; have := congrArg List.length q; rw [baseT_length] at this; simp at this; omega)
          clear hkn
          obtain ⟨v, r1, r2⟩ := hV.out
          obtain ⟨xs, ho, hi⟩ := r2
          have r3 := row_but (S := fun _ => False) r1 (But.of hL.out) (fun q => q)
          have c2 : wr.cell? ⟨w.heap.size, 2, none⟩ = some v := r3.cell (by omega)
          have fz := r3.frozen
          rw [List.length_replicate] at ho
          have HO := hid (owns_below ho hL.out (Nat.le_refl _))
          have HI : Hid (∀ j, j < (List.replicate m (baseT n)).length → Lists wr (xs[j]?.getD undef) ((List.replicate m (baseT n))[j]?.getD [])) := fun j hj => (hi j hj).below hL.out (Nat.le_refl _)
          have HRow := hid r3
          have HTy := hid (rowIs_ty r3)
          obtain ⟨lp, ln, lc, hlv⟩ : ∃ p n c, u5 = .slice p n c := by
            obtain ⟨b, cap, f, hh⟩ := HT.out
            exact ⟨_, _, _, hh.hv⟩
          subst hlv
          have hsz : w.heap.size < wr.heap.size := r3.lt
          have HM : Hid (m + 1 ≤ maxLen) := by show _ ≤ _; unfold maxLen; omega
          clear ho hi r1 r3
          go_wp2_with (at_builtin; refine wpList_append_own _ rfl (.tmp 31) (.tmp 33) 43 rfl (w.heap.size + 1) 115 i87 (.slice none 0 0) 1 24 Tryz.underlying43 q0 q1 q2 q3 rfl (by decide) v m xs rfl (HO.out.alloc _) ⟨wr.heap.size, 0, none⟩ 1 1 [.slice lp ln lc] rfl rfl (one_cell wr _ _) (fun y hy => by simp at hy; subst hy; rfl) HM.out (by omega) (by simp; omega) ?_; intro v' w3 ho hg _; have fz3 := (HRow.out.alloc (.cells #[.slice lp ln lc] 115)); obtain ⟨p3', n3', c3', hv3⟩ := owns_form ho; subst hv3; have R0 := hid (new_row3 HRow.out HO.out hg (by omega)); have c23 := R0.out.cell (i := 2) (by omega); have fz4 := R0.out.frozen; have HG := hid hg; have HOO := hid ho; clear hg ho fz3)
          have S1 : Below w.heap.size w wr := hB.out.trans (hL.out.mono hB.out.size)
          have S2 := (S1.alloc (by omega) (.cells #[.slice lp ln lc] 115)).grown HG.out (by simp; omega) (fun j hj => by have := (HO.out.lt j hj).1; omega)
          have S3 := S2.trans ((But.setCell w3 ⟨w.heap.size, 2, none⟩ (.slice p3' n3' c3')).below (B := w.heap.size) (fun j hj => by rw [hj]; exact Nat.le_refl _) S2.size)
          have S4 : GrowL w3 (w.heap.size + 1) (.slice p3' n3' c3') (List.replicate m (baseT n) ++ [baseT n]) := GrowL.add (w := wr.alloc _) (L := List.replicate m (baseT n)) (xs := xs) (by rw [List.length_replicate]; exact HO.out.alloc _) (fun j hj => (HI.out j hj).below ((Below.refl _ _).alloc (Nat.le_refl _) _) (Nat.le_refl _)) (HT.out.below ((Below.refl _ _).alloc (Nat.le_refl _) _) (Nat.le_refl _)) (by rw [List.length_replicate]; exact HOO.out) HG.out
          rw [← List.replicate_succ'] at S4
          refine ⟨⟨m + 1, by omega, by go_num, ⟨.slice p3' n3' c3', ?_, S4.set (rowIs_ty R0.out) (by decide) (by decide) (by decide) _ _⟩, S3⟩, by simp [intOf]; omega⟩
          refine (R0.out.set 2 _).congr ?_
          intro i hi
          simp only [nf]
          by_cases q : i = 2
          · subst q; simp
          · simp [q]
    · have c' : ¬ (m : Int) ≤ ((Nat.log2 n : Nat) : Int) := by omega
      have hme : m = Nat.log2 n + 1 := by omega
      have HR : Hid (∃ tb tcap F, w.heap.size ≤ tb ∧ GRep w1 w.heap.size (newG n) (.slice none 0 0) tb tcap F 0) := by
        obtain ⟨v, r1, r2⟩ := hV.out
        rw [hme] at r2
        obtain ⟨tb, tcap, F, rfl, s2, s3, s4, s5, s6⟩ := r2.rep (by simp)
        rw [List.length_replicate] at s4 s6
        refine ⟨tb, tcap, F, by omega, ⟨r1.congr ?_, Or.inl ⟨rfl, rfl⟩, s3, by simpa [newG] using s4, s5, fun i hi => ?_⟩⟩
        · intro i hi
          match i, hi with
          | 0, _ => rfl
          | 1, _ => rfl
          | 2, _ => simp [nf, gf, newG]
          | 3, _ => rfl
        · have hi' : i < Nat.log2 n + 1 := by simpa [newG] using hi
          exact s6 i hi'
      clear hme
      go_wp2
      go_ret
      obtain ⟨tb, tcap, F, t1, t2⟩ := HR.out
      exact ⟨_, tb, tcap, F, rfl, Nat.le_refl _, t1, t2, hB.out⟩

end Go.Proofs.YtckallochdegiaaGreat
