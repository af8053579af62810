import Derived.Test.YtckallochdegiaaGreatEuler
namespace Go.Proofs.YtckallochdegiaaGreat
set_option linter.unusedVariables false
set_option linter.unusedSimpArgs false
open Go.RowKit

/-- An item as the program has it: the vertex v is v - v. -/
def pv (x : Itm) : Itm := if x.2 = -1 then (x.1, x.1) else x

/-- What may stand in a round. -/
def OkI (x : Itm) : Prop := 0 ≤ x.1 ∧ x.1 < 48 ∧ (x.2 = -1 ∨ (0 ≤ x.2 ∧ x.2 < 48 ∧ x.1 ≠ x.2))

theorem pv_inj {x y : Itm} (hx : OkI x) (hy : OkI y) (h : pv x = pv y) : x = y := by
  obtain ⟨a, b⟩ := x
  obtain ⟨c, d⟩ := y
  simp only [OkI] at hx hy
  simp only [pv] at h
  split at h <;> split at h <;> simp only [Prod.mk.injEq] at h ⊢ <;> omega

theorem pv_vtx (v : Int) : pv (v, -1) = (v, v) := by simp [pv]
theorem pv_way {u v : Int} (h : v ≠ -1) : pv (u, v) = (u, v) := by simp [pv, h]

theorem pv_self {x : Itm} (h : OkI x) : (pv x).1 = (pv x).2 ↔ x.2 = -1 := by
  obtain ⟨a, b⟩ := x
  simp only [OkI] at h
  simp only [pv]
  split <;> simp_all

theorem pv_fst (x : Itm) : (pv x).1 = x.1 := by
  simp only [pv]; split <;> rfl

theorem fromX_at {a b : List Itm} {x : Itm} (h : x ∉ a) : fromX (a ++ x :: b) x = x :: b ++ a := by
  have hk : a.length < (a ++ x :: b).length := by simp
  rw [fromX_some (k := a.length) hk (by rw [List.getElem?_append_right (Nat.le_refl _)]; simp) (fun j hj e => ?_)]
  · simp
  · rw [List.getElem?_append_left hj, get_eq hj] at e
    exact h (e ▸ List.getElem_mem hj)

theorem fromX_split {t : List Itm} {x : Itm} (h : x ∈ t) : ∃ a b, t = a ++ x :: b ∧ x ∉ a ∧ fromX t x = x :: b ++ a := by
  obtain ⟨a, b, h1, h2⟩ := List.eq_append_cons_of_mem h
  exact ⟨a, b, h1, h2, by rw [h1]; exact fromX_at h2⟩

theorem fromX_map {t : List Itm} {x : Itm} (ok : ∀ y, y ∈ t → OkI y) (h : x ∈ t) : fromX (t.map pv) (pv x) = (fromX t x).map pv := by
  obtain ⟨a, b, h1, h2, h3⟩ := fromX_split h
  rw [h3, h1, List.map_append, List.map_cons, fromX_at]
  · simp
  · intro q
    obtain ⟨y, hy, e⟩ := List.mem_map.1 q
    have := pv_inj (ok y (by rw [h1]; simp [hy])) (ok x h) e
    exact h2 (this ▸ hy)

theorem fromX_rot_eq {t t' : List Itm} {x : Itm} (r : Rot t t') (nd : t.Nodup) (h : x ∈ t) : fromX t' x = fromX t x := by
  obtain ⟨a, e1, r1⟩ := fromX_head h
  obtain ⟨b, e2, r2⟩ := fromX_head ((r.mem x).1 h)
  have := (r1.symm.trans (r.trans r2)).head_eq (r1.nodup nd)
  rw [e1, e2, this]

theorem fromX_mem (t : List Itm) (x y : Itm) : y ∈ fromX t x ↔ y ∈ t := ((fromX_rot' t x).mem y).symm

/-- v is the least vertex of a round. -/
def LeastAt (t : List Itm) (v : Int) : Prop := (v, -1) ∈ t ∧ ∀ x, x ∈ t → v ≤ x.1

theorem LeastAt.uniq {t : List Itm} {a b : Int} (h : LeastAt t a) (k : LeastAt t b) : a = b := by
  have h1 := h.2 _ k.1
  have h2 := k.2 _ h.1
  simp only at h1 h2
  omega
theorem LeastAt.rot {t t' : List Itm} {a : Int} (h : LeastAt t a) (r : Rot t t') : LeastAt t' a := ⟨(r.mem _).1 h.1, fun x hx => h.2 x ((r.mem x).2 hx)⟩

theorem least_ex {t : List Itm} (h : Tour t) (hne : t ≠ []) : ∃ v, LeastAt t v := by
  have key : ∀ l : List Itm, l ≠ [] → ∃ x, x ∈ l ∧ ∀ y, y ∈ l → x.1 ≤ y.1 := by
    intro l
    induction l with
    | nil => intro h; exact absurd rfl h
    | cons a l ih =>
      intro _
      by_cases c : l = []
      · subst c; exact ⟨a, by simp, fun y hy => by simp at hy; subst hy; exact Int.le_refl _⟩
      · obtain ⟨x, h1, h2⟩ := ih c
        by_cases d : a.1 ≤ x.1
        · refine ⟨a, by simp, fun y hy => ?_⟩
          rcases List.mem_cons.1 hy with rfl | q
          · exact Int.le_refl _
          · have := h2 y q; omega
        · refine ⟨x, by simp [h1], fun y hy => ?_⟩
          rcases List.mem_cons.1 hy with rfl | q
          · omega
          · exact h2 y q
  obtain ⟨x, h1, h2⟩ := key t hne
  exact ⟨x.1, h.vtx x h1, h2⟩

/-- How long a round is. -/
theorem Tour.len3 : ∀ (n : Nat) {t : List Itm}, t.length ≤ n → Tour t → t ≠ [] → (∀ x, x ∈ t → x.2 < 0 → x.2 = -1) → (∀ x, x ∈ t → 0 ≤ x.1) → t.length + 2 = 3 * sizeV t := by
  intro n
  induction n with
  | zero => intro t h _ hne _ _; exact absurd (List.eq_nil_of_length_eq_zero (by omega)) hne
  | succ n ih =>
    intro t hl h hne hv h0
    by_cases c : ∃ x, x ∈ t ∧ x.2 ≠ -1
    · obtain ⟨⟨u, v⟩, hx, hw⟩ := c
      simp only at hw
      have hu0 := h0 _ hx
      have hv0 : 0 ≤ v := by
        by_cases q : 0 ≤ v
        · exact q
        · have := hv _ hx (by simp only; omega); simp only at this; omega
      simp only at hu0
      obtain ⟨A, B, e, hT, r, hA, hB⟩ := cut_place h hu0 hv0 hx
      obtain ⟨tA, _⟩ := hT.cut (by omega) (by omega)
      obtain ⟨tB, _⟩ := hT.flip.cut (by omega) (by omega)
      have mA : ∀ x, x ∈ A → x ∈ t := fun x hx => (r.mem x).2 (by simp [hx])
      have mB : ∀ x, x ∈ B → x ∈ t := fun x hx => (r.mem x).2 (by simp [hx])
      have rl := r.length
      have rs := sizeV_rot r
      simp only [List.length_cons, List.length_append] at rl
      have lA := ih (by omega) tA hA (fun x hx => hv x (mA x hx)) (fun x hx => h0 x (mA x hx))
      have lB := ih (by omega) tB hB (fun x hx => hv x (mB x hx)) (fun x hx => h0 x (mB x hx))
      have s : sizeV ((u, v) :: (A ++ (v, u) :: B)) = sizeV A + sizeV B := by
        rw [show ((u, v) :: (A ++ (v, u) :: B)) = [(u, v)] ++ (A ++ ([(v, u)] ++ B)) by simp, sizeV_append, sizeV_append, sizeV_append, sizeV_way hv0, sizeV_way hu0]
        omega
      rw [s] at rs
      omega
    · have all : ∀ x, x ∈ t → x.2 = -1 := fun x hx => by
        by_cases q : x.2 = -1
        · exact q
        · exact absurd ⟨x, hx, q⟩ c
      cases t with
      | nil => exact absurd rfl hne
      | cons a l =>
        cases l with
        | nil =>
          have := all a (by simp)
          simp [sizeV, this]
        | cons b l =>
          exfalso
          have ha := all a (by simp)
          have hb := all b (by simp)
          have hc : en a = st b := Chn.meet (a := [a]) (b := b :: l) h.rnd.1 rfl rfl
          simp only [en, st, ha, if_true] at hc
          have : a = b := Prod.ext hc (by rw [ha, hb])
          have nd := h.nd
          rw [this] at nd
          simp at nd

section
variable {N : Nat} {es : List Edg} {i : Nat} {ts : List (List Itm)} {R : Nat → List Itm} {t : List Itm}

theorem LI.ok (L : LI N es i ts) (hN : N ≤ 48) (hE : ∀ e, e ∈ es → 0 ≤ e.u ∧ e.u < e.v ∧ e.v < N) (ht : t ∈ ts) : ∀ x, x ∈ t → OkI x := by
  intro x hx
  obtain ⟨⟨h1, h2⟩, h3⟩ := L.rng t ht x hx
  refine ⟨h1, by omega, ?_⟩
  rcases h3 with h3 | ⟨e, he, _, _, q⟩
  · exact Or.inl h3
  · have := hE e he
    right
    rcases q with ⟨q1, q2⟩ | ⟨q1, q2⟩ <;> omega

/-- R lays the rounds of a level's trees: each at its least vertex, from there on. -/
structure FR (R : Nat → List Itm) (ts : List (List Itm)) : Prop where
  at_ : ∀ t, t ∈ ts → ∀ v : Nat, LeastAt t v → R v = (fromX t (v, -1)).map pv
  no : ∀ v : Nat, v < 48 → R v ≠ [] → ∃ t, t ∈ ts ∧ LeastAt t v

theorem FR.mem (h : FR R ts) {ts' : List (List Itm)} (k : ∀ t, t ∈ ts ↔ t ∈ ts') : FR R ts' :=
  ⟨fun t ht => h.at_ t ((k t).2 ht), fun v hv hn => by obtain ⟨t, h1, h2⟩ := h.no v hv hn; exact ⟨t, (k t).1 h1, h2⟩⟩

/-- The least vertex, as a number below 48. -/
theorem LI.least (L : LI N es i ts) (hN : N ≤ 48) (ht : t ∈ ts) : ∃ v : Nat, v < N ∧ LeastAt t v := by
  obtain ⟨v, hv⟩ := least_ex (L.tr t ht) (L.ne t ht)
  have := (L.rng t ht _ hv.1).1
  simp only at this
  exact ⟨v.toNat, by omega, by rw [Int.toNat_of_nonneg this.1]; exact hv⟩

/-- Where an item stands. -/
theorem FR.hold (h : FR R ts) (L : LI N es i ts) (ok : ∀ t, t ∈ ts → ∀ x, x ∈ t → OkI x) (ht : t ∈ ts) {x : Itm} (hx : x ∈ t) {v : Nat} (hv : LeastAt t v) : pv x ∈ R v ∧ ∀ u, u < 48 → u ≠ v → pv x ∉ R u := by
  refine ⟨?_, fun u hu hne q => ?_⟩
  · rw [h.at_ t ht v hv]
    exact List.mem_map.2 ⟨x, (fromX_mem _ _ _).2 hx, rfl⟩
  · obtain ⟨s, hs, hl⟩ := h.no u hu (fun e => by rw [e] at q; simp at q)
    rw [h.at_ s hs u hl] at q
    obtain ⟨y, hy, e⟩ := List.mem_map.1 q
    have hy' := (fromX_mem _ _ _).1 hy
    have := pv_inj (ok s hs y hy') (ok t ht x hx) e
    subst this
    have := L.uniq hs ht hy' hx rfl
    subst this
    have := hl.uniq hv
    omega

/-- The round from an item on. -/
theorem FR.turn (h : FR R ts) (L : LI N es i ts) (ok : ∀ t, t ∈ ts → ∀ x, x ∈ t → OkI x) (ht : t ∈ ts) {x : Itm} (hx : x ∈ t) {v : Nat} (hv : LeastAt t v) : fromX (R v) (pv x) = (fromX t x).map pv := by
  rw [h.at_ t ht v hv, fromX_map (fun y hy => ok t ht y ((fromX_mem _ _ _).1 hy)) ((fromX_mem _ _ _).2 hx), fromX_rot_eq (fromX_rot' t _) (L.tr t ht).nd hx]

/-- The least vertex of a list of the program's items. -/
def PLeast (l : List Itm) (v : Int) : Prop := (v, v) ∈ l ∧ ∀ y, y ∈ l → y.1 = y.2 → v ≤ y.1

theorem LeastAt.p {v : Int} (h : LeastAt t v) : PLeast (t.map pv) v := by
  refine ⟨List.mem_map.2 ⟨_, h.1, pv_vtx v⟩, fun y hy _ => ?_⟩
  obtain ⟨x, hx, rfl⟩ := List.mem_map.1 hy
  rw [pv_fst]
  exact h.2 x hx

/-- What a link lays. -/
def linkR (R : Nat → List Itm) (va vb vm : Nat) (u v : Int) : Nat → List Itm := fun z =>
  if z = vm then fromX (fromX (R va) (u, u) ++ [(u, v)] ++ (fromX (R vb) (v, v) ++ [(v, u)])) (vm, vm) else if z = vb then [] else if z = va then [] else R z

/-- What a link asks for. -/
structure LinkP (R : Nat → List Itm) (va vb vm : Nat) (u v : Int) : Prop where
  a : va < 48
  b : vb < 48
  m : vm < 48
  ne : va ≠ vb
  ia : (u, u) ∈ R va
  na : ∀ z, z < va → (u, u) ∉ R z
  ib : (v, v) ∈ R vb
  nb : ∀ z, z < vb → (v, v) ∉ R z
  lm : PLeast (fromX (R va) (u, u) ++ [(u, v)] ++ (fromX (R vb) (v, v) ++ [(v, u)])) vm
  la : (R va).length ≤ 3000
  lb : (R vb).length ≤ 3000

theorem FR.link (h : FR R ts) (L : LI N es i ts) (hN : N ≤ 48) (hE : ∀ e, e ∈ es → 0 ≤ e.u ∧ e.u < e.v ∧ e.v < N) {u v : Int} (hu0 : 0 ≤ u) (hu1 : u < N) (hv0 : 0 ≤ v) (hv1 : v < N) (hns : ¬ Same ts u v) :
    ∃ va vb vm : Nat, LinkP R va vb vm u v ∧ FR (linkR R va vb vm u v) (linkT ts (tourIx ts u).toNat (tourIx ts v).toNat u v) := by
  have ok : ∀ t, t ∈ ts → ∀ x, x ∈ t → OkI x := fun t ht => L.ok hN hE ht
  obtain ⟨ka, ta, a1, a2, a3, a4, a5⟩ := L.ix_of hu0 hu1
  obtain ⟨kb, tb, b1, b2, b3, b4, b5⟩ := L.ix_of hv0 hv1
  obtain ⟨va, va1, va2⟩ := L.least hN a4
  obtain ⟨vb, vb1, vb2⟩ := L.least hN b4
  have kne : ka ≠ kb := by
    rintro rfl
    exact hns ⟨ta, a4, a5, by rw [← a3, b3]; exact b5⟩
  have djab : Dj ta tb := by
    have := pair_ne L.dj a1 b1 kne
    rw [← a3, ← b3, get_eq a1, get_eq b1]; exact this
  have vne : va ≠ vb := by
    intro e
    have := djab _ va2.1 _ vb2.1
    simp only at this
    omega
  have ha := h.hold L ok a4 a5 va2
  have hb := h.hold L ok b4 b5 vb2
  have tja := h.turn L ok a4 a5 va2
  have tjb := h.turn L ok b4 b5 vb2
  rw [pv_vtx] at ha hb tja tjb
  have lenA : (R va).length ≤ 3000 := by
    rw [h.at_ ta a4 va va2, List.length_map, fromX_length]
    exact Nat.le_trans (L.len hN (fun e he => by have := hE e he; omega) a4) (by omega)
  have lenB : (R vb).length ≤ 3000 := by
    rw [h.at_ tb b4 vb vb2, List.length_map, fromX_length]
    exact Nat.le_trans (L.len hN (fun e he => by have := hE e he; omega) b4) (by omega)
  have hJ : fromX (R va) (u, u) ++ [(u, v)] ++ (fromX (R vb) (v, v) ++ [(v, u)]) = (joinT ta tb u v).map pv := by
    rw [tja, tjb, joinT]
    simp only [List.map_append, List.map_cons, List.map_nil]
    rw [pv_way (show v ≠ -1 by omega), pv_way (show u ≠ -1 by omega)]
  have okJ : ∀ x, x ∈ joinT ta tb u v → OkI x := by
    intro x hx
    simp only [joinT, List.mem_append, List.mem_singleton] at hx
    have huv : u ≠ v := by
      rintro rfl
      exact hns ⟨ta, a4, a5, a5⟩
    rcases hx with (hx | hx) | hx | hx
    · exact ok ta a4 x ((fromX_mem _ _ _).1 hx)
    · subst hx; refine ⟨hu0, by show u < 48; omega, Or.inr ⟨hv0, by show v < 48; omega, huv⟩⟩
    · exact ok tb b4 x ((fromX_mem _ _ _).1 hx)
    · subst hx; refine ⟨hv0, by show v < 48; omega, Or.inr ⟨hu0, by show u < 48; omega, fun e => huv e.symm⟩⟩
  have memJ : ∀ x, x ∈ joinT ta tb u v ↔ x ∈ ta ∨ x ∈ tb ∨ x = (u, v) ∨ x = (v, u) := by
    intro x
    simp only [joinT, List.mem_append, List.mem_singleton, fromX_mem]
    constructor
    · rintro ((q | q) | q | q)
      · exact Or.inl q
      · exact Or.inr (Or.inr (Or.inl q))
      · exact Or.inr (Or.inl q)
      · exact Or.inr (Or.inr (Or.inr q))
    · rintro (q | q | q | q)
      · exact Or.inl (Or.inl q)
      · exact Or.inr (Or.inl q)
      · exact Or.inl (Or.inr q)
      · exact Or.inr (Or.inr q)
  obtain ⟨vm, hvm, vml⟩ : ∃ vm : Nat, (vm = va ∨ vm = vb) ∧ LeastAt (joinT ta tb u v) vm := by
    have hua := va2.2 _ a5
    have hvb := vb2.2 _ b5
    simp only at hua hvb
    by_cases c : va ≤ vb
    · refine ⟨va, Or.inl rfl, (memJ _).2 (Or.inl va2.1), fun x hx => ?_⟩
      rcases (memJ x).1 hx with q | q | q | q
      · exact va2.2 x q
      · have := vb2.2 x q; omega
      · subst q; exact hua
      · subst q; show (va : Int) ≤ v; omega
    · refine ⟨vb, Or.inr rfl, (memJ _).2 (Or.inr (Or.inl vb2.1)), fun x hx => ?_⟩
      rcases (memJ x).1 hx with q | q | q | q
      · have := va2.2 x q; omega
      · exact vb2.2 x q
      · subst q; show (vb : Int) ≤ u; omega
      · subst q; exact hvb
  refine ⟨va, vb, vm, ⟨by omega, by omega, by omega, vne, ha.1, fun z hz => ha.2 z (by omega) (by omega), hb.1, fun z hz => hb.2 z (by omega) (by omega), by rw [hJ]; exact vml.p, lenA, lenB⟩, ?_⟩
  rw [a2, b2, Int.toNat_natCast, Int.toNat_natCast]
  have hts : linkT ts ka kb u v = rest ts ka kb ++ [joinT ta tb u v] := by simp only [linkT, rest, a3, b3]
  rw [hts]
  have inrest : ∀ t, t ∈ rest ts ka kb → t ∈ ts ∧ t ≠ ta ∧ t ≠ tb := by
    intro t ht
    obtain ⟨k, k1, k2, k3, k4⟩ := rest_mem.1 ht
    refine ⟨by rw [← k4, get_eq k1]; exact List.getElem_mem k1, fun e => ?_, fun e => ?_⟩
    · have d := pair_ne L.dj k1 a1 k2
      rw [← get_eq (d := []) k1, ← get_eq (d := []) a1, k4, a3, e] at d
      exact d _ a5 _ a5 rfl
    · have d := pair_ne L.dj k1 b1 k3
      rw [← get_eq (d := []) k1, ← get_eq (d := []) b1, k4, b3, e] at d
      exact d _ b5 _ b5 rfl
  refine ⟨fun t ht z hz => ?_, fun z hz hn => ?_⟩
  · rcases List.mem_append.1 ht with q | q
    · obtain ⟨r1, r2, r3⟩ := inrest t q
      have za : z ≠ va := fun e => r2 (L.uniq r1 a4 hz.1 va2.1 (by show (z : Int) = va; omega))
      have zb : z ≠ vb := fun e => r3 (L.uniq r1 b4 hz.1 vb2.1 (by show (z : Int) = vb; omega))
      rw [linkR, if_neg (by omega), if_neg zb, if_neg za]
      exact h.at_ t r1 z hz
    · simp only [List.mem_singleton] at q
      subst q
      have e : z = vm := by have := hz.uniq vml; omega
      subst e
      rw [linkR, if_pos rfl, hJ, ← pv_vtx, fromX_map okJ vml.1]
  · rw [linkR] at hn
    by_cases e : z = vm
    · subst e; exact ⟨_, by simp, vml⟩
    · rw [if_neg e] at hn
      by_cases eb : z = vb
      · rw [if_pos eb] at hn; exact absurd rfl hn
      · rw [if_neg eb] at hn
        by_cases ea : z = va
        · rw [if_pos ea] at hn; exact absurd rfl hn
        · rw [if_neg ea] at hn
          obtain ⟨t, t1, t2⟩ := h.no z hz hn
          refine ⟨t, List.mem_append.2 (Or.inl ?_), t2⟩
          rcases rest_or (ka := ka) (kb := kb) t1 with q | q | q
          · exact q
          · rw [a3] at q; subst q; exact absurd (t2.uniq va2) (by omega)
          · rw [b3] at q; subst q; exact absurd (t2.uniq vb2) (by omega)
end

end Go.Proofs.YtckallochdegiaaGreat
namespace Go.Proofs.YtckallochdegiaaGreat
set_option linter.unusedVariables false
set_option linter.unusedSimpArgs false
open Go.RowKit

section
variable {N : Nat} {es : List Edg} {i : Nat} {ts : List (List Itm)} {R : Nat → List Itm} {t0 : List Itm} {u v : Int}

theorem cut_eq (h : LI N es i ts) (hu0 : 0 ≤ u) (hv0 : 0 ≤ v) (ht0 : t0 ∈ ts) (hm : (u, v) ∈ t0) :
    ∃ ka A B, ka < ts.length ∧ ts[ka]?.getD [] = t0 ∧ fromX t0 (u, v) = (u, v) :: (A ++ (v, u) :: B) ∧ Tour ((u, v) :: (A ++ (v, u) :: B)) ∧ A ≠ [] ∧ B ≠ [] ∧ (∀ x, x ∈ (u, v) :: A → ¬ x = (v, u)) ∧ cutL ts u v = rest ts ka ka ++ [A, B] := by
  have T := h.tr t0 ht0
  have hback := (T.way (u, v) hm (by show v ≠ -1; omega)).1
  obtain ⟨ka, hk, iu, e1⟩ := h.ix ht0 (T.vtx _ hm)
  obtain ⟨kb, hkb, iv, e2⟩ := h.ix ht0 (T.vtx _ hback)
  have hab : ka = kb := by
    by_cases c : ka = kb
    · exact c
    · have := pair_ne h.dj hk hkb c
      rw [get_eq hk] at e1
      rw [get_eq hkb] at e2
      rw [e1, e2] at this
      exact absurd rfl (this _ hm _ hm)
  subst hab
  obtain ⟨A, B, f1, f2, f3, f4, f5⟩ := cut_place T hu0 hv0 hm
  have nd := f2.nd
  have nin : ∀ x, x ∈ (u, v) :: A → ¬ x = (v, u) := by
    intro x hx q
    subst q
    simp [List.nodup_append] at nd
    simp only [List.mem_cons] at hx
    rcases hx with hx | hx
    · have q1 : v = u := congrArg Prod.fst hx
      have := nd.1.2.1
      rw [q1] at this
      exact this rfl rfl
    · exact (nd.2.2.2 v u hx).1 rfl rfl
  have pos : cutP (fromX t0 (u, v)) u v = A.length + 1 := by
    rw [f1, cutP, show (u, v) :: (A ++ (v, u) :: B) = ((u, v) :: A) ++ (v, u) :: B by simp, List.findIdx_append]
    have : List.findIdx (fun y => y == (v, u)) ((u, v) :: A) = ((u, v) :: A).length := by
      rw [List.findIdx_eq_length]
      intro x hx; simpa using nin x hx
    rw [this]; simp [List.findIdx_cons]
  exact ⟨ka, A, B, hk, e1, f1, f2, f4, f5, nin, by rw [cutL, iu, iv, Int.toNat_natCast, e1, pos, f1]; exact cutT_eq A B⟩

/-- What a cut lays. -/
def cutR (R : Nat → List Itm) (A B : List Itm) (vt va vb : Nat) : Nat → List Itm := fun z =>
  if z = vb then fromX B (vb, vb) else if z = va then fromX A (va, va) else if z = vt then [] else R z

/-- What a cut asks for. -/
structure CutQ (R : Nat → List Itm) (A B : List Itm) (vt va vb : Nat) (u v : Int) : Prop where
  t : vt < 48
  a : va < 48
  b : vb < 48
  it : (u, v) ∈ R vt
  nt : ∀ z, z < vt → (u, v) ∉ R z
  eq : fromX (R vt) (u, v) = (u, v) :: (A ++ (v, u) :: B)
  no : ∀ x, x ∈ (u, v) :: A → ¬ x = (v, u)
  la : PLeast A va
  lb : PLeast B vb
  lt : (R vt).length ≤ 3000

theorem FR.cut (h : FR R ts) (L : LI N es i ts) (hN : N ≤ 48) (hE : ∀ e, e ∈ es → 0 ≤ e.u ∧ e.u < e.v ∧ e.v < N) (hu0 : 0 ≤ u) (hv0 : 0 ≤ v) (ht0 : t0 ∈ ts) (hm : (u, v) ∈ t0) :
    ∃ A B, ∃ vt va vb : Nat, CutQ R A B vt va vb u v ∧ FR (cutR R A B vt va vb) (cutL ts u v) ∧ FR (cutR R A B vt va vb) (cutL ts v u) := by
  have ok : ∀ t, t ∈ ts → ∀ x, x ∈ t → OkI x := fun t ht => L.ok hN hE ht
  have T := L.tr t0 ht0
  have hback := (T.way (u, v) hm (by show v ≠ -1; omega)).1
  obtain ⟨ka, A, B, k1, k2, k3, k4, k5, k6, k7, k8⟩ := cut_eq L hu0 hv0 ht0 hm
  obtain ⟨kb, B', A', j1, j2, j3, j4, j5, j6, j7, j8⟩ := cut_eq L hv0 hu0 ht0 hback
  have kk : ka = kb := by
    by_cases c : ka = kb
    · exact c
    · have := pair_ne L.dj k1 j1 c
      rw [get_eq k1] at k2
      rw [get_eq j1] at j2
      rw [k2, j2] at this
      exact absurd rfl (this _ hm _ hm)
  subst kk
  have hAB : B' = B ∧ A' = A := by
    have r1 : Rot ((u, v) :: (A ++ (v, u) :: B)) ((v, u) :: (B ++ (u, v) :: A)) := ⟨(u, v) :: A, (v, u) :: B, by simp, by simp⟩
    have r2 := (fromX_rot' t0 (u, v))
    have r3 := (fromX_rot' t0 (v, u))
    rw [k3] at r2
    rw [j3] at r3
    have e := ((r2.trans r1).symm.trans r3).head_eq (k4.rot r1).nd
    have nd' := (List.nodup_cons.1 (k4.rot r1).nd).2
    obtain ⟨a, b⟩ := split_unique nd' e
    exact ⟨a.symm, b.symm⟩
  obtain ⟨rfl, rfl⟩ := hAB
  clear j1 j2 j3 j4 j5 j6 j7
  obtain ⟨vt, vt1, vt2⟩ := L.least hN ht0
  obtain ⟨tA, _⟩ := k4.cut (by omega) (by omega)
  obtain ⟨tB, _⟩ := k4.flip.cut (by omega) (by omega)
  have r2 := (fromX_rot' t0 (u, v))
  rw [k3] at r2
  have mA : ∀ x, x ∈ A' → x ∈ t0 := fun x hx => (r2.mem x).2 (by simp [hx])
  have mB : ∀ x, x ∈ B' → x ∈ t0 := fun x hx => (r2.mem x).2 (by simp [hx])
  have lst : ∀ C : List Itm, Tour C → C ≠ [] → (∀ x, x ∈ C → x ∈ t0) → ∃ v : Nat, v < 48 ∧ LeastAt C v := by
    intro C hC hne hm
    obtain ⟨v, hv⟩ := least_ex hC hne
    have := (L.rng t0 ht0 _ (hm _ hv.1)).1
    simp only at this
    exact ⟨v.toNat, by omega, by rw [Int.toNat_of_nonneg this.1]; exact hv⟩
  obtain ⟨va, va1, va2⟩ := lst A' tA k5 mA
  obtain ⟨vb, vb1, vb2⟩ := lst B' tB k6 mB
  have djAB : ∀ x, x ∈ A' → ∀ y, y ∈ B' → x.1 ≠ y.1 := fun x hx y hy => k4.sides (by omega) x (by simp [hx]) y (by simp [hy])
  have vne : va ≠ vb := fun e => by have := djAB _ va2.1 _ vb2.1; simp only at this; omega
  have hh := h.hold L ok ht0 hm vt2
  have tt := h.turn L ok ht0 hm vt2
  rw [pv_way (show v ≠ -1 by omega)] at hh tt
  rw [k3] at tt
  simp only [List.map_cons, List.map_append] at tt
  rw [pv_way (show v ≠ -1 by omega), pv_way (show u ≠ -1 by omega)] at tt
  have lenT : (R vt).length ≤ 3000 := by
    rw [h.at_ t0 ht0 vt vt2, List.length_map, fromX_length]
    exact Nat.le_trans (L.len hN (fun e he => by have := hE e he; omega) ht0) (by omega)
  have huv : u ≠ v := by
    intro e
    exact k7 (u, v) (by simp) (by rw [e])
  have Q : CutQ R (A'.map pv) (B'.map pv) vt va vb u v := by
    refine ⟨by omega, va1, vb1, hh.1, fun z hz => hh.2 z (by omega) (by omega), tt, fun x hx q => ?_, va2.p, vb2.p, lenT⟩
    subst q
    rcases List.mem_cons.1 hx with q | q
    · exact huv (congrArg Prod.snd q)
    · obtain ⟨y, hy, e⟩ := List.mem_map.1 q
      have : y = (v, u) := pv_inj (ok t0 ht0 y (mA y hy)) (ok t0 ht0 _ hback) (by rw [e, pv_way (show u ≠ -1 by omega)])
      exact k7 y (by simp [hy]) this
  have F : FR (cutR R (A'.map pv) (B'.map pv) vt va vb) (rest ts ka ka ++ [A', B']) := by
    have inrest : ∀ t, t ∈ rest ts ka ka → t ∈ ts ∧ t ≠ t0 := by
      intro t ht
      obtain ⟨k, p1, p2, p3, p4⟩ := rest_mem.1 ht
      refine ⟨by rw [← p4, get_eq p1]; exact List.getElem_mem p1, fun e => ?_⟩
      have d := pair_ne L.dj p1 k1 p2
      rw [← get_eq (d := []) p1, ← get_eq (d := []) k1, p4, k2, e] at d
      exact d _ hm _ hm rfl
    refine ⟨fun t ht z hz => ?_, fun z hz hn => ?_⟩
    · simp only [List.mem_append, List.mem_cons, List.not_mem_nil, or_false] at ht
      rcases ht with q | q | q
      · obtain ⟨r1, r2⟩ := inrest t q
        have za : z ≠ va := fun e => r2 (L.uniq r1 ht0 hz.1 (mA _ va2.1) (by show (z : Int) = va; omega))
        have zb : z ≠ vb := fun e => r2 (L.uniq r1 ht0 hz.1 (mB _ vb2.1) (by show (z : Int) = vb; omega))
        have zt : z ≠ vt := fun e => r2 (L.uniq r1 ht0 hz.1 vt2.1 (by show (z : Int) = vt; omega))
        rw [cutR, if_neg zb, if_neg za, if_neg zt]
        exact h.at_ t r1 z hz
      · subst q
        have e : z = va := by have := hz.uniq va2; omega
        subst e
        rw [cutR, if_neg vne, if_pos rfl, ← pv_vtx, fromX_map (fun y hy => ok t0 ht0 y (mA y hy)) va2.1]
      · subst q
        have e : z = vb := by have := hz.uniq vb2; omega
        subst e
        rw [cutR, if_pos rfl, ← pv_vtx, fromX_map (fun y hy => ok t0 ht0 y (mB y hy)) vb2.1]
    · rw [cutR] at hn
      by_cases eb : z = vb
      · subst eb; exact ⟨B', by simp, vb2⟩
      · rw [if_neg eb] at hn
        by_cases ea : z = va
        · subst ea; exact ⟨A', by simp, va2⟩
        · rw [if_neg ea] at hn
          by_cases et : z = vt
          · rw [if_pos et] at hn; exact absurd rfl hn
          · rw [if_neg et] at hn
            obtain ⟨t, t1, t2⟩ := h.no z hz hn
            refine ⟨t, List.mem_append.2 (Or.inl ?_), t2⟩
            rcases rest_or (ka := ka) (kb := ka) t1 with q | q | q
            · exact q
            · rw [k2] at q; subst q; exact absurd (t2.uniq vt2) (by omega)
            · rw [k2] at q; subst q; exact absurd (t2.uniq vt2) (by omega)
  have P : ∀ t, t ∈ rest ts ka ka ++ [A', B'] ↔ t ∈ rest ts ka ka ++ [B', A'] := by
    intro t
    simp only [List.mem_append, List.mem_cons, List.not_mem_nil, or_false]
    constructor
    · rintro (q | q | q)
      · exact Or.inl q
      · exact Or.inr (Or.inr q)
      · exact Or.inr (Or.inl q)
    · rintro (q | q | q)
      · exact Or.inl q
      · exact Or.inr (Or.inr q)
      · exact Or.inr (Or.inl q)
  exact ⟨_, _, vt, va, vb, Q, by rw [k8]; exact F, by rw [j8]; exact F.mem P⟩
end

/-- An edge as the program has it: is it there; is it of the forest; its level. -/
abbrev E3 := Bool × Bool × Int

def look (es : List Edg) (u v : Nat) : E3 :=
  if findIx es (min (u : Int) v) (max (u : Int) v) < 0 then (false, false, 0)
  else (true, (es[(findIx es (min (u : Int) v) (max (u : Int) v)).toNat]?.getD e0).tree, (es[(findIx es (min (u : Int) v) (max (u : Int) v)).toNat]?.getD e0).lev)

/-- What setEdge lays. -/
def updE (E : Nat → Nat → E3) (u v : Nat) (e : E3) : Nat → Nat → E3 := fun x y => if (x = v ∧ y = u) ∨ (x = u ∧ y = v) then e else E x y

theorem look_no {es : List Edg} {u v : Nat} (h : findIx es (min (u : Int) v) (max (u : Int) v) = -1) : look es u v = (false, false, 0) := by
  rw [look, if_pos (by omega)]
theorem look_at {es : List Edg} {u v k : Nat} (h : findIx es (min (u : Int) v) (max (u : Int) v) = k) : look es u v = (true, (es[k]?.getD e0).tree, (es[k]?.getD e0).lev) := by
  rw [look, if_neg (by omega), h, Int.toNat_natCast]

/-- Where the edge of two ends lies. -/
theorem find_key {es : List Edg} (nd : (es.map key).Nodup) {k : Nat} (hk : k < es.length) {a b : Int} (h : key (es[k]?.getD e0) = (a, b)) : findIx es a b = k := by
  obtain ⟨j, h1, h2, h3⟩ := find_mem nd (e := es[k]?.getD e0) (by rw [get_eq hk]; exact List.getElem_mem hk)
  have e1 : (es[k]?.getD e0).u = a := congrArg Prod.fst h
  have e2 : (es[k]?.getD e0).v = b := congrArg Prod.snd h
  rw [e1, e2] at h2
  have : j = k := by
    rw [get_eq h1, get_eq hk] at h3
    by_cases c : j = k
    · exact c
    · exfalso
      rw [List.Nodup, List.pairwise_map, List.pairwise_iff_getElem] at nd
      rcases Nat.lt_or_gt_of_ne c with q | q
      · exact nd j k h1 hk q (by rw [h3])
      · exact nd k j hk h1 q (by rw [h3])
  rw [h2, this]

theorem find_none {es : List Edg} {a b : Int} (h : (a, b) ∉ es.map key) : findIx es a b = -1 := by
  rcases findIx_has es a b with ⟨q, _⟩ | ⟨k, _, _, q, _⟩
  · exact q
  · exact absurd q h

theorem look_set {es : List Edg} (nd : (es.map key).Nodup) {k : Nat} (hk : k < es.length) {u v : Nat} (h : key (es[k]?.getD e0) = (min (u : Int) v, max (u : Int) v)) {e' : Edg} (h' : key e' = key (es[k]?.getD e0)) (x y : Nat) :
    look (es.set k e') x y = updE (look es) u v (true, e'.tree, e'.lev) x y := by
  have ks := key_set hk h'
  have nd' : ((es.set k e').map key).Nodup := by rw [ks]; exact nd
  have hk' : k < (es.set k e').length := by simpa using hk
  have gk : (es.set k e')[k]?.getD e0 = e' := by simp [hk]
  rw [updE]
  by_cases c : (x = v ∧ y = u) ∨ (x = u ∧ y = v)
  · rw [if_pos c]
    have e : ((min (x : Int) y, max (x : Int) y) : Int × Int) = (min (u : Int) v, max (u : Int) v) := mm_eq.2 (by omega)
    have f := find_key nd' hk' (a := min (x : Int) y) (b := max (x : Int) y) (by rw [gk, h', h, e])
    rw [look_at f, gk]
  · rw [if_neg c]
    rcases findIx_has es (min (x : Int) y) (max (x : Int) y) with ⟨q1, q2⟩ | ⟨j, q1, q2, q3, q4⟩
    · rw [look_no q1, look_no (find_none (by rw [ks]; exact q2))]
    · have hj : j ≠ k := by
        rintro rfl
        rw [h] at q4
        have := mm_eq.1 q4.symm
        exact c (by omega)
      have hj' : j < (es.set k e').length := by simpa using q2
      have gj : (es.set k e')[j]?.getD e0 = es[j]?.getD e0 := by rw [List.getElem?_set, if_neg (fun q => hj q.symm)]
      have f := find_key nd' hj' (a := min (x : Int) y) (b := max (x : Int) y) (by rw [gj]; exact q4)
      rw [look_at f, look_at q1, gj]

theorem look_add {es : List Edg} (nd : (es.map key).Nodup) {u v : Nat} (h : findIx es (min (u : Int) v) (max (u : Int) v) = -1) {e' : Edg} (h' : key e' = (min (u : Int) v, max (u : Int) v)) (x y : Nat) :
    look (es ++ [e']) x y = updE (look es) u v (true, e'.tree, e'.lev) x y := by
  have hno : ((min (u : Int) v, max (u : Int) v) : Int × Int) ∉ es.map key := by
    rcases findIx_has es (min (u : Int) v) (max (u : Int) v) with ⟨_, q⟩ | ⟨k, q, _⟩
    · exact q
    · omega
  have nd' : ((es ++ [e']).map key).Nodup := by
    rw [List.map_append, List.nodup_append]
    refine ⟨nd, by simp, fun a ha b hb q => ?_⟩
    simp at hb
    subst hb
    rw [q, h'] at ha
    exact hno ha
  rw [updE]
  by_cases c : (x = v ∧ y = u) ∨ (x = u ∧ y = v)
  · rw [if_pos c]
    have e : ((min (x : Int) y, max (x : Int) y) : Int × Int) = (min (u : Int) v, max (u : Int) v) := mm_eq.2 (by omega)
    have gk : (es ++ [e'])[es.length]?.getD e0 = e' := by simp
    have f := find_key nd' (k := es.length) (by simp) (a := min (x : Int) y) (b := max (x : Int) y) (by rw [gk, h', e])
    rw [look_at f, gk]
  · rw [if_neg c]
    rcases findIx_has es (min (x : Int) y) (max (x : Int) y) with ⟨q1, q2⟩ | ⟨j, q1, q2, q3, q4⟩
    · rw [look_no q1, look_no (find_none ?_)]
      intro q
      rw [List.map_append, List.mem_append] at q
      rcases q with q | q
      · exact q2 q
      · simp only [List.map_cons, List.map_nil, List.mem_singleton] at q
        rw [h'] at q
        have := mm_eq.1 q
        exact c (by omega)
    · have gj : (es ++ [e'])[j]?.getD e0 = es[j]?.getD e0 := by rw [List.getElem?_append_left q2]
      have f := find_key nd' (k := j) (by simp; omega) (a := min (x : Int) y) (b := max (x : Int) y) (by rw [gj]; exact q4)
      rw [look_at f, look_at q1, gj]

theorem look_del {es : List Edg} (nd : (es.map key).Nodup) {k : Nat} (hk : k < es.length) {u v : Nat} (h : key (es[k]?.getD e0) = (min (u : Int) v, max (u : Int) v)) (x y : Nat) :
    look (es.eraseIdx k) x y = updE (look es) u v (false, false, 0) x y := by
  have nd' : ((es.eraseIdx k).map key).Nodup := by
    exact List.Nodup.sublist ((List.eraseIdx_sublist es k).map key) nd
  have hno : ∀ e, e ∈ es.eraseIdx k → key e ≠ (min (u : Int) v, max (u : Int) v) := by
    intro e he q
    obtain ⟨j, h1, h2, h3⟩ := List.mem_eraseIdx_iff_getElem.1 he
    rw [← h] at q
    rw [List.Nodup, List.pairwise_map, List.pairwise_iff_getElem] at nd
    rw [get_eq hk, ← h3] at q
    rcases Nat.lt_or_gt_of_ne h2 with c | c
    · exact nd j k h1 hk c q
    · exact nd k j hk h1 c q.symm
  rw [updE]
  by_cases c : (x = v ∧ y = u) ∨ (x = u ∧ y = v)
  · rw [if_pos c]
    have e : ((min (x : Int) y, max (x : Int) y) : Int × Int) = (min (u : Int) v, max (u : Int) v) := mm_eq.2 (by omega)
    refine look_no (find_none ?_)
    rw [e]
    intro q
    obtain ⟨f, hf, hk⟩ := List.mem_map.1 q
    exact hno f hf hk
  · rw [if_neg c]
    rcases findIx_has es (min (x : Int) y) (max (x : Int) y) with ⟨q1, q2⟩ | ⟨j, q1, q2, q3, q4⟩
    · rw [look_no q1, look_no (find_none (fun q => q2 ?_))]
      obtain ⟨f, hf, hk⟩ := List.mem_map.1 q
      exact List.mem_map.2 ⟨f, mem_erase hf, hk⟩
    · have hj : j ≠ k := by
        rintro rfl
        rw [h] at q4
        have := mm_eq.1 q4.symm
        exact c (by omega)
      have m := erase_other hk (f := es[j]?.getD e0) (by rw [get_eq q2]; exact List.getElem_mem q2) (fun q => by
        rw [q, h] at q4
        have := mm_eq.1 q4.symm
        exact c (by omega))
      obtain ⟨n, hn, e⟩ := List.mem_iff_getElem.1 m
      have gn : (es.eraseIdx k)[n]?.getD e0 = es[j]?.getD e0 := by rw [get_eq hn, e]
      have f := find_key nd' hn (a := min (x : Int) y) (b := max (x : Int) y) (by rw [gn]; exact q4)
      rw [look_at f, look_at q1, gn]

end Go.Proofs.YtckallochdegiaaGreat
namespace Go.Proofs.YtckallochdegiaaGreat
set_option linter.unusedVariables false
set_option linter.unusedSimpArgs false
open Go.RowKit

/-- The rounds R are those of the graph's levels. -/
structure Sim (G : Gr) (R : Nat → Nat → List Itm) : Prop where
  fr : ∀ k, k ≤ Nat.log2 G.N → FR (R k) (lv G k)
  top : ∀ k v, Nat.log2 G.N < k → k < 6 → v < 48 → R k v = []

section
variable {G : Gr} {R R' : Nat → Nat → List Itm} {i l : Nat} {u v : Int}

theorem GI.edE (h : GI G) : ∀ e, e ∈ G.edges → 0 ≤ e.u ∧ e.u < e.v ∧ e.v < G.N := fun e he => by have := h.ed e he; omega
theorem GI.okI (h : GI G) (hi : i ≤ Nat.log2 G.N) {t : List Itm} (ht : t ∈ lv G i) : ∀ x, x ∈ t → OkI x := (h.li i hi).ok h.n48 h.edE ht

theorem Sim.setE (h : Sim G R) (k : Nat) (e : Edg) : Sim (setE G k e) R := ⟨h.fr, h.top⟩
theorem Sim.addE (h : Sim G R) (u v : Int) : Sim (addE G u v) R := ⟨h.fr, h.top⟩
theorem Sim.delE (h : Sim G R) (k : Nat) : Sim (delE G k) R := ⟨h.fr, h.top⟩
theorem Sim.setT (h : Sim G R) (hl : i < G.tours.length) {ts : List (List Itm)} {Q : Nat → List Itm} (hi : i ≤ Nat.log2 G.N) (hF : FR Q ts) : Sim (setT G i ts) (fun j => if j = i then Q else R j) := by
  refine ⟨fun k hk => ?_, fun k v hk h6 hv => ?_⟩
  · rw [lv_setT _ _ _ _ hl]
    by_cases c : k = i
    · rw [if_pos c, if_pos c]; exact hF
    · rw [if_neg c, if_neg c]; exact h.fr k hk
  · have hk' : Nat.log2 G.N < k := hk
    rw [if_neg (by omega)]; exact h.top k v hk' h6 hv
theorem Sim.lnks (h : Sim G R) (hl : l + 1 ≤ G.tours.length) (h1 : ∀ k, k ≤ l → FR (R' k) (linkT (lv G k) (tourIx (lv G k) u).toNat (tourIx (lv G k) v).toNat u v)) (h2 : ∀ k, l < k → R' k = R k) (hll : l ≤ Nat.log2 G.N) : Sim (lnks G u v (l + 1)) R' := by
  refine ⟨fun k hk => ?_, fun k v hk h6 hv => ?_⟩
  · rw [lnks_N] at hk
    rw [lnks_lv _ _ _ _ hl]
    by_cases c : k < l + 1
    · rw [if_pos c]; exact h1 k (by omega)
    · rw [if_neg c, h2 k (by omega)]; exact h.fr k hk
  · rw [lnks_N] at hk
    rw [h2 k (by omega)]; exact h.top k v hk h6 hv
theorem Sim.cuts (h : Sim G R) (hl : l + 1 ≤ G.tours.length) (h1 : ∀ k, k ≤ l → FR (R' k) (cutL (lv G k) u v)) (h2 : ∀ k, l < k → R' k = R k) (hll : l ≤ Nat.log2 G.N) : Sim (cuts G u v (l + 1)) R' := by
  refine ⟨fun k hk => ?_, fun k v hk h6 hv => ?_⟩
  · rw [cuts_N] at hk
    rw [cuts_lv _ _ _ _ hl]
    by_cases c : k < l + 1
    · rw [if_pos c]; exact h1 k (by omega)
    · rw [if_neg c, h2 k (by omega)]; exact h.fr k hk
  · rw [cuts_N] at hk
    rw [h2 k (by omega)]; exact h.top k v hk h6 hv

/-- Where a vertex's round lies. -/
theorem Sim.at_ (h : Sim G R) (hI : GI G) (hi : i ≤ Nat.log2 G.N) (h0 : 0 ≤ v) (h1 : v < G.N) : ∃ (t : List Itm) (z : Nat), t ∈ lv G i ∧ (v, -1) ∈ t ∧ z < G.N ∧ LeastAt t z ∧ (v, v) ∈ R i z ∧ (∀ y, y < z → (v, v) ∉ R i y) ∧ R i z = (fromX t (z, -1)).map pv := by
  have L := hI.li i hi
  obtain ⟨t, ht, hv⟩ := L.all v h0 h1
  obtain ⟨z, z1, z2⟩ := L.least hI.n48 ht
  have n48 := hI.n48
  have := (h.fr i hi).hold L (fun t ht => hI.okI hi ht) ht hv z2
  rw [pv_vtx] at this
  exact ⟨t, z, ht, hv, z1, z2, this.1, fun y hy => this.2 y (by omega) (by omega), (h.fr i hi).at_ t ht z z2⟩
end

theorem leastV_spec (l : List Itm) (m : Int) : leastV l m ≤ m ∧ (∀ x, x ∈ l → x.2 < 0 → leastV l m ≤ x.1) ∧ (leastV l m = m ∨ ∃ x, x ∈ l ∧ x.2 < 0 ∧ leastV l m = x.1) := by
  induction l generalizing m with
  | nil => exact ⟨Int.le_refl _, fun x hx => by simp at hx, Or.inl rfl⟩
  | cons a l ih =>
    have e : leastV (a :: l) m = leastV l (if a.2 < 0 then min m a.1 else m) := rfl
    rw [e]
    obtain ⟨h1, h2, h3⟩ := ih (if a.2 < 0 then min m a.1 else m)
    by_cases c : a.2 < 0
    · rw [if_pos c] at h1 h2 h3 ⊢
      refine ⟨by omega, fun x hx hn => ?_, ?_⟩
      · rcases List.mem_cons.1 hx with rfl | q
        · omega
        · exact h2 x q hn
      · rcases h3 with q | ⟨x, q1, q2, q3⟩
        · by_cases d : m ≤ a.1
          · exact Or.inl (by omega)
          · exact Or.inr ⟨a, by simp, c, by omega⟩
        · exact Or.inr ⟨x, by simp [q1], q2, q3⟩
    · rw [if_neg c] at h1 h2 h3 ⊢
      refine ⟨h1, fun x hx hn => ?_, ?_⟩
      · rcases List.mem_cons.1 hx with rfl | q
        · exact absurd hn c
        · exact h2 x q hn
      · rcases h3 with q | ⟨x, q1, q2, q3⟩
        · exact Or.inl q
        · exact Or.inr ⟨x, by simp [q1], q2, q3⟩

theorem OkI.neg {x : Itm} (h : OkI x) : x.2 < 0 ↔ x.2 = -1 := by
  obtain ⟨_, _, h3⟩ := h
  constructor
  · intro q; rcases h3 with r | ⟨r, _⟩
    · exact r
    · omega
  · intro q; omega

theorem leastV_at {t : List Itm} (hT : Tour t) (ok : ∀ x, x ∈ t → OkI x) {v : Int} (hv : (v, -1) ∈ t) : LeastAt t (leastV t v) := by
  obtain ⟨h1, h2, h3⟩ := leastV_spec t v
  refine ⟨?_, fun x hx => h2 (x.1, -1) (hT.vtx x hx) (by show (-1 : Int) < 0; omega)⟩
  rcases h3 with q | ⟨x, q1, q2, q3⟩
  · rw [q]; exact hv
  · rw [q3]; exact hT.vtx x q1

/-- The vertices of a round, as numbers. -/
def verts (l : List Itm) : List Nat := (l.filter fun x => decide (x.2 < 0)).map fun x => x.1.toNat
theorem verts_length (l : List Itm) : (verts l).length = sizeV l := by simp [verts, sizeV]
theorem verts_mem {l : List Itm} (ok : ∀ x, x ∈ l → OkI x) {y : Nat} : y ∈ verts l ↔ ((y : Int), (-1 : Int)) ∈ l := by
  simp only [verts, List.mem_map, List.mem_filter, decide_eq_true_eq]
  constructor
  · rintro ⟨x, ⟨h1, h2⟩, rfl⟩
    have o := ok x h1
    have := o.neg.1 h2
    rw [Int.toNat_of_nonneg o.1, ← this]; exact h1
  · intro h
    exact ⟨_, ⟨h, by show (-1 : Int) < 0; omega⟩, by simp⟩

section
variable {G : Gr} {i : Nat}
/-- The lengths of two rounds tell which has fewer vertices. -/
theorem GI.len3 (h : GI G) (hi : i ≤ Nat.log2 G.N) {t : List Itm} (ht : t ∈ lv G i) : t.length + 2 = 3 * sizeV t :=
  Tour.len3 t.length (Nat.le_refl _) ((h.li i hi).tr t ht) ((h.li i hi).ne t ht) (fun x hx hn => (h.okI hi ht x hx).neg.1 hn) (fun x hx => (h.okI hi ht x hx).1)

/-- A round is known by a vertex of it. -/
theorem LI.lessT_at (h : GI G) (hi : i ≤ Nat.log2 G.N) {t : List Itm} (ht : t ∈ lv G i) {v : Int} (hv : (v, -1) ∈ t) : lessT G i v = t := by
  obtain ⟨k, h1, h2, h3⟩ := (h.li i hi).ix ht hv
  exact lessT_eq h2 h3
end

theorem look_fst {es : List Edg} {u v : Nat} : (look es u v).1 = true ↔ ∃ k : Nat, findIx es (min (u : Int) v) (max (u : Int) v) = k := by
  rcases find_cases es (min (u : Int) v) (max (u : Int) v) with h | ⟨k, h⟩
  · rw [look_no h]
    constructor
    · intro q; simp at q
    · rintro ⟨k, q⟩; omega
  · rw [look_at h]
    exact ⟨fun _ => ⟨k, h⟩, fun _ => rfl⟩

end Go.Proofs.YtckallochdegiaaGreat
