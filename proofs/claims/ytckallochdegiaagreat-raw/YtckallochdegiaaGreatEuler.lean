import Derived.Test.YtckallochdegiaaGreatPure
namespace Go.Proofs.YtckallochdegiaaGreat
set_option linter.unusedVariables false
set_option linter.unusedSimpArgs false

/-- t' is t, begun elsewhere. -/
def Rot (t t' : List Itm) : Prop := ∃ x y, t = x ++ y ∧ t' = y ++ x

theorem Rot.refl (t : List Itm) : Rot t t := ⟨[], t, by simp, by simp⟩
theorem Rot.symm {t t' : List Itm} (h : Rot t t') : Rot t' t := by
  obtain ⟨x, y, h1, h2⟩ := h
  exact ⟨y, x, h2, h1⟩
theorem Rot.trans {a b c : List Itm} (h : Rot a b) (k : Rot b c) : Rot a c := by
  obtain ⟨x, y, rfl, rfl⟩ := h
  obtain ⟨p, q, h1, rfl⟩ := k
  -- y ++ x = p ++ q
  rcases List.append_eq_append_iff.1 h1 with ⟨z, rfl, rfl⟩ | ⟨z, rfl, rfl⟩
  · -- p = y ++ z, x = z ++ q
    exact ⟨z, q ++ y, by simp, by simp⟩
  · -- y = p ++ z, q = z ++ x
    exact ⟨x ++ p, z, by simp, by simp⟩
theorem Rot.mem {t t' : List Itm} (h : Rot t t') (x : Itm) : x ∈ t ↔ x ∈ t' := by
  obtain ⟨a, b, rfl, rfl⟩ := h
  simp only [List.mem_append]; exact Or.comm
theorem Rot.nodup {t t' : List Itm} (h : Rot t t') (k : t.Nodup) : t'.Nodup := by
  obtain ⟨a, b, rfl, rfl⟩ := h
  rw [List.nodup_append] at k ⊢
  exact ⟨k.2.1, k.1, fun x hx y hy e => k.2.2 y hy x hx e.symm⟩
theorem Rot.length {t t' : List Itm} (h : Rot t t') : t'.length = t.length := by
  obtain ⟨a, b, rfl, rfl⟩ := h
  simp; omega
theorem Rot.sizeV {t t' : List Itm} (p : Itm → Bool) (h : Rot t t') : (t'.filter p).length = (t.filter p).length := by
  obtain ⟨a, b, rfl, rfl⟩ := h
  simp; omega

/-- Rounds without repeats that begin alike are alike. -/
theorem Rot.head_eq {z : Itm} {r s : List Itm} (h : Rot (z :: r) (z :: s)) (nd : (z :: r).Nodup) : r = s := by
  obtain ⟨x, y, h1, h2⟩ := h
  cases x with
  | nil => simp at h1 h2; rw [← h1] at h2; injection h2 with _ h3; exact h3.symm
  | cons a x =>
    cases y with
    | nil => simp at h1 h2; exact h1.2.trans h2.2.symm
    | cons b y =>
      simp at h1 h2
      obtain ⟨rfl, rfl⟩ := h1
      obtain ⟨rfl, rfl⟩ := h2
      simp at nd

/-- Every member can stand first. -/
theorem Rot.first {t : List Itm} {x : Itm} (h : x ∈ t) : ∃ r, Rot t (x :: r) := by
  obtain ⟨a, b, rfl⟩ := List.append_of_mem h
  exact ⟨b ++ a, a, x :: b, rfl, by simp⟩

theorem fromX_rot (t : List Itm) (x : Itm) : Rot t (match t.findIdx? (fun y => x == y) with | some k => t.drop k ++ t.take k | none => t) := by
  split
  · rename_i k _
    exact ⟨t.take k, t.drop k, (List.take_append_drop k t).symm, rfl⟩
  · exact Rot.refl t

/-- Where an item begins and ends. -/
def st (x : Itm) : Int := x.1
def en (x : Itm) : Int := if x.2 = -1 then x.1 else x.2

/-- Each item begins where the one ahead ends. -/
def Chn : List Itm → Prop
  | [] => True
  | [_] => True
  | x :: y :: r => en x = st y ∧ Chn (y :: r)

theorem Chn.tail {x : Itm} {r : List Itm} (h : Chn (x :: r)) : Chn r := by
  cases r with
  | nil => trivial
  | cons y r => exact h.2
theorem Chn.left {a b : List Itm} (h : Chn (a ++ b)) : Chn a := by
  induction a with
  | nil => trivial
  | cons x a ih =>
    cases a with
    | nil => trivial
    | cons y a => exact ⟨h.1, ih h.2⟩
theorem Chn.right {a b : List Itm} (h : Chn (a ++ b)) : Chn b := by
  induction a with
  | nil => exact h
  | cons x a ih => exact ih (Chn.tail h)
theorem Chn.join {a b : List Itm} (ha : Chn a) (hb : Chn b) (h : ∀ x y, a.getLast? = some x → b.head? = some y → en x = st y) : Chn (a ++ b) := by
  induction a with
  | nil => exact hb
  | cons x a ih =>
    cases a with
    | nil =>
      cases b with
      | nil => trivial
      | cons y b => exact ⟨h x y rfl rfl, hb⟩
    | cons z a => exact ⟨ha.1, ih ha.2 (fun p q hp hq => h p q (by simpa using hp) hq)⟩
theorem Chn.meet {a b : List Itm} {x y : Itm} (h : Chn (a ++ b)) (hx : a.getLast? = some x) (hy : b.head? = some y) : en x = st y := by
  induction a with
  | nil => simp at hx
  | cons z a ih =>
    cases a with
    | nil =>
      simp at hx; subst hx
      cases b with
      | nil => simp at hy
      | cons w b => simp at hy; subst hy; exact h.1
    | cons q a => exact ih (Chn.tail h) (by simpa using hx)

/-- A round: it closes. -/
def Rnd (t : List Itm) : Prop := Chn t ∧ ∀ x y, t.getLast? = some x → t.head? = some y → en x = st y

theorem Rnd.rot {t t' : List Itm} (h : Rnd t) (r : Rot t t') : Rnd t' := by
  obtain ⟨a, b, rfl, rfl⟩ := r
  cases a with
  | nil => simpa using h
  | cons p a =>
    cases hb : b.getLast? with
    | none =>
      have : b = [] := by simpa using hb
      subst this; simpa using h
    | some q =>
      have hbne : b ≠ [] := by intro e; subst e; simp at hb
      refine ⟨Chn.join h.1.right h.1.left (fun x y hx hy => ?_), fun x y hx hy => ?_⟩
      · apply h.2 x y
        · rw [List.getLast?_append, hx]; rfl
        · simpa using hy
      · have hx' : (p :: a).getLast? = some x := by
          rw [List.getLast?_append] at hx
          cases hpa : (p :: a).getLast? with
          | none => simp at hpa
          | some z => rw [hpa] at hx; simpa using hx
        have hy' : b.head? = some y := by
          cases b with
          | nil => exact absurd rfl hbne
          | cons z b => simpa using hy
        exact h.1.meet hx' hy'

end Go.Proofs.YtckallochdegiaaGreat
namespace Go.Proofs.YtckallochdegiaaGreat
set_option linter.unusedVariables false
set_option linter.unusedSimpArgs false

/-- The ends of u - v part the round: what begins on the one side begins nowhere on the other. -/
def Sep (t : List Itm) (u v : Int) : Prop := ∃ A B, Rot t ((u, v) :: (A ++ (v, u) :: B)) ∧ ∀ x, x ∈ A ++ [(v, u)] → ∀ y, y ∈ B ++ [(u, v)] → x.1 ≠ y.1

/-- t is the round of a tree. -/
structure Tour (t : List Itm) : Prop where
  nd : t.Nodup
  rnd : Rnd t
  way : ∀ x, x ∈ t → x.2 ≠ -1 → (x.2, x.1) ∈ t ∧ x.1 ≠ -1
  vtx : ∀ x, x ∈ t → (x.1, -1) ∈ t
  sep : ∀ x, x ∈ t → x.2 ≠ -1 → Sep t x.1 x.2

theorem Sep.rot {t t' : List Itm} {u v : Int} (h : Sep t u v) (r : Rot t t') : Sep t' u v := by
  obtain ⟨A, B, h1, h2⟩ := h
  exact ⟨A, B, r.symm.trans h1, h2⟩

theorem Tour.rot {t t' : List Itm} (h : Tour t) (r : Rot t t') : Tour t' :=
  ⟨r.nodup h.nd, h.rnd.rot r, fun x hx hw => ⟨(r.mem _).1 (h.way x ((r.mem x).2 hx) hw).1, (h.way x ((r.mem x).2 hx) hw).2⟩, fun x hx => (r.mem _).1 (h.vtx x ((r.mem x).2 hx)), fun x hx hw => (h.sep x ((r.mem x).2 hx) hw).rot r⟩

theorem tour_one (v : Int) (h : v ≠ -1) : Tour [(v, -1)] := by
  refine ⟨by simp, ⟨trivial, fun x y hx hy => ?_⟩, ?_, ?_, ?_⟩
  · simp at hx hy; subst hx; subst hy; simp [en, st]
  · intro x hx hw; simp at hx; subst hx; simp at hw
  · intro x hx; simp at hx; subst hx; simp
  · intro x hx hw; simp at hx; subst hx; simp at hw

/-- Sep, where something that begins at u is let in ahead of the vertex u. -/
theorem Sep.insert {a X : List Itm} {u x y : Int} (nd : ((u, -1) :: a).Nodup) (hs : Sep ((u, -1) :: a) x y) (hy : y ≠ -1) (hx : x ≠ -1)
    (hX : ∀ p, p ∈ X → p.1 = u ∨ ∀ q, q ∈ (u, -1) :: a → p.1 ≠ q.1) : Sep ((u, -1) :: a ++ X) x y := by
  obtain ⟨A, B, ⟨p, q, h1, h2⟩, hd⟩ := hs
  -- the round is p ++ q, and q ++ p begins with the way
  cases p with
  | nil =>
    simp at h1 h2
    rw [← h1] at h2
    injection h2 with h3 _
    have := congrArg Prod.snd h3
    exact absurd this hy
  | cons p0 p =>
    simp at h1
    obtain ⟨rfl, rfl⟩ := h1
    cases q with
    | nil =>
      simp at h2
      exact absurd h2.1.2 hy
    | cons q0 q =>
      simp at h2
      obtain ⟨rfl, h2⟩ := h2
      -- A ++ (y, x) :: B = q ++ (u, -1) :: p
      have rot : Rot ((u, -1) :: (p ++ (x, y) :: q) ++ X) ((x, y) :: (q ++ X ++ (u, -1) :: p)) := ⟨(u, -1) :: p, (x, y) :: q ++ X, by simp, by simp⟩
      rcases List.append_eq_append_iff.1 h2 with ⟨z, h3, h4⟩ | ⟨z, h3, h4⟩
      · -- q = A ++ z, (y, x) :: B = z ++ (u, -1) :: p
        cases z with
        | nil =>
          simp at h4
          exact absurd h4.1.2 hx
        | cons z0 z =>
          simp at h4
          obtain ⟨rfl, rfl⟩ := h4
          subst h3
          refine ⟨A, z ++ X ++ (u, -1) :: p, by simpa using rot, ?_⟩
          intro a1 ha1 b1 hb1
          have hu : ∀ c, c ∈ A ++ [(y, x)] → c.1 ≠ u := fun c hc => hd c hc (u, -1) (by simp)
          simp only [List.append_assoc, List.mem_append] at hb1
          have old : b1 ∈ (z ++ (u, -1) :: p) ++ [(x, y)] → a1.1 ≠ b1.1 := fun k => hd a1 ha1 b1 k
          rcases hb1 with k | k | k | k
          · exact old (by simp [k])
          · rcases hX b1 k with e | e
            · rw [e]; exact hu a1 ha1
            · refine fun q => e a1 ?_ q.symm
              simp only [List.mem_append, List.mem_singleton] at ha1
              rcases ha1 with ha1 | rfl
              · simp [ha1]
              · simp
          · exact old (by simp only [List.mem_append]; exact Or.inl (Or.inr k))
          · exact old (by simp only [List.mem_append]; exact Or.inr k)
      · -- A = q ++ z, (u, -1) :: p = z ++ (y, x) :: B
        cases z with
        | nil =>
          simp at h4
          exact absurd h4.1.2.symm hx
        | cons z0 z =>
          simp at h4
          obtain ⟨rfl, rfl⟩ := h4
          subst h3
          refine ⟨q ++ X ++ (u, -1) :: z, B, by simpa using rot, ?_⟩
          intro a1 ha1 b1 hb1
          have hu : ∀ c, c ∈ B ++ [(x, y)] → u ≠ c.1 := fun c hc => hd (u, -1) (by simp) c hc
          simp only [List.append_assoc, List.mem_append] at ha1
          have old : a1 ∈ (q ++ (u, -1) :: z) ++ [(y, x)] → a1.1 ≠ b1.1 := fun k => hd a1 k b1 hb1
          rcases ha1 with k | k | k | k
          · exact old (by simp [k])
          · rcases hX a1 k with e | e
            · rw [e]; exact hu b1 hb1
            · refine e b1 ?_
              simp only [List.mem_append, List.mem_singleton] at hb1
              rcases hb1 with hb1 | rfl
              · simp [hb1]
              · simp
          · exact old (by simp only [List.mem_append]; exact Or.inl (Or.inr k))
          · exact old (by simp only [List.mem_append]; exact Or.inr k)

/-- Two rounds share no vertex. -/
def Dj (a b : List Itm) : Prop := ∀ x, x ∈ a → ∀ y, y ∈ b → x.1 ≠ y.1

theorem last_snoc (l : List Itm) (x y : Itm) (h : (l ++ [x]).getLast? = some y) : y = x := by
  rw [List.getLast?_append] at h
  simp at h; exact h.symm

/-- LINK: round u's, on to v, round v's, back. -/
theorem Tour.link {a b : List Itm} {u v : Int} (ha : Tour ((u, -1) :: a)) (hb : Tour ((v, -1) :: b)) (hd : Dj ((u, -1) :: a) ((v, -1) :: b)) (hu : u ≠ -1) (hv : v ≠ -1) :
    Tour (((u, -1) :: a) ++ [(u, v)] ++ (((v, -1) :: b) ++ [(v, u)])) := by
  have huv : u ≠ v := hd (u, -1) (by simp) (v, -1) (by simp)
  -- the ways between are new
  have n1 : (u, v) ∉ (u, -1) :: a := by
    intro k
    exact hd _ (ha.way _ k (by exact hv)).1 (v, -1) (by simp) rfl
  have n2 : (v, u) ∉ (v, -1) :: b := by
    intro k
    exact hd (u, -1) (by simp) _ (hb.way _ k (by exact hu)).1 rfl
  have n3 : (u, v) ∉ (v, -1) :: b := fun k => hd (u, -1) (by simp) _ k rfl
  have n4 : (v, u) ∉ (u, -1) :: a := fun k => hd _ k (v, -1) (by simp) rfl
  have mem : ∀ x, x ∈ ((u, -1) :: a) ++ [(u, v)] ++ (((v, -1) :: b) ++ [(v, u)]) ↔ (x ∈ (u, -1) :: a ∨ x = (u, v)) ∨ (x ∈ (v, -1) :: b ∨ x = (v, u)) := by
    intro x; simp only [List.mem_append, List.mem_singleton]
  have half : ∀ {p q : List Itm} {s r : Int}, Tour ((s, -1) :: p) → Tour ((r, -1) :: q) → Dj ((s, -1) :: p) ((r, -1) :: q) → ∀ x, x ∈ (s, -1) :: p → x.2 ≠ -1 → Sep (((s, -1) :: p) ++ [(s, r)] ++ (((r, -1) :: q) ++ [(r, s)])) x.1 x.2 := by
    intro p q s r hp hq hdj x hx hw
    have := Sep.insert (X := [(s, r)] ++ (((r, -1) :: q) ++ [(r, s)])) hp.nd (hp.sep x hx hw) hw (hp.way x hx hw).2 ?_
    · simpa using this
    · intro y hy
      simp only [List.mem_append, List.mem_singleton] at hy
      rcases hy with rfl | hy | rfl
      · exact Or.inl rfl
      · exact Or.inr (fun z hz e => hdj z hz y hy e.symm)
      · exact Or.inr (fun z hz e => hdj z hz (r, -1) (by simp) e.symm)
  refine ⟨?_, ⟨?_, ?_⟩, ?_, ?_, ?_⟩
  · -- no repeats
    rw [List.nodup_append, List.nodup_append, List.nodup_append]
    refine ⟨⟨ha.nd, by simp, fun x hx y hy e => ?_⟩, ⟨hb.nd, by simp, fun x hx y hy e => ?_⟩, fun x hx y hy e => ?_⟩
    · simp at hy; subst hy; subst e; exact n1 hx
    · simp at hy; subst hy; subst e; exact n2 hx
    · subst e
      simp only [List.mem_append, List.mem_singleton] at hx hy
      rcases hx with hx | rfl
      · rcases hy with hy | rfl
        · exact hd x hx x hy rfl
        · exact n4 hx
      · rcases hy with hy | hy
        · exact n3 hy
        · have := congrArg Prod.fst hy; exact huv this
  · -- the chain
    refine Chn.join (Chn.join ha.rnd.1 trivial (fun x y hx hy => ?_)) (Chn.join hb.rnd.1 trivial (fun x y hx hy => ?_)) (fun x y hx hy => ?_)
    · simp at hy; subst hy; exact ha.rnd.2 x (u, -1) hx rfl
    · simp at hy; subst hy; exact hb.rnd.2 x (v, -1) hx rfl
    · have := last_snoc _ _ _ hx; subst this
      simp at hy; subst hy
      simp [en, st, hv]
  · intro x y hx hy
    have h1 : x = (v, u) := by
      rw [← List.append_assoc] at hx
      exact last_snoc _ _ _ hx
    subst h1
    simp at hy; subst hy
    simp [en, st, hu]
  · intro x hx hw
    rw [mem] at hx
    rcases hx with (hx | rfl) | (hx | rfl)
    · exact ⟨(mem _).2 (Or.inl (Or.inl (ha.way x hx hw).1)), (ha.way x hx hw).2⟩
    · exact ⟨(mem _).2 (Or.inr (Or.inr rfl)), hu⟩
    · exact ⟨(mem _).2 (Or.inr (Or.inl (hb.way x hx hw).1)), (hb.way x hx hw).2⟩
    · exact ⟨(mem _).2 (Or.inl (Or.inr rfl)), hv⟩
  · intro x hx
    rw [mem] at hx
    rcases hx with (hx | rfl) | (hx | rfl)
    · exact (mem _).2 (Or.inl (Or.inl (ha.vtx x hx)))
    · exact (mem _).2 (Or.inl (Or.inl (by simp)))
    · exact (mem _).2 (Or.inr (Or.inl (hb.vtx x hx)))
    · exact (mem _).2 (Or.inr (Or.inl (by simp)))
  · have hd' : Dj ((v, -1) :: b) ((u, -1) :: a) := fun x hx y hy e => hd y hy x hx e.symm
    have rr : Rot (((v, -1) :: b) ++ [(v, u)] ++ (((u, -1) :: a) ++ [(u, v)])) (((u, -1) :: a) ++ [(u, v)] ++ (((v, -1) :: b) ++ [(v, u)])) := ⟨_, _, rfl, rfl⟩
    have main : Sep (((u, -1) :: a) ++ [(u, v)] ++ (((v, -1) :: b) ++ [(v, u)])) u v := by
      refine ⟨(v, -1) :: b, (u, -1) :: a, ⟨(u, -1) :: a, [(u, v)] ++ (((v, -1) :: b) ++ [(v, u)]), by simp, by simp⟩, ?_⟩
      intro x hx y hy e
      simp only [List.mem_append, List.mem_singleton] at hx hy
      rcases hx with hx | rfl
      · rcases hy with hy | rfl
        · exact hd y hy x hx e.symm
        · exact hd (u, -1) (by simp) x hx e.symm
      · rcases hy with hy | rfl
        · exact hd y hy (v, -1) (by simp) e.symm
        · exact huv e.symm
    intro x hx hw
    rw [mem] at hx
    rcases hx with (hx | rfl) | (hx | rfl)
    · exact half ha hb hd x hx hw
    · exact main
    · exact (half hb ha hd' x hx hw).rot rr
    · obtain ⟨A, B, h1, h2⟩ := main
      refine ⟨B, A, h1.trans ⟨(u, v) :: A, (v, u) :: B, by simp, by simp⟩, fun x hx y hy e => h2 y hy x hx e.symm⟩

end Go.Proofs.YtckallochdegiaaGreat
namespace Go.Proofs.YtckallochdegiaaGreat
set_option linter.unusedVariables false
set_option linter.unusedSimpArgs false

theorem split_unique {A B A' B' : List Itm} {z : Itm} (nd : (A ++ z :: B).Nodup) (h : A ++ z :: B = A' ++ z :: B') : A = A' ∧ B = B' := by
  have nz : z ∉ A := by
    rw [List.nodup_append] at nd
    exact fun k => nd.2.2 z k z (by simp) rfl
  rcases List.append_eq_append_iff.1 h with ⟨y, h1, h2⟩ | ⟨y, h1, h2⟩
  · cases y with
    | nil => simp at h1 h2; exact ⟨h1.symm, h2⟩
    | cons y0 y =>
      simp at h2
      obtain ⟨rfl, h2⟩ := h2
      rw [h2, List.nodup_append] at nd
      have := nd.2.1
      simp at this
  · cases y with
    | nil => simp at h1 h2; exact ⟨h1, h2.symm⟩
    | cons y0 y =>
      simp at h2
      obtain ⟨rfl, h2⟩ := h2
      exact absurd (by rw [h1]; simp) nz

/-- In a round from u - v on, the two sides share no vertex. -/
theorem Tour.sides {A B : List Itm} {u v : Int} (h : Tour ((u, v) :: (A ++ (v, u) :: B))) (hv : v ≠ -1) : ∀ x, x ∈ A ++ [(v, u)] → ∀ y, y ∈ B ++ [(u, v)] → x.1 ≠ y.1 := by
  obtain ⟨A', B', h1, h2⟩ := h.sep (u, v) (by simp) hv
  have e := h1.head_eq h.nd
  have nd : (A ++ (v, u) :: B).Nodup := (List.nodup_cons.1 h.nd).2
  obtain ⟨rfl, rfl⟩ := split_unique nd e
  exact h2

/-- CUT: what lies between the ways there and back is a round. -/
theorem Tour.cut {A B : List Itm} {u v : Int} (h : Tour ((u, v) :: (A ++ (v, u) :: B))) (hu : u ≠ -1) (hv : v ≠ -1) : Tour A ∧ (v, -1) ∈ A := by
  have sd := h.sides hv
  have ndc := List.nodup_cons.1 h.nd
  have nd2 := List.nodup_append.1 ndc.2
  have ndB := List.nodup_cons.1 nd2.2.1
  have inS1 : ∀ x, x ∈ (u, v) :: (A ++ (v, u) :: B) → (∃ y, y ∈ A ++ [(v, u)] ∧ y.1 = x.1) → x ∈ A ++ [(v, u)] := by
    rintro x hx ⟨y, hy, e⟩
    simp only [List.mem_cons, List.mem_append] at hx
    rcases hx with rfl | hx | rfl | hx
    · exact absurd e (sd y hy (u, v) (by simp))
    · simp [hx]
    · simp
    · exact absurd e (sd y hy x (by simp [hx]))
  have hvA : (v, -1) ∈ A := by
    have := inS1 (v, -1) (h.vtx (v, u) (by simp)) ⟨(v, u), by simp, rfl⟩
    simp only [List.mem_append, List.mem_singleton, Prod.mk.injEq] at this
    rcases this with k | k
    · exact k
    · exact absurd k.2.symm hu
  have sub : ∀ x, x ∈ A → x ∈ (u, v) :: (A ++ (v, u) :: B) := fun x hx => by simp [hx]
  have hvu : (v, u) ∉ A := fun k => nd2.2.2 _ k (v, u) (by simp) rfl
  have huv : (u, v) ∉ A := fun k => ndc.1 (by simp [k])
  have chA : Chn (A ++ (v, u) :: B) := Chn.tail h.rnd.1
  have nextIn : ∀ x, x ∈ A → ∃ y, y ∈ A ++ [(v, u)] ∧ y.1 = en x := by
    intro x hx
    obtain ⟨p, q, rfl⟩ := List.append_of_mem hx
    cases q with
    | nil =>
      refine ⟨(v, u), by simp, ?_⟩
      have := Chn.meet (a := p ++ [x]) (b := (v, u) :: B) (x := x) (y := (v, u)) (by simpa using chA) (by simp) rfl
      exact this.symm
    | cons y q =>
      refine ⟨y, by simp, ?_⟩
      have := Chn.meet (a := p ++ [x]) (b := y :: q ++ (v, u) :: B) (x := x) (y := y) (by simpa using chA) (by simp) rfl
      exact this.symm
  refine ⟨⟨nd2.1, ⟨Chn.left chA, ?_⟩, ?_, ?_, ?_⟩, hvA⟩
  · intro x y hx hy
    have hx2 : en x = v := Chn.meet (y := (v, u)) chA hx rfl
    have hy2 : v = st y := by
      cases A with
      | nil => simp at hy
      | cons z A =>
        simp at hy; subst hy
        have := h.rnd.1.1
        simpa [en, hv] using this
    rw [hx2, hy2]
  · intro x hx hw
    have k := h.way x (sub x hx) hw
    refine ⟨?_, k.2⟩
    have e : en x = x.2 := by simp [en, hw]
    obtain ⟨y, hy, hye⟩ := nextIn x hx
    have := inS1 (x.2, x.1) k.1 ⟨y, hy, by rw [hye, e]⟩
    simp only [List.mem_append, List.mem_singleton, Prod.mk.injEq] at this
    rcases this with q | ⟨q1, q2⟩
    · exact q
    · exfalso
      have : x = (u, v) := by rw [← q1, ← q2]
      exact huv (this ▸ hx)
  · intro x hx
    have := inS1 (x.1, -1) (h.vtx x (sub x hx)) ⟨x, by simp [hx], rfl⟩
    simp only [List.mem_append, List.mem_singleton, Prod.mk.injEq] at this
    rcases this with k | k
    · exact k
    · exact absurd k.2.symm hu
  · intro x hx hw
    obtain ⟨P, Q, r, hd⟩ := h.sep x (sub x hx) hw
    obtain ⟨x1, x2⟩ := x
    simp only at hw r hd ⊢
    have hback : (x2, x1) ∈ A := by
      have k := h.way (x1, x2) (sub _ hx) hw
      have e : en (x1, x2) = x2 := by simp only [en]; rw [if_neg hw]
      obtain ⟨y, hy, hye⟩ := nextIn _ hx
      have := inS1 (x2, x1) k.1 ⟨y, hy, by rw [hye, e]⟩
      simp only [List.mem_append, List.mem_singleton, Prod.mk.injEq] at this
      rcases this with q | ⟨q1, q2⟩
      · exact q
      · exfalso
        rw [q1, q2] at hx
        exact huv hx
    have hne : (x1, x2) ≠ (x2, x1) := by
      intro e
      -- then the two sides share the start x2 = x1
      have e1 : x1 = x2 := congrArg Prod.fst e
      exact hd (x2, x1) (by simp) (x1, x2) (by simp) e1.symm
    obtain ⟨p, q, hA⟩ := List.append_of_mem hx
    have hback2 : (x2, x1) ∈ p ∨ (x2, x1) ∈ q := by
      rw [hA] at hback
      simp only [List.mem_append, List.mem_cons] at hback
      rcases hback with k | k | k
      · exact Or.inl k
      · exact absurd k.symm hne
      · exact Or.inr k
    rcases hback2 with hb | hb
    · -- A = p1 ++ back :: p2 ++ way :: q
      obtain ⟨p1, p2, rfl⟩ := List.append_of_mem hb
      subst hA
      have r2 : Rot ((u, v) :: (p1 ++ (x2, x1) :: p2 ++ (x1, x2) :: q ++ (v, u) :: B)) ((x1, x2) :: ((q ++ (v, u) :: B ++ (u, v) :: p1) ++ (x2, x1) :: p2)) := ⟨(u, v) :: (p1 ++ (x2, x1) :: p2), (x1, x2) :: q ++ (v, u) :: B, by simp, by simp⟩
      have e := (r2.symm.trans r).head_eq (r2.nodup h.nd)
      have nd' := (List.nodup_cons.1 (r2.nodup h.nd)).2
      obtain ⟨rfl, rfl⟩ := split_unique nd' e
      refine ⟨q ++ p1, p2, ⟨p1 ++ (x2, x1) :: p2, (x1, x2) :: q, by simp, by simp⟩, ?_⟩
      intro a ha b hb
      refine hd a ?_ b hb
      simp only [List.mem_append, List.mem_singleton, List.mem_cons] at ha ⊢
      rcases ha with (ha | ha) | ha
      · exact Or.inl (Or.inl (Or.inl ha))
      · exact Or.inl (Or.inr (Or.inr ha))
      · exact Or.inr ha
    · obtain ⟨q1, q2, rfl⟩ := List.append_of_mem hb
      subst hA
      have r2 : Rot ((u, v) :: (p ++ (x1, x2) :: (q1 ++ (x2, x1) :: q2) ++ (v, u) :: B)) ((x1, x2) :: (q1 ++ (x2, x1) :: (q2 ++ (v, u) :: B ++ (u, v) :: p))) := ⟨(u, v) :: p, (x1, x2) :: (q1 ++ (x2, x1) :: q2) ++ (v, u) :: B, by simp, by simp⟩
      have e := (r2.symm.trans r).head_eq (r2.nodup h.nd)
      have nd' := (List.nodup_cons.1 (r2.nodup h.nd)).2
      obtain ⟨rfl, rfl⟩ := split_unique nd' e
      refine ⟨q1, q2 ++ p, ⟨p, (x1, x2) :: (q1 ++ (x2, x1) :: q2), by simp, by simp⟩, ?_⟩
      intro a ha b hb
      refine hd a ha b ?_
      simp only [List.mem_append, List.mem_singleton, List.mem_cons] at hb ⊢
      rcases hb with (hb | hb) | hb
      · exact Or.inl (Or.inl (Or.inl hb))
      · exact Or.inl (Or.inr (Or.inr hb))
      · exact Or.inr hb

/-- The other side. -/
theorem Tour.flip {A B : List Itm} {u v : Int} (h : Tour ((u, v) :: (A ++ (v, u) :: B))) : Tour ((v, u) :: (B ++ (u, v) :: A)) :=
  h.rot ⟨(u, v) :: A, (v, u) :: B, by simp, by simp⟩

end Go.Proofs.YtckallochdegiaaGreat
namespace Go.Proofs.YtckallochdegiaaGreat
set_option linter.unusedVariables false
set_option linter.unusedSimpArgs false

theorem Dj.symm {a b : List Itm} (h : Dj a b) : Dj b a := fun x hx y hy e => h y hy x hx e.symm

/-- a - b is an edge of the forest of level i or more. -/
def TreeE (es : List Edg) (i : Nat) (a b : Int) : Prop := ∃ e, e ∈ es ∧ e.tree = true ∧ (i : Int) ≤ e.lev ∧ ((e.u = a ∧ e.v = b) ∨ (e.u = b ∧ e.v = a))

theorem TreeE.symm {es : List Edg} {i : Nat} {a b : Int} (h : TreeE es i a b) : TreeE es i b a := by
  obtain ⟨e, h1, h2, h3, h4⟩ := h
  exact ⟨e, h1, h2, h3, h4.symm⟩

/-- The tours of level i. -/
structure LI (N : Nat) (es : List Edg) (i : Nat) (ts : List (List Itm)) : Prop where
  tr : ∀ t, t ∈ ts → Tour t
  ne : ∀ t, t ∈ ts → t ≠ []
  dj : ts.Pairwise Dj
  all : ∀ v : Int, 0 ≤ v → v < N → ∃ t, t ∈ ts ∧ (v, -1) ∈ t
  rng : ∀ t, t ∈ ts → ∀ x, x ∈ t → (0 ≤ x.1 ∧ x.1 < N) ∧ (x.2 = -1 ∨ TreeE es i x.1 x.2)
  siz : ∀ t, t ∈ ts → sizeV t * 2 ^ i ≤ N

/-- Every edge of the forest of that level and above is met. -/
def Cov (es : List Edg) (i : Nat) (ts : List (List Itm)) : Prop := ∀ e, e ∈ es → e.tree = true → (i : Int) ≤ e.lev → ∃ t, t ∈ ts ∧ (e.u, e.v) ∈ t

/-- a and b are in one tree. -/
def Same (ts : List (List Itm)) (a b : Int) : Prop := ∃ t, t ∈ ts ∧ (a, -1) ∈ t ∧ (b, -1) ∈ t

theorem pair_ne {ts : List (List Itm)} (h : ts.Pairwise Dj) {i j : Nat} (hi : i < ts.length) (hj : j < ts.length) (e : i ≠ j) : Dj ts[i] ts[j] := by
  rw [List.pairwise_iff_getElem] at h
  by_cases k : i < j
  · exact h i j hi hj k
  · exact (h j i hj hi (by omega)).symm

section
variable {N : Nat} {es : List Edg} {i : Nat} {ts : List (List Itm)}

theorem LI.uniq (h : LI N es i ts) {t s : List Itm} (ht : t ∈ ts) (hs : s ∈ ts) {x y : Itm} (hx : x ∈ t) (hy : y ∈ s) (e : x.1 = y.1) : t = s := by
  obtain ⟨a, ha, rfl⟩ := List.mem_iff_getElem.1 ht
  obtain ⟨b, hb, rfl⟩ := List.mem_iff_getElem.1 hs
  by_cases k : a = b
  · subst k; rfl
  · exact absurd e (pair_ne h.dj ha hb k x hx y hy)

theorem hasV_iff (t : List Itm) (v : Int) : hasV t v = true ↔ (v, -1) ∈ t := by
  simp only [hasV, List.any_eq_true, beq_iff_eq]
  exact ⟨fun ⟨x, hx, e⟩ => e ▸ hx, fun h => ⟨_, h, rfl⟩⟩

/-- Which tour a vertex is in. -/
theorem LI.ix (h : LI N es i ts) {t : List Itm} (ht : t ∈ ts) {v : Int} (hv : (v, -1) ∈ t) : ∃ k, k < ts.length ∧ tourIx ts v = k ∧ ts[k]?.getD [] = t := by
  obtain ⟨k, hk, rfl⟩ := List.mem_iff_getElem.1 ht
  refine ⟨k, hk, tourIx_some hk (by rw [get_eq hk]; exact (hasV_iff _ _).2 hv) (fun j hj => ?_), get_eq hk⟩
  cases hh : hasV (ts[j]?.getD []) v
  · rfl
  · rw [get_eq (by omega)] at hh
    have := (hasV_iff _ _).1 hh
    exact absurd rfl (pair_ne h.dj (by omega) hk (by omega) _ this _ hv)

theorem LI.ix_of (h : LI N es i ts) {v : Int} (h0 : 0 ≤ v) (h1 : v < N) : ∃ k t, k < ts.length ∧ tourIx ts v = k ∧ ts[k]?.getD [] = t ∧ t ∈ ts ∧ (v, -1) ∈ t := by
  obtain ⟨t, ht, hv⟩ := h.all v h0 h1
  obtain ⟨k, a, b, c⟩ := h.ix ht hv
  exact ⟨k, t, a, b, c, ht, hv⟩

theorem LI.same_iff (h : LI N es i ts) {a b : Int} (ha0 : 0 ≤ a) (ha1 : a < N) (hb0 : 0 ≤ b) (hb1 : b < N) : Same ts a b ↔ tourIx ts a = tourIx ts b := by
  obtain ⟨k, t, hk, e1, e2, ht, hv⟩ := h.ix_of ha0 ha1
  obtain ⟨m, s, hm, f1, f2, hs, hw⟩ := h.ix_of hb0 hb1
  rw [e1, f1]
  constructor
  · rintro ⟨r, hr, p, q⟩
    have g1 := h.uniq hr ht p hv rfl
    have g2 := h.uniq hr hs q hw rfl
    obtain ⟨k', hk', e3, _⟩ := h.ix hr p
    obtain ⟨m', hm', f3, _⟩ := h.ix hr q
    rw [e1] at e3; rw [f1] at f3
    subst g1
    have : ts[m]?.getD [] = ts[k]?.getD [] := by rw [e2, f2, ← g2]
    rw [get_eq hm, get_eq hk] at this
    by_cases c : k = m
    · rw [c]
    · have := pair_ne h.dj hk hm c
      rw [get_eq hk] at e2
      rw [get_eq hm] at f2
      rw [e2, f2] at this
      have hh : r ≠ [] := h.ne r hr
      exact absurd rfl (this (a, -1) hv (a, -1) (by rw [← g2]; exact hv))
  · intro e
    have : k = m := by omega
    subst this
    exact ⟨t, ht, hv, by rw [← e2, f2]; exact hw⟩

theorem Same.symm {a b : Int} (h : Same ts a b) : Same ts b a := by
  obtain ⟨t, h1, h2, h3⟩ := h
  exact ⟨t, h1, h3, h2⟩
theorem LI.same_trans (h : LI N es i ts) {a b c : Int} (p : Same ts a b) (q : Same ts b c) : Same ts a c := by
  obtain ⟨t, h1, h2, h3⟩ := p
  obtain ⟨s, k1, k2, k3⟩ := q
  have := h.uniq h1 k1 h3 k2 rfl
  subst this
  exact ⟨t, h1, h2, k3⟩

/-- Bounds. -/
theorem nodup_bound (l : List Nat) (n : Nat) (nd : l.Nodup) (h : ∀ x, x ∈ l → x < n) : l.length ≤ n := by
  induction n generalizing l with
  | zero =>
    cases l with
    | nil => simp
    | cons a l => exact absurd (h a (by simp)) (by omega)
  | succ n ih =>
    by_cases hn : n ∈ l
    · have h1 := ih (l.erase n) (nd.erase n) (fun x hx => by
        have hx2 := List.mem_of_mem_erase hx
        have : x ≠ n := fun e => by subst e; exact (List.Nodup.not_mem_erase nd) hx
        have := h x hx2
        omega)
      rw [List.length_erase_of_mem hn] at h1
      omega
    · have := ih l nd (fun x hx => by
        have : x ≠ n := fun e => hn (e ▸ hx)
        have := h x hx
        omega)
      omega

def code (x : Itm) : Nat := x.1.toNat * 49 + (x.2 + 1).toNat

theorem LI.len (h : LI N es i ts) (hN : N ≤ 48) (hE : ∀ e, e ∈ es → 0 ≤ e.u ∧ e.u < N ∧ 0 ≤ e.v ∧ e.v < N) {t : List Itm} (ht : t ∈ ts) : t.length ≤ 2352 := by
  have key : ∀ x, x ∈ t → 0 ≤ x.1 ∧ x.1 < 48 ∧ -1 ≤ x.2 ∧ x.2 < 48 := by
    intro x hx
    obtain ⟨⟨a, b⟩, c⟩ := h.rng t ht x hx
    refine ⟨a, by omega, ?_, ?_⟩
    · rcases c with c | ⟨e, he, _, _, c⟩
      · omega
      · have := hE e he; rcases c with c | c <;> omega
    · rcases c with c | ⟨e, he, _, _, c⟩
      · omega
      · have := hE e he; rcases c with c | c <;> omega
  have nd : (t.map code).Nodup := by
    rw [List.Nodup, List.pairwise_map]
    refine List.Pairwise.imp_of_mem ?_ (h.tr t ht).nd
    intro a b ha hb hab e
    have ka := key a ha
    have kb := key b hb
    unfold code at e
    apply hab
    have e1 : a.1 = b.1 := by omega
    have e2 : a.2 = b.2 := by omega
    exact Prod.ext e1 e2
  have := nodup_bound (t.map code) 2352 nd (fun y hy => by
    obtain ⟨x, hx, rfl⟩ := List.mem_map.1 hy
    have k := key x hx
    unfold code; omega)
  simpa using this

theorem LI.count (h : LI N es i ts) : ts.length ≤ N := by
  have nd : (ts.map fun t => ((t.head?.getD (0, 0)).1).toNat).Nodup := by
    rw [List.Nodup, List.pairwise_map]
    refine List.Pairwise.imp_of_mem ?_ h.dj
    intro a b ha hb hab e
    cases a with
    | nil => exact h.ne _ ha rfl
    | cons x a =>
      cases b with
      | nil => exact h.ne _ hb rfl
      | cons y b =>
        have r1 := (h.rng _ ha x (by simp)).1
        have r2 := (h.rng _ hb y (by simp)).1
        have := hab x (by simp) y (by simp)
        simp at e
        omega
  have := nodup_bound _ N nd (fun y hy => by
    obtain ⟨t, ht, rfl⟩ := List.mem_map.1 hy
    cases t with
    | nil => exact absurd rfl (h.ne _ ht)
    | cons x t =>
      have r1 := (h.rng _ ht x (by simp)).1
      simp; omega)
  simpa using this
end

end Go.Proofs.YtckallochdegiaaGreat
namespace Go.Proofs.YtckallochdegiaaGreat
set_option linter.unusedVariables false
set_option linter.unusedSimpArgs false

def rest (ts : List (List Itm)) (ka kb : Nat) : List (List Itm) := (others ka kb ts.length).map (fun k => ts[k]?.getD [])

theorem range_map (ts : List (List Itm)) : (List.range ts.length).map (fun k => ts[k]?.getD []) = ts := by
  apply List.ext_getElem
  · simp
  · intro n h1 h2
    simp [h2]

theorem rest_sub (ts : List (List Itm)) (ka kb : Nat) : (rest ts ka kb).Sublist ts := by
  have := List.Sublist.map (fun k => ts[k]?.getD []) (List.filter_sublist (p := fun j => decide (j ≠ ka) && decide (j ≠ kb)) (l := List.range ts.length))
  rw [range_map] at this
  exact this

theorem rest_mem {ts : List (List Itm)} {ka kb : Nat} {t : List Itm} : t ∈ rest ts ka kb ↔ ∃ k, k < ts.length ∧ k ≠ ka ∧ k ≠ kb ∧ ts[k]?.getD [] = t := by
  simp only [rest, others, List.mem_map, List.mem_filter, List.mem_range, Bool.and_eq_true, decide_eq_true_eq]
  constructor
  · rintro ⟨k, ⟨a, b, c⟩, d⟩; exact ⟨k, a, b, c, d⟩
  · rintro ⟨k, a, b, c, d⟩; exact ⟨k, ⟨a, b, c⟩, d⟩

theorem rest_or {ts : List (List Itm)} {ka kb : Nat} {t : List Itm} (h : t ∈ ts) : t ∈ rest ts ka kb ∨ t = ts[ka]?.getD [] ∨ t = ts[kb]?.getD [] := by
  obtain ⟨k, hk, rfl⟩ := List.mem_iff_getElem.1 h
  by_cases e1 : k = ka
  · subst e1; exact Or.inr (Or.inl (get_eq hk).symm)
  · by_cases e2 : k = kb
    · subst e2; exact Or.inr (Or.inr (get_eq hk).symm)
    · exact Or.inl (rest_mem.2 ⟨k, hk, e1, e2, get_eq hk⟩)

theorem rest_dj {ts : List (List Itm)} {ka kb : Nat} (h : ts.Pairwise Dj) {c : Nat} (hc : c < ts.length) (hcc : c = ka ∨ c = kb) {t : List Itm} (ht : t ∈ rest ts ka kb) : Dj t (ts[c]?.getD []) := by
  obtain ⟨k, hk, e1, e2, rfl⟩ := rest_mem.1 ht
  rw [get_eq hk, get_eq hc]
  exact pair_ne h hk hc (by omega)

theorem fromX_head {t : List Itm} {x : Itm} (h : x ∈ t) : ∃ r, fromX t x = x :: r ∧ Rot t (x :: r) := by
  have hr := fromX_rot t x
  have e : fromX t x = (match t.findIdx? (fun y => x == y) with | some k => t.drop k ++ t.take k | none => t) := rfl
  cases hf : t.findIdx? (fun y => x == y) with
  | none =>
    rw [List.findIdx?_eq_none_iff] at hf
    have := hf x h
    simp at this
  | some k =>
    obtain ⟨hk, h1, _⟩ := List.findIdx?_eq_some_iff_getElem.1 hf
    have h2 : t[k] = x := by
      have : x = t[k] := by simpa using h1
      exact this.symm
    rw [hf] at hr e
    have e2 : t.drop k = x :: t.drop (k + 1) := by rw [List.drop_eq_getElem_cons hk, h2]
    simp only at hr e
    rw [e2, List.cons_append] at hr e
    exact ⟨_, e, hr⟩

theorem sizeV_rot {t t' : List Itm} (h : Rot t t') : sizeV t' = sizeV t := h.sizeV _
theorem sizeV_append (a b : List Itm) : sizeV (a ++ b) = sizeV a + sizeV b := by simp [sizeV]
theorem sizeV_way {u v : Int} (hv : 0 ≤ v) : sizeV [(u, v)] = 0 := by simp [sizeV]; omega

section
variable {N : Nat} {es es' : List Edg} {i : Nat} {ts : List (List Itm)} {u v : Int} {ka kb : Nat}

/-- What Link does to a level. -/
structure Linked (N : Nat) (es : List Edg) (i : Nat) (ts ts' : List (List Itm)) (u v : Int) : Prop where
  li : LI N es i ts'
  mem : ∀ t, t ∈ ts → ∀ x, x ∈ t → ∃ t', t' ∈ ts' ∧ x ∈ t'
  way : ∃ t', t' ∈ ts' ∧ (u, v) ∈ t' ∧ (v, u) ∈ t'
  mono : ∀ a b, Same ts a b → Same ts' a b
  uv : Same ts' u v
  back : ∀ a b, Same ts' a b → Same ts a b ∨ ((Same ts a u ∨ Same ts a v) ∧ (Same ts b u ∨ Same ts b v))

theorem LI.link (h : LI N es i ts) (hu0 : 0 ≤ u) (hv0 : 0 ≤ v) (hka : ka < ts.length) (hkb : kb < ts.length) (hu : (u, -1) ∈ ts[ka]?.getD []) (hv : (v, -1) ∈ ts[kb]?.getD []) (hns : ka ≠ kb)
    (hte : TreeE es i u v) (hsz : (sizeV (ts[ka]?.getD []) + sizeV (ts[kb]?.getD [])) * 2 ^ i ≤ N) : Linked N es i ts (linkT ts ka kb u v) u v := by
  obtain ⟨la, hla⟩ : ∃ la, la = ts[ka]?.getD [] := ⟨_, rfl⟩
  obtain ⟨lb, hlb⟩ : ∃ lb, lb = ts[kb]?.getD [] := ⟨_, rfl⟩
  have ma : la ∈ ts := by rw [hla, get_eq hka]; exact List.getElem_mem hka
  have mb : lb ∈ ts := by rw [hlb, get_eq hkb]; exact List.getElem_mem hkb
  have djab : Dj la lb := by rw [hla, hlb, get_eq hka, get_eq hkb]; exact pair_ne h.dj hka hkb hns
  have eL : linkT ts ka kb u v = rest ts ka kb ++ [joinT la lb u v] := by rw [hla, hlb]; rfl
  rw [eL]
  rw [← hla] at hu hsz
  rw [← hlb] at hv hsz
  obtain ⟨ra, ea, rota⟩ := fromX_head hu
  obtain ⟨rb, eb, rotb⟩ := fromX_head hv
  have eJ : joinT la lb u v = ((u, -1) :: ra) ++ [(u, v)] ++ (((v, -1) :: rb) ++ [(v, u)]) := by rw [joinT, ea, eb]
  have djr : Dj ((u, -1) :: ra) ((v, -1) :: rb) := fun x hx y hy => djab x ((rota.mem x).2 hx) y ((rotb.mem y).2 hy)
  have tj : Tour (joinT la lb u v) := by
    rw [eJ]; exact Tour.link ((h.tr la ma).rot rota) ((h.tr lb mb).rot rotb) djr (by omega) (by omega)
  have memJ : ∀ x, x ∈ joinT la lb u v ↔ (x ∈ la ∨ x = (u, v)) ∨ (x ∈ lb ∨ x = (v, u)) := by
    intro x
    rw [eJ, rota.mem x, rotb.mem x]
    simp only [List.mem_append, List.mem_singleton]
  have startJ : ∀ x, x ∈ joinT la lb u v → (∃ y, y ∈ la ∧ y.1 = x.1) ∨ (∃ y, y ∈ lb ∧ y.1 = x.1) := by
    intro x hx
    rcases (memJ x).1 hx with (k | rfl) | (k | rfl)
    · exact Or.inl ⟨x, k, rfl⟩
    · exact Or.inl ⟨(u, -1), hu, rfl⟩
    · exact Or.inr ⟨x, k, rfl⟩
    · exact Or.inr ⟨(v, -1), hv, rfl⟩
  have sub : ∀ t, t ∈ rest ts ka kb → t ∈ ts := fun t ht => (rest_sub ts ka kb).subset ht
  have memT : ∀ t, t ∈ rest ts ka kb ++ [joinT la lb u v] ↔ t ∈ rest ts ka kb ∨ t = joinT la lb u v := by intro t; simp
  have cov : ∀ t, t ∈ ts → ∀ x, x ∈ t → ∃ t', t' ∈ rest ts ka kb ++ [joinT la lb u v] ∧ x ∈ t' := by
    intro t ht x hx
    rcases rest_or (ka := ka) (kb := kb) ht with k | k | k
    · exact ⟨t, (memT t).2 (Or.inl k), hx⟩
    · exact ⟨_, (memT _).2 (Or.inr rfl), (memJ x).2 (Or.inl (Or.inl (by rw [hla, ← k]; exact hx)))⟩
    · exact ⟨_, (memT _).2 (Or.inr rfl), (memJ x).2 (Or.inr (Or.inl (by rw [hlb, ← k]; exact hx)))⟩
  have mono : ∀ a b, Same ts a b → Same (rest ts ka kb ++ [joinT la lb u v]) a b := by
    rintro a b ⟨t, ht, p, q⟩
    rcases rest_or (ka := ka) (kb := kb) ht with k | k | k
    · exact ⟨t, (memT t).2 (Or.inl k), p, q⟩
    · rw [k, ← hla] at p q
      exact ⟨_, (memT _).2 (Or.inr rfl), (memJ _).2 (Or.inl (Or.inl p)), (memJ _).2 (Or.inl (Or.inl q))⟩
    · rw [k, ← hlb] at p q
      exact ⟨_, (memT _).2 (Or.inr rfl), (memJ _).2 (Or.inr (Or.inl p)), (memJ _).2 (Or.inr (Or.inl q))⟩
  have inab : ∀ a, (a, -1) ∈ joinT la lb u v → Same ts a u ∨ Same ts a v := by
    intro a ha
    rcases (memJ _).1 ha with (k | k) | (k | k)
    · exact Or.inl ⟨la, ma, k, hu⟩
    · have := congrArg Prod.snd k; simp at this; omega
    · exact Or.inr ⟨lb, mb, k, hv⟩
    · have := congrArg Prod.snd k; simp at this; omega
  refine ⟨⟨?_, ?_, ?_, ?_, ?_, ?_⟩, cov, ⟨_, (memT _).2 (Or.inr rfl), (memJ _).2 (Or.inl (Or.inr rfl)), (memJ _).2 (Or.inr (Or.inr rfl))⟩, mono, ⟨_, (memT _).2 (Or.inr rfl), (memJ _).2 (Or.inl (Or.inl hu)), (memJ _).2 (Or.inr (Or.inl hv))⟩, ?_⟩
  · intro t ht
    rcases (memT t).1 ht with k | rfl
    · exact h.tr t (sub t k)
    · exact tj
  · intro t ht
    rcases (memT t).1 ht with k | rfl
    · exact h.ne t (sub t k)
    · rw [eJ]; simp
  · rw [List.pairwise_append]
    refine ⟨h.dj.sublist (rest_sub ts ka kb), by simp, ?_⟩
    intro t ht s hs
    simp at hs; subst hs
    intro x hx y hy
    rcases startJ y hy with ⟨z, hz, e⟩ | ⟨z, hz, e⟩
    · rw [← e]; exact rest_dj h.dj hka (Or.inl rfl) ht x hx z (by rw [← hla]; exact hz)
    · rw [← e]; exact rest_dj h.dj hkb (Or.inr rfl) ht x hx z (by rw [← hlb]; exact hz)
  · intro a a0 a1
    obtain ⟨t, ht, ha⟩ := h.all a a0 a1
    exact cov t ht _ ha
  · intro t ht x hx
    rcases (memT t).1 ht with k | rfl
    · exact h.rng t (sub t k) x hx
    · rcases (memJ x).1 hx with (k | rfl) | (k | rfl)
      · exact h.rng la ma x k
      · exact ⟨(h.rng la ma (u, -1) hu).1, Or.inr hte⟩
      · exact h.rng lb mb x k
      · exact ⟨(h.rng lb mb (v, -1) hv).1, Or.inr hte.symm⟩
  · intro t ht
    rcases (memT t).1 ht with k | rfl
    · exact h.siz t (sub t k)
    · rw [eJ, sizeV_append, sizeV_append, sizeV_append, sizeV_way hv0, sizeV_way hu0, sizeV_rot rota, sizeV_rot rotb]; simpa using hsz
  · rintro a b ⟨t, ht, p, q⟩
    rcases (memT t).1 ht with k | rfl
    · exact Or.inl ⟨t, sub t k, p, q⟩
    · exact Or.inr ⟨inab a p, inab b q⟩

/-- What a cut does to a level. -/
structure CutAt (N : Nat) (es' : List Edg) (i : Nat) (ts ts' : List (List Itm)) (u v : Int) : Prop where
  li : LI N es' i ts'
  mem : ∀ t, t ∈ ts → ∀ x, x ∈ t → x ≠ (u, v) → x ≠ (v, u) → ∃ t', t' ∈ ts' ∧ x ∈ t'
  uv : ¬ Same ts' u v
  back : ∀ a b, Same ts' a b → Same ts a b
  mono : ∀ a b, Same ts a b → Same ts' a b ∨ ((Same ts' a u ∧ Same ts' b v) ∨ (Same ts' a v ∧ Same ts' b u))
  siz : ∃ tu tv, tu ∈ ts' ∧ tv ∈ ts' ∧ (u, -1) ∈ tu ∧ (v, -1) ∈ tv ∧ (sizeV tu + sizeV tv) * 2 ^ i ≤ N

/-- The round from u - v on, and the place of the way back. -/
theorem cut_place {t : List Itm} (h : Tour t) (hu0 : 0 ≤ u) (hv0 : 0 ≤ v) (hm : (u, v) ∈ t) :
    ∃ A B, fromX t (u, v) = (u, v) :: (A ++ (v, u) :: B) ∧ Tour ((u, v) :: (A ++ (v, u) :: B)) ∧ Rot t ((u, v) :: (A ++ (v, u) :: B)) ∧ A ≠ [] ∧ B ≠ [] := by
  obtain ⟨r, e, rot⟩ := fromX_head hm
  have ht := h.rot rot
  have hne : (v, u) ≠ (u, v) := by
    intro q
    have e1 : v = u := congrArg Prod.fst q
    obtain ⟨A, B, _, hd⟩ := h.sep (u, v) hm (by show v ≠ -1; omega)
    exact hd (v, u) (by simp) (u, v) (by simp) e1
  have hb : (v, u) ∈ r := by
    have := (ht.way (u, v) (by simp) (by show v ≠ -1; omega)).1
    simp only [List.mem_cons] at this
    rcases this with k | k
    · exact absurd k hne
    · exact k
  obtain ⟨A, B, rfl⟩ := List.append_of_mem hb
  refine ⟨A, B, e, ht, rot, ?_, ?_⟩
  · have := (ht.cut (by omega) (by omega)).2
    intro k; rw [k] at this; simp at this
  · have := (ht.flip.cut (by omega) (by omega)).2
    intro k; rw [k] at this; simp at this

theorem cutT_eq (A B : List Itm) : cutT ts ka kb ((u, v) :: (A ++ (v, u) :: B)) (A.length + 1) = rest ts ka kb ++ [A, B] := by
  have e1 : (((u, v) :: (A ++ (v, u) :: B)).take (A.length + 1)).drop 1 = A := by simp
  have e2 : ((u, v) :: (A ++ (v, u) :: B)).drop (A.length + 1 + 1) = B := by
    rw [List.drop_succ_cons, show A ++ (v, u) :: B = (A ++ [(v, u)]) ++ B by simp, List.drop_left' (by simp)]
  rw [cutT, e1, e2]; rfl

theorem LI.cut (h : LI N es i ts) (hu0 : 0 ≤ u) (hv0 : 0 ≤ v) (hka : ka < ts.length) (hm : (u, v) ∈ ts[ka]?.getD []) {A B : List Itm} (hAB : Rot (ts[ka]?.getD []) ((u, v) :: (A ++ (v, u) :: B))) (ht : Tour ((u, v) :: (A ++ (v, u) :: B)))
    (hes : ∀ a b, TreeE es i a b → ¬ ((a, b) = (u, v)) → ¬ ((a, b) = (v, u)) → TreeE es' i a b) : CutAt N es' i ts (rest ts ka ka ++ [A, B]) u v := by
  obtain ⟨la, hla⟩ : ∃ la, la = ts[ka]?.getD [] := ⟨_, rfl⟩
  have ma : la ∈ ts := by rw [hla, get_eq hka]; exact List.getElem_mem hka
  rw [← hla] at hm hAB
  obtain ⟨tA, vA⟩ := ht.cut (by omega) (by omega)
  obtain ⟨tB, uB⟩ := ht.flip.cut (by omega) (by omega)
  have sd := ht.sides (by omega)
  have memla : ∀ x, x ∈ la ↔ x = (u, v) ∨ x ∈ A ∨ x = (v, u) ∨ x ∈ B := by
    intro x; rw [hAB.mem x]; simp only [List.mem_cons, List.mem_append]
  have djAB : Dj A B := fun x hx y hy => sd x (by simp [hx]) y (by simp [hy])
  have sub : ∀ t, t ∈ rest ts ka ka → t ∈ ts := fun t ht => (rest_sub ts ka ka).subset ht
  have memT : ∀ t, t ∈ rest ts ka ka ++ [A, B] ↔ t ∈ rest ts ka ka ∨ t = A ∨ t = B := by intro t; simp
  have inA : ∀ a b : Int, (a, b) ∈ A → b ≠ -1 → ¬ ((a, b) = (u, v)) ∧ ¬ ((a, b) = (v, u)) := by
    intro a b hab _
    have nd := ht.nd
    constructor
    · intro e; rw [e] at hab; simp at nd; exact nd.1.1 hab
    · intro e; rw [e] at hab; simp [List.nodup_append] at nd; exact nd.2.2.2 v u hab |>.1 rfl rfl
  have inB : ∀ a b : Int, (a, b) ∈ B → b ≠ -1 → ¬ ((a, b) = (u, v)) ∧ ¬ ((a, b) = (v, u)) := by
    intro a b hab _
    have nd := ht.nd
    constructor
    · intro e; rw [e] at hab; simp at nd; exact nd.1.2.2 hab
    · intro e; rw [e] at hab; simp [List.nodup_append] at nd; exact nd.2.2.1.1 hab
  have cov : ∀ t, t ∈ ts → ∀ x, x ∈ t → x ≠ (u, v) → x ≠ (v, u) → ∃ t', t' ∈ rest ts ka ka ++ [A, B] ∧ x ∈ t' := by
    intro t ht x hx n1 n2
    rcases rest_or (ka := ka) (kb := ka) ht with k | k
    · exact ⟨t, (memT t).2 (Or.inl k), hx⟩
    · have k : t = la := by rw [hla]; rcases k with k | k <;> exact k
      rw [k, memla] at hx
      rcases hx with q | q | q | q
      · exact absurd q n1
      · exact ⟨A, (memT A).2 (Or.inr (Or.inl rfl)), q⟩
      · exact absurd q n2
      · exact ⟨B, (memT B).2 (Or.inr (Or.inr rfl)), q⟩
  have sz : sizeV B + sizeV A = sizeV la := by
    rw [← sizeV_rot hAB, show (u, v) :: (A ++ (v, u) :: B) = [(u, v)] ++ (A ++ ([(v, u)] ++ B)) by simp, sizeV_append, sizeV_append, sizeV_append, sizeV_way hv0, sizeV_way hu0]; omega
  have djR : ∀ t, t ∈ rest ts ka ka → Dj t A ∧ Dj t B := by
    intro t ht
    have := rest_dj h.dj hka (Or.inl rfl) ht
    rw [← hla] at this
    exact ⟨fun x hx y hy => this x hx y ((memla y).2 (Or.inr (Or.inl hy))), fun x hx y hy => this x hx y ((memla y).2 (Or.inr (Or.inr (Or.inr hy))))⟩
  have vne : ∀ {a b : Int} (x : Int), (x, (-1 : Int)) = (a, b) → 0 ≤ b → False := by
    intro a b x e hb
    have := congrArg Prod.snd e; simp at this; omega
  have li : LI N es' i (rest ts ka ka ++ [A, B]) := by
    refine ⟨?_, ?_, ?_, ?_, ?_, ?_⟩
    · intro t ht
      rcases (memT t).1 ht with k | rfl | rfl
      · exact h.tr t (sub t k)
      · exact tA
      · exact tB
    · intro t ht
      rcases (memT t).1 ht with k | rfl | rfl
      · exact h.ne t (sub t k)
      · intro e; rw [e] at vA; simp at vA
      · intro e; rw [e] at uB; simp at uB
    · rw [List.pairwise_append]
      refine ⟨h.dj.sublist (rest_sub ts ka ka), by simp [djAB], ?_⟩
      intro t htr s hs
      simp at hs
      rcases hs with rfl | rfl
      · exact (djR t htr).1
      · exact (djR t htr).2
    · intro a a0 a1
      obtain ⟨t, ht, ha⟩ := h.all a a0 a1
      exact cov t ht _ ha (fun e => vne a e hv0) (fun e => vne a e hu0)
    · intro t ht x hx
      have old : ∃ s, s ∈ ts ∧ x ∈ s := by
        rcases (memT t).1 ht with k | rfl | rfl
        · exact ⟨t, sub t k, hx⟩
        · exact ⟨la, ma, (memla x).2 (Or.inr (Or.inl hx))⟩
        · exact ⟨la, ma, (memla x).2 (Or.inr (Or.inr (Or.inr hx)))⟩
      obtain ⟨s, hs, hxs⟩ := old
      refine ⟨(h.rng s hs x hxs).1, ?_⟩
      by_cases hw : x.2 = -1
      · exact Or.inl hw
      · rcases (h.rng s hs x hxs).2 with k | k
        · exact Or.inl k
        · refine Or.inr ?_
          have nn : ¬ ((x.1, x.2) = (u, v)) ∧ ¬ ((x.1, x.2) = (v, u)) := by
            rcases (memT t).1 ht with q | rfl | rfl
            · have dq := rest_dj h.dj hka (Or.inl rfl) q
              rw [← hla] at dq
              constructor
              · intro e; exact dq x hx (u, v) hm (by rw [show x.1 = u from congrArg Prod.fst e])
              · intro e; exact dq x hx (v, u) ((memla _).2 (Or.inr (Or.inr (Or.inl rfl)))) (by rw [show x.1 = v from congrArg Prod.fst e])
            · exact inA x.1 x.2 hx hw
            · exact inB x.1 x.2 hx hw
          exact hes x.1 x.2 k nn.1 nn.2
    · intro t ht
      rcases (memT t).1 ht with k | rfl | rfl
      · exact h.siz t (sub t k)
      · exact Nat.le_trans (Nat.mul_le_mul_right _ (by omega)) (h.siz la ma)
      · exact Nat.le_trans (Nat.mul_le_mul_right _ (by omega)) (h.siz la ma)
  have iA : A ∈ rest ts ka ka ++ [A, B] := (memT A).2 (Or.inr (Or.inl rfl))
  have iB : B ∈ rest ts ka ka ++ [A, B] := (memT B).2 (Or.inr (Or.inr rfl))
  refine ⟨li, cov, ?_, ?_, ?_, ⟨B, A, iB, iA, uB, vA, ?_⟩⟩
  · rintro ⟨t, ht, p, q⟩
    have e1 := li.uniq ht iB p uB rfl
    have e2 := li.uniq ht iA q vA rfl
    exact djAB (v, -1) vA (v, -1) (by rw [← e1, e2]; exact vA) rfl
  · rintro a b ⟨t, ht, p, q⟩
    rcases (memT t).1 ht with k | rfl | rfl
    · exact ⟨t, sub t k, p, q⟩
    · exact ⟨la, ma, (memla _).2 (Or.inr (Or.inl p)), (memla _).2 (Or.inr (Or.inl q))⟩
    · exact ⟨la, ma, (memla _).2 (Or.inr (Or.inr (Or.inr p))), (memla _).2 (Or.inr (Or.inr (Or.inr q)))⟩
  · rintro a b ⟨t, ht, p, q⟩
    rcases rest_or (ka := ka) (kb := ka) ht with k | k
    · exact Or.inl ⟨t, (memT t).2 (Or.inl k), p, q⟩
    · have k : t = la := by rw [hla]; rcases k with k | k <;> exact k
      rw [k, memla] at p q
      rcases p with p | p | p | p
      · exact absurd p (fun e => vne a e hv0)
      · rcases q with q | q | q | q
        · exact absurd q (fun e => vne b e hv0)
        · exact Or.inl ⟨A, iA, p, q⟩
        · exact absurd q (fun e => vne b e hu0)
        · exact Or.inr (Or.inr ⟨⟨A, iA, p, vA⟩, ⟨B, iB, q, uB⟩⟩)
      · exact absurd p (fun e => vne a e hu0)
      · rcases q with q | q | q | q
        · exact absurd q (fun e => vne b e hv0)
        · exact Or.inr (Or.inl ⟨⟨B, iB, p, uB⟩, ⟨A, iA, q, vA⟩⟩)
        · exact absurd q (fun e => vne b e hu0)
        · exact Or.inl ⟨B, iB, p, q⟩
  · rw [sz]; exact h.siz la ma
end

end Go.Proofs.YtckallochdegiaaGreat
namespace Go.Proofs.YtckallochdegiaaGreat
set_option linter.unusedVariables false
set_option linter.unusedSimpArgs false

/-- What holds of one vertex of a round and is handed on along its ways holds of all. -/
theorem Tour.reach {t : List Itm} (h : Tour t) {a : Int} (ha : (a, -1) ∈ t) (R : Int → Prop) (h0 : R a) (hs : ∀ x, x ∈ t → x.2 ≠ -1 → R x.1 → R x.2) : ∀ y, y ∈ t → R y.1 := by
  obtain ⟨r, rot⟩ := Rot.first ha
  have hc := (h.rnd.rot rot).1
  have hm : ∀ y, y ∈ (a, -1) :: r → y ∈ t := fun y hy => (rot.mem y).2 hy
  have key : ∀ (l : List Itm) (x : Itm), Chn (x :: l) → (∀ y, y ∈ x :: l → y ∈ t) → R x.1 → ∀ y, y ∈ x :: l → R y.1 := by
    intro l
    induction l with
    | nil => intro x _ _ hx y hy; simp at hy; subst hy; exact hx
    | cons z l ih =>
      intro x hch hin hx y hy
      simp only [List.mem_cons] at hy
      rcases hy with rfl | hy
      · exact hx
      · have hz : R z.1 := by
          have e : en x = z.1 := hch.1
          by_cases hw : x.2 = -1
          · rw [← e, en, if_pos hw]; exact hx
          · rw [← e, en, if_neg hw]; exact hs x (hin x (by simp)) hw hx
        exact ih z hch.2 (fun y hy => hin y (by simp only [List.mem_cons] at hy ⊢; exact Or.inr hy)) hz y (by simpa using hy)
  intro y hy
  exact key r (a, -1) hc hm h0 y ((rot.mem y).1 hy)

theorem last_of (l : List Itm) (x : Itm) : (l ++ [x]).getLast? = some x := by rw [List.getLast?_append]; rfl

def key (e : Edg) : Int × Int := (e.u, e.v)
def lv (G : Gr) (i : Nat) : List (List Itm) := G.tours[i]?.getD []

/-- All but the edges beside the forest. -/
structure GI (G : Gr) : Prop where
  n1 : 1 ≤ G.N
  n48 : G.N ≤ 48
  tl : G.tours.length = Nat.log2 G.N + 1
  ed : ∀ e, e ∈ G.edges → 0 ≤ e.u ∧ e.u < e.v ∧ e.v < G.N ∧ 0 ≤ e.lev ∧ e.lev ≤ Nat.log2 G.N
  nd : (G.edges.map key).Nodup
  li : ∀ i, i ≤ Nat.log2 G.N → LI G.N G.edges i (lv G i)
  cv : ∀ i, i ≤ Nat.log2 G.N → Cov G.edges i (lv G i)

/-- The ends of the edges beside the forest are in one tree of their level. -/
def NS (G : Gr) : Prop := ∀ e, e ∈ G.edges → e.tree = false → Same (lv G e.lev.toNat) e.u e.v

section
variable {G : Gr} {i : Nat}

theorem GI.rngE (h : GI G) : ∀ e, e ∈ G.edges → 0 ≤ e.u ∧ e.u < G.N ∧ 0 ≤ e.v ∧ e.v < G.N := fun e he => by have := h.ed e he; omega

/-- Two edges of one pair are one. -/
theorem nd_eq {es : List Edg} (h : (es.map key).Nodup) {e f : Edg} (he : e ∈ es) (hf : f ∈ es) (k : key e = key f) : e = f := by
  obtain ⟨a, ha, rfl⟩ := List.mem_iff_getElem.1 he
  obtain ⟨b, hb, rfl⟩ := List.mem_iff_getElem.1 hf
  rw [List.Nodup, List.pairwise_map, List.pairwise_iff_getElem] at h
  by_cases c : a = b
  · subst c; rfl
  · by_cases d : a < b
    · exact absurd k (h a b ha hb d)
    · exact absurd k.symm (h b a hb ha (by omega))

/-- The ends of an edge of the forest are in one tree. -/
theorem GI.tree_same (h : GI G) (hi : i ≤ Nat.log2 G.N) {e : Edg} (he : e ∈ G.edges) (ht : e.tree = true) (hl : (i : Int) ≤ e.lev) : ∃ t, t ∈ lv G i ∧ (e.u, e.v) ∈ t ∧ (e.v, e.u) ∈ t ∧ (e.u, -1) ∈ t ∧ (e.v, -1) ∈ t := by
  obtain ⟨t, h1, h2⟩ := h.cv i hi e he ht hl
  have T := (h.li i hi).tr t h1
  have b := h.ed e he
  have w := (T.way _ h2 (by show e.v ≠ -1; omega)).1
  exact ⟨t, h1, h2, w, T.vtx _ h2, T.vtx _ w⟩

/-- A way of a tour of level i, met at a level below. -/
theorem GI.way_at (h : GI G) {j : Nat} (hj : j ≤ i) (hi : i ≤ Nat.log2 G.N) {t : List Itm} (ht : t ∈ lv G i) {x : Itm} (hx : x ∈ t) (hw : x.2 ≠ -1) : ∃ s, s ∈ lv G j ∧ x ∈ s ∧ (x.1, -1) ∈ s ∧ (x.2, -1) ∈ s := by
  rcases ((h.li i hi).rng t ht x hx).2 with k | ⟨e, he, h1, h2, h3⟩
  · exact absurd k hw
  · obtain ⟨s, g1, g2, g3, g4, g5⟩ := h.tree_same (i := j) (by omega) he h1 (by omega)
    rcases h3 with ⟨a, b⟩ | ⟨a, b⟩
    · refine ⟨s, g1, ?_, ?_, ?_⟩
      · rw [show x = (e.u, e.v) from Prod.ext a.symm b.symm]; exact g2
      · rw [← a]; exact g4
      · rw [← b]; exact g5
    · refine ⟨s, g1, ?_, ?_, ?_⟩
      · rw [show x = (e.v, e.u) from Prod.ext b.symm a.symm]; exact g3
      · rw [← b]; exact g5
      · rw [← a]; exact g4

/-- The trees of a level lie in those of the level below. -/
theorem GI.nest (h : GI G) {j : Nat} (hj : j ≤ i) (hi : i ≤ Nat.log2 G.N) {a b : Int} (hs : Same (lv G i) a b) : Same (lv G j) a b := by
  obtain ⟨t, ht, pa, pb⟩ := hs
  have T := (h.li i hi).tr t ht
  have r := (h.li i hi).rng t ht
  have hj' : j ≤ Nat.log2 G.N := by omega
  have start : Same (lv G j) a a := by
    obtain ⟨s, h1, h2⟩ := (h.li j hj').all a (r _ pa).1.1 (r _ pa).1.2
    exact ⟨s, h1, h2, h2⟩
  have := T.reach pa (fun x => Same (lv G j) a x) start (fun x hx hw k => ?_) _ pb
  · exact this
  · obtain ⟨s, g1, _, g3, g4⟩ := h.way_at hj hi ht hx hw
    exact (h.li j hj').same_trans k ⟨s, g1, g3, g4⟩

/-- The ends of an edge of just level i are apart in the level above: there is no circle. -/
theorem GI.apart_above (h : GI G) (hi : i + 1 ≤ Nat.log2 G.N) {e : Edg} (he : e ∈ G.edges) (ht : e.tree = true) (hl : e.lev = i) : ¬ Same (lv G (i + 1)) e.u e.v := by
  rintro ⟨t, htt, pa, pb⟩
  have hi' : i ≤ Nat.log2 G.N := by omega
  have T := (h.li (i + 1) hi).tr t htt
  obtain ⟨s, g1, g2, g3, g4, g5⟩ := h.tree_same hi' he ht (by omega)
  have S := (h.li i hi').tr s g1
  have b := h.ed e he
  obtain ⟨A, B, _, ht2, rot, _, _⟩ := cut_place (u := e.u) (v := e.v) S (by omega) (by omega) g2
  have sd := ht2.sides (by omega)
  have R := T.reach pa (fun x => ∃ y, y ∈ B ++ [(e.u, e.v)] ∧ y.1 = x) ⟨(e.u, e.v), by simp, rfl⟩ (fun x hx hw k => ?_) _ pb
  · obtain ⟨y, hy, hye⟩ := R
    exact sd (e.v, e.u) (by simp) y hy hye.symm
  · obtain ⟨y, hy, hye⟩ := k
    obtain ⟨s', q1, q2, q3, q4⟩ := h.way_at (j := i) (by omega) hi htt hx hw
    -- the way lies in the same tour of level i
    have ys : y ∈ s := by
      rw [rot.mem]
      simp only [List.mem_append, List.mem_singleton] at hy
      rcases hy with hy | rfl
      · simp [hy]
      · simp
    have es : s' = s := (h.li i hi').uniq q1 g1 q2 ys hye.symm
    subst es
    -- it is not the edge's own
    have hne : x ≠ (e.u, e.v) ∧ x ≠ (e.v, e.u) := by
      rcases ((h.li (i + 1) hi).rng t htt x hx).2 with c | ⟨f, hf, f1, f2, f3⟩
      · exact absurd c hw
      · have ef : f ≠ e := fun q => by rw [q, hl] at f2; omega
        have bf := h.ed f hf
        constructor
        · intro q
          have q1 : x.1 = e.u := congrArg Prod.fst q
          have q2 : x.2 = e.v := congrArg Prod.snd q
          rcases f3 with ⟨a1, a2⟩ | ⟨a1, a2⟩
          · exact ef (nd_eq h.nd hf he (Prod.ext (by show f.u = e.u; omega) (by show f.v = e.v; omega)))
          · omega
        · intro q
          have q1 : x.1 = e.v := congrArg Prod.fst q
          have q2 : x.2 = e.u := congrArg Prod.snd q
          rcases f3 with ⟨a1, a2⟩ | ⟨a1, a2⟩
          · omega
          · exact ef (nd_eq h.nd hf he (Prod.ext (by show f.u = e.u; omega) (by show f.v = e.v; omega)))
    have inB : x ∈ B := by
      have := (rot.mem x).1 q2
      simp only [List.mem_cons, List.mem_append] at this
      rcases this with c | c | c | c
      · exact absurd c hne.1
      · exact absurd hye.symm (sd x (by simp [c]) y hy)
      · exact absurd c hne.2
      · exact c
    -- what follows it begins at its end
    obtain ⟨p, q, rfl⟩ := List.append_of_mem inB
    have ch : Chn ((e.v, e.u) :: (p ++ x :: q ++ (e.u, e.v) :: A)) := ht2.flip.rnd.1
    have ex : en x = x.2 := by simp [en, hw]
    cases q with
    | nil =>
      refine ⟨(e.u, e.v), by simp, ?_⟩
      have := Chn.meet (a := (e.v, e.u) :: p ++ [x]) (b := (e.u, e.v) :: A) (x := x) (y := (e.u, e.v)) (by simpa using ch) (last_of _ _) rfl
      rw [ex] at this; exact this.symm
    | cons z q =>
      refine ⟨z, by simp, ?_⟩
      have := Chn.meet (a := (e.v, e.u) :: p ++ [x]) (b := z :: q ++ (e.u, e.v) :: A) (x := x) (y := z) (by simpa using ch) (last_of _ _) rfl
      rw [ex] at this; exact this.symm

/-- Connected is: in one tree of level 0. -/
theorem GI.conn (h : GI G) (hns : NS G) {a b : Int} (ha0 : 0 ≤ a) (ha1 : a < G.N) (hb0 : 0 ≤ b) (hb1 : b < G.N) : Rch G.edges false 0 a b ↔ Same (lv G 0) a b := by
  have L0 := h.li 0 (by omega)
  constructor
  · intro k
    have := k (fun y => decide (tourIx (lv G 0) y = tourIx (lv G 0) a)) (by simp) (fun e he _ => ?_)
    · have e1 : tourIx (lv G 0) b = tourIx (lv G 0) a := by simpa using this
      exact (L0.same_iff ha0 ha1 hb0 hb1).2 e1.symm
    · have be := h.ed e he
      have s0 : Same (lv G 0) e.u e.v := by
        cases ht : e.tree
        · have := hns e he ht
          exact h.nest (i := e.lev.toNat) (by omega) (by omega) this
        · obtain ⟨t, g1, _, _, g4, g5⟩ := h.tree_same (i := 0) (by omega) he ht (by omega)
          exact ⟨t, g1, g4, g5⟩
      have := (L0.same_iff (by omega) (by omega) (by omega) (by omega)).1 s0
      simp [this]
  · rintro ⟨t, ht, pa, pb⟩ S hS hc
    have T := L0.tr t ht
    refine T.reach pa (fun x => S x = true) hS (fun x hx hw k => ?_) _ pb
    rcases (L0.rng t ht x hx).2 with c | ⟨e, he, _, _, e3⟩
    · exact absurd c hw
    · have := hc e he (by simp [act])
      rcases e3 with ⟨a1, a2⟩ | ⟨a1, a2⟩
      · rw [← a2, ← this, a1]; exact k
      · rw [← a1, this, a2]; exact k
end

end Go.Proofs.YtckallochdegiaaGreat
namespace Go.Proofs.YtckallochdegiaaGreat
set_option linter.unusedVariables false
set_option linter.unusedSimpArgs false

theorem nodup_len {l m : List Itm} (nd : l.Nodup) (h : ∀ x, x ∈ l → x ∈ m) : l.length ≤ m.length := by
  induction l generalizing m with
  | nil => simp
  | cons a l ih =>
    have ha : a ∈ m := h a (by simp)
    obtain ⟨p, q, rfl⟩ := List.append_of_mem ha
    have n2 := List.nodup_cons.1 nd
    have := ih (m := p ++ q) n2.2 (fun x hx => by
      have := h x (by simp [hx])
      simp only [List.mem_append, List.mem_cons] at this ⊢
      rcases this with k | k | k
      · exact Or.inl k
      · subst k; exact absurd hx n2.1
      · exact Or.inr k)
    simp at this ⊢; omega

/-- Two rounds apart, whose vertices are in a third. -/
theorem sizeV_two {a b t : List Itm} (na : a.Nodup) (nb : b.Nodup) (hd : Dj a b) (ha : ∀ x, x ∈ a → (x.1, -1) ∈ t) (hb : ∀ x, x ∈ b → (x.1, -1) ∈ t) (va : ∀ x, x ∈ a → x.2 < 0 → x.2 = -1) (vb : ∀ x, x ∈ b → x.2 < 0 → x.2 = -1) : sizeV a + sizeV b ≤ sizeV t := by
  unfold sizeV
  rw [← List.length_append]
  apply nodup_len
  · rw [List.nodup_append]
    refine ⟨na.sublist List.filter_sublist, nb.sublist List.filter_sublist, ?_⟩
    intro x hx y hy e
    subst e
    exact hd x (List.mem_filter.1 hx).1 x (List.mem_filter.1 hy).1 rfl
  · intro x hx
    simp only [List.mem_append, List.mem_filter, decide_eq_true_eq] at hx ⊢
    rcases hx with ⟨h1, h2⟩ | ⟨h1, h2⟩
    · have e := va x h1 h2
      have := ha x h1
      refine ⟨?_, h2⟩
      rw [show x = (x.1, -1) from Prod.ext rfl e]; exact this
    · have e := vb x h1 h2
      have := hb x h1
      refine ⟨?_, h2⟩
      rw [show x = (x.1, -1) from Prod.ext rfl e]; exact this

theorem sizeV_ge2 {t : List Itm} (nd : t.Nodup) {a b : Int} (h : a ≠ b) (ha : (a, -1) ∈ t) (hb : (b, -1) ∈ t) : 2 ≤ sizeV t := by
  have := nodup_len (l := [(a, -1), (b, -1)]) (m := t.filter fun x => decide (x.2 < 0)) (by simp [h]) (fun x hx => by
    simp only [List.mem_cons, List.not_mem_nil, or_false] at hx
    rcases hx with rfl | rfl <;> simp [List.mem_filter, ha, hb])
  simpa [sizeV] using this

theorem pow_log {N j m : Nat} (hN : 1 ≤ N) (h : 2 ≤ m) (hm : m * 2 ^ j ≤ N) : j + 1 ≤ Nat.log2 N := by
  have h1 : 2 ^ (j + 1) ≤ N := by
    rw [Nat.pow_succ, Nat.mul_comm]
    exact Nat.le_trans (Nat.mul_le_mul_right _ h) hm
  exact (Nat.le_log2 (by omega)).2 h1

def setE (G : Gr) (k : Nat) (e : Edg) : Gr := { G with edges := G.edges.set k e }
def setT (G : Gr) (i : Nat) (ts : List (List Itm)) : Gr := { G with tours := G.tours.set i ts }

theorem lv_setE (G : Gr) (k : Nat) (e : Edg) (j : Nat) : lv (setE G k e) j = lv G j := rfl
theorem lv_setT (G : Gr) (i : Nat) (ts : List (List Itm)) (j : Nat) (hi : i < G.tours.length) : lv (setT G i ts) j = if j = i then ts else lv G j := by
  simp only [lv, setT, List.getElem?_set]
  by_cases e : i = j
  · subst e; simp [hi]
  · rw [if_neg e, if_neg (fun k => e k.symm)]

theorem LI.mono {N : Nat} {es es' : List Edg} {i : Nat} {ts : List (List Itm)} (h : LI N es i ts) (k : ∀ a b, TreeE es i a b → TreeE es' i a b) : LI N es' i ts :=
  ⟨h.tr, h.ne, h.dj, h.all, fun t ht x hx => ⟨(h.rng t ht x hx).1, (h.rng t ht x hx).2.imp id (k _ _)⟩, h.siz⟩

/-- An edge is changed in its level or kind alone: e' in e's place. -/
theorem mem_set {es : List Edg} {k : Nat} {e' f : Edg} (h : f ∈ es.set k e') : f = e' ∨ ∃ j, j < es.length ∧ j ≠ k ∧ es[j]?.getD e0 = f := by
  obtain ⟨j, hj, rfl⟩ := List.mem_iff_getElem.1 h
  rw [List.getElem_set]
  by_cases c : k = j
  · rw [if_pos c]; exact Or.inl rfl
  · rw [if_neg c]
    rw [List.length_set] at hj
    exact Or.inr ⟨j, hj, fun q => c q.symm, get_eq hj⟩

theorem mem_set_self {es : List Edg} {k : Nat} (e' : Edg) (hk : k < es.length) : e' ∈ es.set k e' := List.mem_iff_getElem.2 ⟨k, by simpa using hk, by simp⟩
theorem mem_set_other {es : List Edg} {k j : Nat} (e' : Edg) (hj : j < es.length) (h : j ≠ k) : es[j]?.getD e0 ∈ es.set k e' := by
  rw [get_eq hj]
  exact List.mem_iff_getElem.2 ⟨j, by simpa using hj, by rw [List.getElem_set, if_neg (fun q => h q.symm)]⟩

theorem key_set {es : List Edg} {k : Nat} {e' : Edg} (hk : k < es.length) (h : key e' = key (es[k]?.getD e0)) : (es.set k e').map key = es.map key := by
  apply List.ext_getElem
  · simp
  · intro n h1 h2
    simp only [List.getElem_map, List.getElem_set]
    by_cases c : k = n
    · subst c; rw [if_pos rfl, h, get_eq hk]
    · rw [if_neg c]

/-- The forest only gains where the changed edge is of it, at no lower level. -/
theorem tree_set {es : List Edg} {k : Nat} {e' : Edg} (hk : k < es.length) (hkey : key e' = key (es[k]?.getD e0)) {j : Nat}
    (hup : (es[k]?.getD e0).tree = true → (j : Int) ≤ (es[k]?.getD e0).lev → e'.tree = true ∧ (j : Int) ≤ e'.lev) {a b : Int} (h : TreeE es j a b) : TreeE (es.set k e') j a b := by
  obtain ⟨e, he, h1, h2, h3⟩ := h
  obtain ⟨m, hm, rfl⟩ := List.mem_iff_getElem.1 he
  by_cases c : m = k
  · subst c
    rw [← get_eq (d := e0) hm] at h1 h2 h3
    have hu : e'.u = (es[m]?.getD e0).u := congrArg Prod.fst hkey
    have hv : e'.v = (es[m]?.getD e0).v := congrArg Prod.snd hkey
    exact ⟨e', mem_set_self e' hk, (hup h1 h2).1, (hup h1 h2).2, by rw [hu, hv]; exact h3⟩
  · rw [← get_eq (d := e0) hm] at h1 h2 h3
    exact ⟨_, mem_set_other e' hm c, h1, h2, h3⟩

/-- The link of a level, in the graph. -/
def lnk (G : Gr) (i : Nat) (u v : Int) : Gr := setT G i (linkT (lv G i) (tourIx (lv G i) u).toNat (tourIx (lv G i) v).toNat u v)

section
variable {G : Gr} {i : Nat}

/-- Link, at one level of a graph that lacks but that edge there. -/
theorem lnk_at {N : Nat} {es : List Edg} {ts : List (List Itm)} (h : LI N es i ts) {u v : Int} (hu0 : 0 ≤ u) (hu1 : u < N) (hv0 : 0 ≤ v) (hv1 : v < N) (hns : ¬ Same ts u v) (hte : TreeE es i u v)
    (hsz : ∀ a b, a ∈ ts → b ∈ ts → (u, -1) ∈ a → (v, -1) ∈ b → (sizeV a + sizeV b) * 2 ^ i ≤ N) :
    Linked N es i ts (linkT ts (tourIx ts u).toNat (tourIx ts v).toNat u v) u v := by
  obtain ⟨k, t, hk, e1, e2, ht, hv⟩ := h.ix_of hu0 hu1
  obtain ⟨m, s, hm, f1, f2, hs, hw⟩ := h.ix_of hv0 hv1
  rw [e1, f1, Int.toNat_natCast, Int.toNat_natCast]
  have hkm : k ≠ m := by
    intro c
    exact hns ((h.same_iff hu0 hu1 hv0 hv1).2 (by rw [e1, f1, c]))
  refine h.link hu0 hv0 hk hm (by rw [e2]; exact hv) (by rw [f2]; exact hw) hkm hte ?_
  rw [e2, f2]
  exact hsz t s ht hs hv hw

/-- A tree edge of level i rises: the graph with its new level, linked in the level above. -/
theorem GI.rise (h : GI G) {k : Nat} (hk : k < G.edges.length) {e : Edg} (he : G.edges[k]?.getD e0 = e) (ht : e.tree = true) (hl : e.lev = i) {s : List Itm} (hs : s ∈ lv G i) (hus : (e.u, -1) ∈ s) (hvs : (e.v, -1) ∈ s) (hsz : sizeV s * 2 ^ (i + 1) ≤ G.N) :
    i + 2 ≤ Nat.log2 G.N ∧ GI (lnk (setE G k { e with lev := e.lev + 1 }) (i + 1) e.u e.v) ∧
    Linked G.N (G.edges.set k { e with lev := e.lev + 1 }) (i + 1) (lv G (i + 1)) (lv (lnk (setE G k { e with lev := e.lev + 1 }) (i + 1) e.u e.v) (i + 1)) e.u e.v ∧
    (∀ j, j ≠ i + 1 → lv (lnk (setE G k { e with lev := e.lev + 1 }) (i + 1) e.u e.v) j = lv G j) := by
  have hem : e ∈ G.edges := by rw [← he, get_eq hk]; exact List.getElem_mem hk
  have b := h.ed e hem
  have hi : i ≤ Nat.log2 G.N := by omega
  have Ti := (h.li i hi).tr s hs
  have two := sizeV_ge2 Ti.nd (a := e.u) (b := e.v) (by omega) hus hvs
  have hi2 := pow_log h.n1 two hsz
  have hi1 : i + 1 ≤ Nat.log2 G.N := by omega
  obtain ⟨e', he'⟩ : ∃ e', e' = ({ e with lev := e.lev + 1 } : Edg) := ⟨_, rfl⟩
  rw [← he']
  have hkey : key e' = key (G.edges[k]?.getD e0) := by rw [he, he']; rfl
  have hlev : e'.lev = i + 1 := by rw [he']; show e.lev + 1 = _; omega
  have htr : e'.tree = true := by rw [he']; exact ht
  have up : ∀ j : Nat, (G.edges[k]?.getD e0).tree = true → (j : Int) ≤ (G.edges[k]?.getD e0).lev → e'.tree = true ∧ (j : Int) ≤ e'.lev := by
    intro j _ q; rw [he] at q; exact ⟨htr, by omega⟩
  have L1 : LI G.N (G.edges.set k e') (i + 1) (lv G (i + 1)) := (h.li (i + 1) hi1).mono (fun a b => tree_set hk hkey (up (i + 1)))
  have eu : e'.u = e.u := by rw [he']
  have ev : e'.v = e.v := by rw [he']
  have hte : TreeE (G.edges.set k e') (i + 1) e.u e.v := ⟨e', mem_set_self e' hk, htr, by omega, Or.inl ⟨eu, ev⟩⟩
  have hns := h.apart_above hi1 hem ht hl
  have link := lnk_at L1 (u := e.u) (v := e.v) (by omega) (by omega) (by omega) (by omega) hns hte (by
    intro a c ha hc hua hvc
    have La := (h.li (i + 1) hi1)
    have inS : ∀ (t : List Itm), t ∈ lv G (i + 1) → ∀ z : Int, (z, -1) ∈ t → (z, -1) ∈ s → ∀ x, x ∈ t → (x.1, -1) ∈ s := by
      intro t ht2 z hz hzs x hx
      have sm : Same (lv G (i + 1)) z x.1 := ⟨t, ht2, hz, (La.tr t ht2).vtx x hx⟩
      obtain ⟨s', q1, q2, q3⟩ := h.nest (j := i) (by omega) hi1 sm
      have := (h.li i hi).uniq q1 hs q2 hzs rfl
      rw [← this]; exact q3
    have djac : Dj a c := by
      intro x hx y hy exy
      have eac := La.uniq ha hc hx hy exy
      exact hns ⟨a, ha, hua, by rw [eac]; exact hvc⟩
    have neg : ∀ (t : List Itm), t ∈ lv G (i + 1) → ∀ x, x ∈ t → x.2 < 0 → x.2 = -1 := by
      intro t ht2 x hx hneg
      rcases (La.rng t ht2 x hx).2 with q | ⟨f, hf, _, _, q⟩
      · exact q
      · have bf := h.ed f hf; rcases q with q | q <;> omega
    have := sizeV_two (t := s) (La.tr a ha).nd (La.tr c hc).nd djac (inS a ha e.u hua hus) (inS c hc e.v hvc hvs) (neg a ha) (neg c hc)
    exact Nat.le_trans (Nat.mul_le_mul_right _ this) hsz)
  have tlen : i + 1 < G.tours.length := by rw [h.tl]; omega
  have lvn : ∀ j, lv (lnk (setE G k e') (i + 1) e.u e.v) j = if j = i + 1 then linkT (lv G (i + 1)) (tourIx (lv G (i + 1)) e.u).toNat (tourIx (lv G (i + 1)) e.v).toNat e.u e.v else lv G j := by
    intro j; rw [lnk, lv_setT _ _ _ _ (by exact tlen)]; rfl
  refine ⟨hi2, ⟨h.n1, h.n48, ?_, ?_, ?_, ?_, ?_⟩, ?_, ?_⟩
  · show (G.tours.set _ _).length = _; rw [List.length_set]; exact h.tl
  · intro f hf
    rcases mem_set hf with rfl | ⟨j, hj, _, rfl⟩
    · rw [eu, ev]
      show _ ∧ _ ∧ e.v < (G.N : Int) ∧ _ ∧ f.lev ≤ (Nat.log2 G.N : Int)
      omega
    · exact h.ed _ (by rw [get_eq hj]; exact List.getElem_mem hj)
  · show ((G.edges.set k e').map key).Nodup
    rw [key_set hk hkey]; exact h.nd
  · intro j hj
    rw [lvn]
    by_cases c : j = i + 1
    · rw [if_pos c, c]; exact link.li
    · rw [if_neg c]; exact (h.li j hj).mono (fun a b => tree_set hk hkey (up j))
  · intro j hj f hf ft fl
    rw [lvn]
    by_cases c : j = i + 1
    · rw [if_pos c]
      rcases mem_set hf with rfl | ⟨m, hm, _, rfl⟩
      · rw [eu, ev]; obtain ⟨t', q1, q2, _⟩ := link.way; exact ⟨t', q1, q2⟩
      · obtain ⟨t, q1, q2⟩ := h.cv j hj _ (by rw [get_eq hm]; exact List.getElem_mem hm) ft fl
        rw [c] at q1
        obtain ⟨t', q3, q4⟩ := link.mem t q1 _ q2
        exact ⟨t', q3, q4⟩
    · rw [if_neg c]
      rcases mem_set hf with rfl | ⟨m, hm, _, rfl⟩
      · rw [eu, ev]; exact h.cv j hj e hem ht (by omega)
      · exact h.cv j hj _ (by rw [get_eq hm]; exact List.getElem_mem hm) ft fl
  · rw [lvn, if_pos rfl]; exact link
  · intro j hj; rw [lvn, if_neg hj]
end

end Go.Proofs.YtckallochdegiaaGreat
namespace Go.Proofs.YtckallochdegiaaGreat
set_option linter.unusedVariables false
set_option linter.unusedSimpArgs false

/-- Linked at the levels below m. -/
def lnks (G : Gr) (u v : Int) : Nat → Gr
  | 0 => G
  | m + 1 => lnk (lnks G u v m) m u v

theorem lnks_edges (G : Gr) (u v : Int) (m : Nat) : (lnks G u v m).edges = G.edges := by
  induction m with
  | zero => rfl
  | succ m ih => exact ih
theorem lnks_N (G : Gr) (u v : Int) (m : Nat) : (lnks G u v m).N = G.N := by
  induction m with
  | zero => rfl
  | succ m ih => exact ih
theorem lnks_len (G : Gr) (u v : Int) (m : Nat) : (lnks G u v m).tours.length = G.tours.length := by
  induction m with
  | zero => rfl
  | succ m ih => show (List.set _ _ _).length = _; rw [List.length_set]; exact ih
theorem lnks_lv (G : Gr) (u v : Int) (m : Nat) (hm : m ≤ G.tours.length) (j : Nat) : lv (lnks G u v m) j = if j < m then linkT (lv G j) (tourIx (lv G j) u).toNat (tourIx (lv G j) v).toNat u v else lv G j := by
  induction m with
  | zero => simp [lnks]
  | succ m ih =>
    have ih := ih (by omega)
    show lv (lnk (lnks G u v m) m u v) j = _
    rw [lnk, lv_setT _ _ _ _ (by rw [lnks_len]; omega)]
    have e : lv (lnks G u v m) m = lv G m := by
      have := fun (jj : Nat) => lnks_lv_aux G u v m (by omega) jj
      rw [this m, if_neg (by omega)]
    rw [e]
    by_cases c : j = m
    · subst c; rw [if_pos rfl, if_pos (by omega)]
    · rw [if_neg c, ih]
      by_cases d : j < m
      · rw [if_pos d, if_pos (by omega)]
      · rw [if_neg d, if_neg (by omega)]
  where
  lnks_lv_aux (G : Gr) (u v : Int) (m : Nat) (hm : m ≤ G.tours.length) (j : Nat) : lv (lnks G u v m) j = if j < m then linkT (lv G j) (tourIx (lv G j) u).toNat (tourIx (lv G j) v).toNat u v else lv G j := by
    induction m generalizing j with
    | zero => simp [lnks]
    | succ m ih =>
      show lv (lnk (lnks G u v m) m u v) j = _
      rw [lnk, lv_setT _ _ _ _ (by rw [lnks_len]; omega), ih (by omega) m, ih (by omega) j, if_neg (Nat.lt_irrefl m)]
      by_cases c : j = m
      · subst c; rw [if_pos rfl, if_pos (by omega)]
      · rw [if_neg c]
        by_cases d : j < m
        · rw [if_pos d, if_pos (by omega)]
        · rw [if_neg d, if_neg (by omega)]

section
variable {G : Gr} {i k : Nat} {e : Edg}

/-- An edge beside the forest becomes of it, at level i: linked in the levels up to i. -/
theorem GI.forest (h : GI G) (hk : k < G.edges.length) (he : G.edges[k]?.getD e0 = e) (ht : e.tree = false) (hi : i ≤ Nat.log2 G.N) {x y : Int} (hxy : (x = e.u ∧ y = e.v) ∨ (x = e.v ∧ y = e.u))
    (hap : ∀ j, j ≤ i → ¬ Same (lv G j) x y) (hsz : ∀ j, j ≤ i → ∀ a b, a ∈ lv G j → b ∈ lv G j → (x, -1) ∈ a → (y, -1) ∈ b → (sizeV a + sizeV b) * 2 ^ j ≤ G.N) :
    GI (lnks (setE G k ⟨e.u, e.v, i, true⟩) x y (i + 1)) ∧
    (∀ j, j ≤ i → Linked G.N (G.edges.set k ⟨e.u, e.v, i, true⟩) j (lv G j) (lv (lnks (setE G k ⟨e.u, e.v, i, true⟩) x y (i + 1)) j) x y) ∧
    (∀ j, i < j → lv (lnks (setE G k ⟨e.u, e.v, i, true⟩) x y (i + 1)) j = lv G j) := by
  have hem : e ∈ G.edges := by rw [← he, get_eq hk]; exact List.getElem_mem hk
  have b := h.ed e hem
  obtain ⟨e', he'⟩ : ∃ e', e' = (⟨e.u, e.v, i, true⟩ : Edg) := ⟨_, rfl⟩
  rw [← he']
  have eu : e'.u = e.u := by rw [he']
  have ev : e'.v = e.v := by rw [he']
  have htr : e'.tree = true := by rw [he']
  have hlev : e'.lev = i := by rw [he']
  have hkey : key e' = key (G.edges[k]?.getD e0) := by rw [he, he']; rfl
  have up : ∀ j : Nat, (G.edges[k]?.getD e0).tree = true → (j : Int) ≤ (G.edges[k]?.getD e0).lev → e'.tree = true ∧ (j : Int) ≤ e'.lev := by
    intro j q; rw [he, ht] at q; simp at q
  have tl : i + 1 ≤ (setE G k e').tours.length := by show _ ≤ G.tours.length; rw [h.tl]; omega
  have lvn := lnks_lv (setE G k e') x y (i + 1) tl
  have link : ∀ j, j ≤ i → Linked G.N (G.edges.set k e') j (lv G j) (linkT (lv G j) (tourIx (lv G j) x).toNat (tourIx (lv G j) y).toNat x y) x y := by
    intro j hj
    have L1 : LI G.N (G.edges.set k e') j (lv G j) := (h.li j (by omega)).mono (fun a b => tree_set hk hkey (up j))
    have hte : TreeE (G.edges.set k e') j x y := by
      refine ⟨e', mem_set_self e' hk, htr, by omega, ?_⟩
      rw [eu, ev]
      rcases hxy with ⟨q1, q2⟩ | ⟨q1, q2⟩
      · exact Or.inl ⟨q1.symm, q2.symm⟩
      · exact Or.inr ⟨q2.symm, q1.symm⟩
    exact lnk_at L1 (by omega) (by omega) (by omega) (by omega) (hap j hj) hte (hsz j hj)
  have lvA : ∀ j, j ≤ i → lv (lnks (setE G k e') x y (i + 1)) j = linkT (lv G j) (tourIx (lv G j) x).toNat (tourIx (lv G j) y).toNat x y := by
    intro j hj; rw [lvn, if_pos (by omega), lv_setE]
  have lvB : ∀ j, i < j → lv (lnks (setE G k e') x y (i + 1)) j = lv G j := by
    intro j hj; rw [lvn, if_neg (by omega), lv_setE]
  refine ⟨⟨by rw [lnks_N]; exact h.n1, by rw [lnks_N]; exact h.n48, by rw [lnks_len, lnks_N]; exact h.tl, ?_, ?_, ?_, ?_⟩, fun j hj => by rw [lvA j hj]; exact link j hj, lvB⟩
  · intro f hf
    rw [lnks_edges] at hf
    rw [lnks_N]
    show _ ∧ _ ∧ f.v < (G.N : Int) ∧ _ ∧ f.lev ≤ (Nat.log2 G.N : Int)
    rcases mem_set hf with rfl | ⟨j, hj, _, rfl⟩
    · rw [eu, ev]; omega
    · exact h.ed _ (by rw [get_eq hj]; exact List.getElem_mem hj)
  · rw [lnks_edges]; show ((G.edges.set k e').map key).Nodup; rw [key_set hk hkey]; exact h.nd
  · intro j hj
    rw [lnks_N] at hj ⊢
    rw [lnks_edges]
    by_cases c : j ≤ i
    · rw [lvA j c]; exact (link j c).li
    · rw [lvB j (by omega)]; exact (h.li j hj).mono (fun a b => tree_set hk hkey (up j))
  · intro j hj f hf ft fl
    rw [lnks_N] at hj
    rw [lnks_edges] at hf
    by_cases c : j ≤ i
    · rw [lvA j c]
      rcases mem_set hf with rfl | ⟨m, hm, _, rfl⟩
      · rw [eu, ev]
        obtain ⟨t', q1, q2, q3⟩ := (link j c).way
        rcases hxy with ⟨q4, q5⟩ | ⟨q4, q5⟩
        · exact ⟨t', q1, by rw [← q4, ← q5]; exact q2⟩
        · exact ⟨t', q1, by rw [← q4, ← q5]; exact q3⟩
      · obtain ⟨t, q1, q2⟩ := h.cv j hj _ (by rw [get_eq hm]; exact List.getElem_mem hm) ft fl
        obtain ⟨t', q3, q4⟩ := (link j c).mem t q1 _ q2
        exact ⟨t', q3, q4⟩
    · rw [lvB j (by omega)]
      rcases mem_set hf with rfl | ⟨m, hm, _, rfl⟩
      · omega
      · exact h.cv j hj _ (by rw [get_eq hm]; exact List.getElem_mem hm) ft fl

/-- An edge beside the forest rises. -/
theorem GI.raise (h : GI G) (hk : k < G.edges.length) (he : G.edges[k]?.getD e0 = e) (ht : e.tree = false) (hl : e.lev + 1 ≤ Nat.log2 G.N) : GI (setE G k { e with lev := e.lev + 1 }) := by
  have hem : e ∈ G.edges := by rw [← he, get_eq hk]; exact List.getElem_mem hk
  have b := h.ed e hem
  have hkey : key { e with lev := e.lev + 1 } = key (G.edges[k]?.getD e0) := by rw [he]; rfl
  have up : ∀ j : Nat, (G.edges[k]?.getD e0).tree = true → (j : Int) ≤ (G.edges[k]?.getD e0).lev → ({ e with lev := e.lev + 1 } : Edg).tree = true ∧ (j : Int) ≤ ({ e with lev := e.lev + 1 } : Edg).lev := by
    intro j q; rw [he, ht] at q; simp at q
  refine ⟨h.n1, h.n48, h.tl, ?_, ?_, fun j hj => (h.li j hj).mono (fun a b => tree_set hk hkey (up j)), ?_⟩
  · intro f hf
    rcases mem_set hf with rfl | ⟨j, hj, _, rfl⟩
    · show 0 ≤ e.u ∧ e.u < e.v ∧ e.v < (G.N : Int) ∧ 0 ≤ e.lev + 1 ∧ e.lev + 1 ≤ (Nat.log2 G.N : Int)
      omega
    · exact h.ed _ (by rw [get_eq hj]; exact List.getElem_mem hj)
  · show ((G.edges.set k _).map key).Nodup
    rw [key_set hk hkey]; exact h.nd
  · intro j hj f hf ft fl
    rcases mem_set hf with rfl | ⟨m, hm, _, rfl⟩
    · simp [ht] at ft
    · exact h.cv j hj _ (by rw [get_eq hm]; exact List.getElem_mem hm) ft fl

def addE (G : Gr) (u v : Int) : Gr := { G with edges := G.edges ++ [⟨min u v, max u v, 0, false⟩] }

theorem tree_add {es : List Edg} {f : Edg} {j : Nat} {a b : Int} (h : TreeE es j a b) : TreeE (es ++ [f]) j a b := by
  obtain ⟨e, h1, h2⟩ := h
  exact ⟨e, by simp [h1], h2⟩

/-- An edge that is not there comes, beside the forest. -/
theorem GI.add (h : GI G) {u v : Int} (hu0 : 0 ≤ u) (hu1 : u < G.N) (hv0 : 0 ≤ v) (hv1 : v < G.N) (hne : u ≠ v) (hno : ∀ e, e ∈ G.edges → ¬ (e.u = min u v ∧ e.v = max u v)) : GI (addE G u v) := by
  refine ⟨h.n1, h.n48, h.tl, ?_, ?_, fun j hj => (h.li j hj).mono (fun a b => tree_add), ?_⟩
  · intro f hf
    show _ ∧ _ ∧ f.v < (G.N : Int) ∧ _ ∧ f.lev ≤ (Nat.log2 G.N : Int)
    rcases List.mem_append.1 hf with k | k
    · exact h.ed f k
    · simp at k; subst k; simp only; omega
  · show ((G.edges ++ [_]).map key).Nodup
    rw [List.map_append, List.nodup_append]
    refine ⟨h.nd, by simp, ?_⟩
    intro x hx y hy q
    simp at hy
    obtain ⟨e, he, rfl⟩ := List.mem_map.1 hx
    subst hy
    exact hno e he ⟨congrArg Prod.fst q, congrArg Prod.snd q⟩
  · intro j hj f hf ft fl
    rcases List.mem_append.1 hf with k | k
    · exact h.cv j hj f k ft fl
    · simp at k; subst k; simp at ft

/-- One end with u, the other with v. -/
def Split (ts : List (List Itm)) (u v a b : Int) : Prop := (Same ts a u ∧ Same ts b v) ∨ (Same ts a v ∧ Same ts b u)

/-- In the midst of a Delete of u - v: the levels above i are done. -/
structure MI (G : Gr) (u v : Int) (i : Nat) : Prop where
  gi : GI G
  il : i ≤ Nat.log2 G.N
  ap : ∀ j, j ≤ i → ¬ Same (lv G j) u v
  ns : ∀ e, e ∈ G.edges → e.tree = false → Same (lv G e.lev.toNat) e.u e.v ∨ (e.lev ≤ i ∧ Split (lv G e.lev.toNat) u v e.u e.v)
  sz : ∀ j, j ≤ i → ∀ a b, a ∈ lv G j → b ∈ lv G j → (u, -1) ∈ a → (v, -1) ∈ b → (sizeV a + sizeV b) * 2 ^ j ≤ G.N
end

end Go.Proofs.YtckallochdegiaaGreat
namespace Go.Proofs.YtckallochdegiaaGreat
set_option linter.unusedVariables false
set_option linter.unusedSimpArgs false

/-- The place of the way back in a round from u - v on. -/
def cutP (t : List Itm) (u v : Int) : Nat := t.findIdx (fun y => y == (v, u))
def cutL (ts : List (List Itm)) (u v : Int) : List (List Itm) :=
  cutT ts (tourIx ts u).toNat (tourIx ts v).toNat (fromX (ts[(tourIx ts u).toNat]?.getD []) (u, v)) (cutP (fromX (ts[(tourIx ts u).toNat]?.getD []) (u, v)) u v)
def cutG (G : Gr) (i : Nat) (u v : Int) : Gr := setT G i (cutL (lv G i) u v)
/-- Cut at the levels below m. -/
def cuts (G : Gr) (u v : Int) : Nat → Gr
  | 0 => G
  | m + 1 => cutG (cuts G u v m) m u v
def delE (G : Gr) (k : Nat) : Gr := { G with edges := G.edges.eraseIdx k }

theorem cuts_edges (G : Gr) (u v : Int) (m : Nat) : (cuts G u v m).edges = G.edges := by
  induction m with
  | zero => rfl
  | succ m ih => exact ih
theorem cuts_N (G : Gr) (u v : Int) (m : Nat) : (cuts G u v m).N = G.N := by
  induction m with
  | zero => rfl
  | succ m ih => exact ih
theorem cuts_len (G : Gr) (u v : Int) (m : Nat) : (cuts G u v m).tours.length = G.tours.length := by
  induction m with
  | zero => rfl
  | succ m ih => show (List.set _ _ _).length = _; rw [List.length_set]; exact ih
theorem cuts_lv (G : Gr) (u v : Int) (m : Nat) (hm : m ≤ G.tours.length) (j : Nat) : lv (cuts G u v m) j = if j < m then cutL (lv G j) u v else lv G j := by
  induction m generalizing j with
  | zero => simp [cuts]
  | succ m ih =>
    show lv (cutG (cuts G u v m) m u v) j = _
    rw [cutG, lv_setT _ _ _ _ (by rw [cuts_len]; omega), ih (by omega) m, ih (by omega) j, if_neg (Nat.lt_irrefl m)]
    by_cases c : j = m
    · subst c; rw [if_pos rfl, if_pos (by omega)]
    · rw [if_neg c]
      by_cases d : j < m
      · rw [if_pos d, if_pos (by omega)]
      · rw [if_neg d, if_neg (by omega)]

section
variable {N : Nat} {es es' : List Edg} {i : Nat} {ts : List (List Itm)} {u v : Int}

/-- What the cut of a level finds. -/
structure CutFind (ts : List (List Itm)) (u v : Int) (ka p : Nat) (t : List Itm) : Prop where
  hk : ka < ts.length
  iu : tourIx ts u = ka
  iv : tourIx ts v = ka
  ht : t = fromX (ts[ka]?.getD []) (u, v)
  hp : p = cutP t u v
  p1 : 2 ≤ p
  p2 : p + 1 < t.length
  at_ : t[p]?.getD (0, 0) = (v, u)
  no : ∀ j, j < p → ¬ t[j]?.getD (0, 0) = (v, u)

theorem cut_one (h : LI N es i ts) (hu0 : 0 ≤ u) (hv0 : 0 ≤ v) {t0 : List Itm} (ht0 : t0 ∈ ts) (hm : (u, v) ∈ t0) (hes : ∀ a b, TreeE es i a b → ¬ ((a, b) = (u, v)) → ¬ ((a, b) = (v, u)) → TreeE es' i a b) :
    (∃ ka p t, CutFind ts u v ka p t) ∧ CutAt N es' i ts (cutL ts u v) u v := by
  have T := h.tr t0 ht0
  have hback := (T.way (u, v) hm (by show v ≠ -1; omega)).1
  obtain ⟨ka, hk, iu, e1⟩ := h.ix ht0 (T.vtx _ hm)
  obtain ⟨kb, hkb, iv, e2⟩ := h.ix ht0 (T.vtx _ hback)
  have hab : ka = kb := by
    by_cases c : ka = kb
    · exact c
    · have := pair_ne h.dj hk hkb c
      rw [get_eq hk] at e1
      rw [get_eq hkb] at e2
      rw [e1, e2] at this
      exact absurd rfl (this _ hm _ hm)
  subst hab
  obtain ⟨A, B, f1, f2, f3, f4, f5⟩ := cut_place T hu0 hv0 hm
  have nd := f2.nd
  have nin : ∀ x, x ∈ (u, v) :: A → ¬ x = (v, u) := by
    intro x hx q
    subst q
    simp [List.nodup_append] at nd
    simp only [List.mem_cons] at hx
    rcases hx with hx | hx
    · have q1 : v = u := congrArg Prod.fst hx
      have := nd.1.2.1
      rw [q1] at this
      exact this rfl rfl
    · exact (nd.2.2.2 v u hx).1 rfl rfl
  have pos : cutP (fromX t0 (u, v)) u v = A.length + 1 := by
    rw [f1, cutP, show (u, v) :: (A ++ (v, u) :: B) = ((u, v) :: A) ++ (v, u) :: B by simp, List.findIdx_append]
    have : List.findIdx (fun y => y == (v, u)) ((u, v) :: A) = ((u, v) :: A).length := by
      rw [List.findIdx_eq_length]
      intro x hx; simpa using nin x hx
    rw [this]; simp [List.findIdx_cons]
  have eL : cutL ts u v = rest ts ka ka ++ [A, B] := by
    rw [cutL, iu, iv, Int.toNat_natCast, e1, pos, f1]; exact cutT_eq A B
  refine ⟨⟨ka, A.length + 1, fromX t0 (u, v), hk, iu, iv, by rw [e1], pos.symm, ?_, ?_, ?_, ?_⟩, ?_⟩
  · cases A with
    | nil => exact absurd rfl f4
    | cons a A => simp
  · rw [f1]
    cases B with
    | nil => exact absurd rfl f5
    | cons a B => simp
  · rw [f1, show (u, v) :: (A ++ (v, u) :: B) = ((u, v) :: A) ++ (v, u) :: B by simp, List.getElem?_append_right (by simp)]
    simp
  · intro j hj
    rw [f1, show (u, v) :: (A ++ (v, u) :: B) = ((u, v) :: A) ++ (v, u) :: B by simp, List.getElem?_append_left (by simpa using hj), get_eq (by simpa using hj)]
    exact nin _ (List.getElem_mem _)
  · rw [eL]
    exact h.cut hu0 hv0 hk (by rw [e1]; exact hm) (by rw [e1]; exact f3) f2 hes
end

section
variable {G : Gr} {k : Nat} {e : Edg}

theorem mem_erase {es : List Edg} {f : Edg} (h : f ∈ es.eraseIdx k) : f ∈ es := List.mem_of_mem_eraseIdx h
theorem erase_other {es : List Edg} (hk : k < es.length) {f : Edg} (hf : f ∈ es) (hne : f ≠ es[k]?.getD e0) : f ∈ es.eraseIdx k := by
  obtain ⟨j, hj, rfl⟩ := List.mem_iff_getElem.1 hf
  rw [List.mem_eraseIdx_iff_getElem]
  refine ⟨j, hj, fun q => ?_, rfl⟩
  subst q
  exact hne (get_eq hk).symm

/-- An edge beside the forest goes. -/
theorem GI.drop (h : GI G) (hk : k < G.edges.length) (he : G.edges[k]?.getD e0 = e) (ht : e.tree = false) : GI (delE G k) := by
  refine ⟨h.n1, h.n48, h.tl, fun f hf => h.ed f (mem_erase hf), ?_, ?_, fun j hj f hf => h.cv j hj f (mem_erase hf)⟩
  · show ((G.edges.eraseIdx k).map key).Nodup
    exact h.nd.sublist (List.Sublist.map key (List.eraseIdx_sublist _ _))
  · intro j hj
    refine (h.li j hj).mono (fun a b q => ?_)
    obtain ⟨f, f1, f2, f3, f4⟩ := q
    exact ⟨f, erase_other hk f1 (fun q => by rw [q, he, ht] at f2; simp at f2), f2, f3, f4⟩

/-- An edge of the forest goes: cut in all its levels. -/
theorem GI.cutAll (h : GI G) (hns : NS G) (hk : k < G.edges.length) (he : G.edges[k]?.getD e0 = e) (ht : e.tree = true) {l : Nat} (hl : e.lev = l) :
    MI (cuts (delE G k) e.u e.v (l + 1)) e.u e.v l ∧ ∀ j, j ≤ l → ∃ ka p t, CutFind (lv (cuts (delE G k) e.u e.v j) j) e.u e.v ka p t := by
  have hem : e ∈ G.edges := by rw [← he, get_eq hk]; exact List.getElem_mem hk
  have b := h.ed e hem
  have tl : l + 1 ≤ (delE G k).tours.length := by show _ ≤ G.tours.length; rw [h.tl]; omega
  have lvn := fun m (hm : m ≤ l + 1) => cuts_lv (delE G k) e.u e.v m (Nat.le_trans hm tl)
  have hes : ∀ j : Nat, ∀ a c, TreeE G.edges j a c → ¬ ((a, c) = (e.u, e.v)) → ¬ ((a, c) = (e.v, e.u)) → TreeE (G.edges.eraseIdx k) j a c := by
    rintro j a c ⟨f, f1, f2, f3, f4⟩ n1 n2
    refine ⟨f, erase_other hk f1 (fun q => ?_), f2, f3, f4⟩
    rw [he] at q
    subst q
    rcases f4 with ⟨q1, q2⟩ | ⟨q1, q2⟩
    · exact n1 (by rw [q1, q2])
    · exact n2 (by rw [q1, q2])
  have one : ∀ j, j ≤ l → (∃ ka p t, CutFind (lv G j) e.u e.v ka p t) ∧ CutAt G.N (G.edges.eraseIdx k) j (lv G j) (cutL (lv G j) e.u e.v) e.u e.v := by
    intro j hj
    obtain ⟨t, g1, g2, _⟩ := h.tree_same (i := j) (by omega) hem ht (by omega)
    exact cut_one (h.li j (by omega)) (by omega) (by omega) g1 g2 (hes j)
  have lvA : ∀ j, j ≤ l → lv (cuts (delE G k) e.u e.v (l + 1)) j = cutL (lv G j) e.u e.v := by
    intro j hj; rw [lvn _ (Nat.le_refl _), if_pos (by omega)]; rfl
  have lvB : ∀ j, l < j → lv (cuts (delE G k) e.u e.v (l + 1)) j = lv G j := by
    intro j hj; rw [lvn _ (Nat.le_refl _), if_neg (by omega)]; rfl
  have other : ∀ f, f ∈ G.edges.eraseIdx k → f ∈ G.edges ∧ ¬ ((f.u, f.v) = (e.u, e.v)) ∧ ¬ ((f.u, f.v) = (e.v, e.u)) := by
    intro f hf
    have hfm := mem_erase hf
    have bf := h.ed f hfm
    have hne : f ≠ e := by
      intro q
      have nd : G.edges.Nodup := by
        have hn := h.nd
        rw [List.Nodup, List.pairwise_map] at hn
        exact hn.imp (fun {a b} q1 q2 => q1 (by rw [q2]))
      rw [List.mem_eraseIdx_iff_getElem] at hf
      obtain ⟨j, hj, hjk, hje⟩ := hf
      rw [q, ← he, get_eq hk] at hje
      rw [List.Nodup, List.pairwise_iff_getElem] at nd
      by_cases c : j < k
      · exact nd j k hj hk c hje
      · exact nd k j hk hj (by omega) hje.symm
    refine ⟨hfm, fun q => hne (nd_eq h.nd hfm hem q), fun q => ?_⟩
    have q1 : f.u = e.v := congrArg Prod.fst q
    have q2 : f.v = e.u := congrArg Prod.snd q
    omega
  have gi : GI (cuts (delE G k) e.u e.v (l + 1)) := by
    refine ⟨by rw [cuts_N]; exact h.n1, by rw [cuts_N]; exact h.n48, by rw [cuts_len, cuts_N]; exact h.tl, ?_, ?_, ?_, ?_⟩
    · intro f hf
      rw [cuts_edges] at hf; rw [cuts_N]
      exact h.ed f (mem_erase hf)
    · rw [cuts_edges]
      exact h.nd.sublist (List.Sublist.map key (List.eraseIdx_sublist _ _))
    · intro j hj
      rw [cuts_N] at hj ⊢
      rw [cuts_edges]
      by_cases c : j ≤ l
      · rw [lvA j c]; exact (one j c).2.li
      · rw [lvB j (by omega)]
        refine (h.li j hj).mono (fun a c2 q => ?_)
        obtain ⟨f, f1, f2, f3, f4⟩ := q
        exact ⟨f, erase_other hk f1 (fun q => by rw [q, he, hl] at f3; omega), f2, f3, f4⟩
    · intro j hj f hf ft fl
      rw [cuts_N] at hj
      rw [cuts_edges] at hf
      obtain ⟨hfm, n1, n2⟩ := other f hf
      obtain ⟨t, q1, q2⟩ := h.cv j hj f hfm ft fl
      by_cases c : j ≤ l
      · rw [lvA j c]
        obtain ⟨t', q3, q4⟩ := (one j c).2.mem t q1 _ q2 n1 n2
        exact ⟨t', q3, q4⟩
      · rw [lvB j (by omega)]; exact ⟨t, q1, q2⟩
  refine ⟨⟨gi, by rw [cuts_N]; show l ≤ Nat.log2 G.N; omega, ?_, ?_, ?_⟩, ?_⟩
  · intro j hj; rw [lvA j hj]; exact (one j hj).2.uv
  · intro f hf ft
    rw [cuts_edges] at hf
    have hfm := mem_erase hf
    have bf := h.ed f hfm
    have s := hns f hfm ft
    by_cases c : f.lev.toNat ≤ l
    · rw [lvA _ c]
      rcases (one _ c).2.mono _ _ s with q | q
      · exact Or.inl q
      · exact Or.inr ⟨by omega, q⟩
    · rw [lvB _ (by omega)]; exact Or.inl s
  · intro j hj a c ha hc hua hvc
    rw [cuts_N]
    rw [lvA j hj] at ha hc
    obtain ⟨tu, tv, q1, q2, q3, q4, q5⟩ := (one j hj).2.siz
    have L := (one j hj).2.li
    rw [L.uniq ha q1 hua q3 rfl, L.uniq hc q2 hvc q4 rfl]
    exact q5
  · intro j hj
    rw [lvn j (by omega), if_neg (Nat.lt_irrefl j)]
    exact (one j hj).1

/-- The other half. -/
theorem MI.swap {u v : Int} {i : Nat} (h : MI G u v i) : MI G v u i :=
  ⟨h.gi, h.il, fun j hj q => h.ap j hj q.symm, fun e he ht => (h.ns e he ht).imp id (fun q => ⟨q.1, q.2.symm.imp (fun w => ⟨w.1, w.2⟩) (fun w => ⟨w.1, w.2⟩)⟩), fun j hj a b ha hb hva hub => by rw [Nat.add_comm]; exact h.sz j hj b a hb ha hub hva⟩
end

end Go.Proofs.YtckallochdegiaaGreat
namespace Go.Proofs.YtckallochdegiaaGreat
set_option linter.unusedVariables false
set_option linter.unusedSimpArgs false

/-- The same edges, of the same kinds, at no lower levels. -/
def Up (es es' : List Edg) : Prop := es'.length = es.length ∧ ∀ j, j < es.length → key (es'[j]?.getD e0) = key (es[j]?.getD e0) ∧ (es'[j]?.getD e0).tree = (es[j]?.getD e0).tree ∧ (es[j]?.getD e0).lev ≤ (es'[j]?.getD e0).lev

theorem Up.refl (es : List Edg) : Up es es := ⟨rfl, fun _ _ => ⟨rfl, rfl, Int.le_refl _⟩⟩
theorem Up.trans {a b c : List Edg} (h : Up a b) (k : Up b c) : Up a c :=
  ⟨k.1.trans h.1, fun j hj => ⟨(k.2 j (by rw [h.1]; exact hj)).1.trans (h.2 j hj).1, (k.2 j (by rw [h.1]; exact hj)).2.1.trans (h.2 j hj).2.1, Int.le_trans (h.2 j hj).2.2 (k.2 j (by rw [h.1]; exact hj)).2.2⟩⟩
theorem up_set {es : List Edg} {k : Nat} {e' : Edg} (hk : k < es.length) (h1 : key e' = key (es[k]?.getD e0)) (h2 : e'.tree = (es[k]?.getD e0).tree) (h3 : (es[k]?.getD e0).lev ≤ e'.lev) : Up es (es.set k e') := by
  refine ⟨by simp, fun j hj => ?_⟩
  rw [List.getElem?_set]
  by_cases c : k = j
  · subst c; rw [if_pos rfl, if_pos hk]; exact ⟨h1, h2, h3⟩
  · rw [if_neg c]; exact ⟨rfl, rfl, Int.le_refl _⟩

/-- Find finds. -/
theorem find_mem {es : List Edg} (nd : (es.map key).Nodup) {e : Edg} (he : e ∈ es) : ∃ k, k < es.length ∧ findIx es e.u e.v = k ∧ es[k]?.getD e0 = e := by
  obtain ⟨k, hk, rfl⟩ := List.mem_iff_getElem.1 he
  refine ⟨k, hk, findIx_some hk (by rw [get_eq hk]) (by rw [get_eq hk]) (fun j hj q => ?_), get_eq hk⟩
  rw [get_eq (by omega)] at q
  rw [List.Nodup, List.pairwise_map, List.pairwise_iff_getElem] at nd
  exact nd j k (by omega) hk hj (Prod.ext q.1 q.2)
theorem find_ge {es : List Edg} {a b : Int} {k : Nat} (h : findIx es a b = k) : k < es.length ∧ (es[k]?.getD e0).u = a ∧ (es[k]?.getD e0).v = b := by
  unfold findIx at h
  split at h
  · rename_i m hm
    have e : m = k := by omega
    subst e
    obtain ⟨h1, h2, _⟩ := List.findIdx?_eq_some_iff_getElem.1 hm
    rw [get_eq h1]
    simp at h2
    exact ⟨h1, h2.1, h2.2⟩
  · omega
theorem find_cases (es : List Edg) (a b : Int) : findIx es a b = -1 ∨ ∃ k : Nat, findIx es a b = k := by
  unfold findIx
  split
  · exact Or.inr ⟨_, rfl⟩
  · exact Or.inl rfl
theorem find_no {es : List Edg} {a b : Int} (h : findIx es a b = -1) : ∀ e, e ∈ es → ¬ (e.u = a ∧ e.v = b) := by
  intro e he q
  unfold findIx at h
  split at h
  · omega
  · rename_i hm
    rw [List.findIdx?_eq_none_iff] at hm
    have := hm e he
    simp [q.1, q.2] at this

/-- A way of the lesser half's tour, from its lesser end: its edge rises if it is of just this level. -/
def riseT (i : Nat) (G : Gr) (x : Itm) : Gr :=
  if x.1 < x.2 then
    (if (G.edges[(findIx G.edges x.1 x.2).toNat]?.getD e0).lev = i then
      lnk (setE G (findIx G.edges x.1 x.2).toNat { G.edges[(findIx G.edges x.1 x.2).toNat]?.getD e0 with lev := (G.edges[(findIx G.edges x.1 x.2).toNat]?.getD e0).lev + 1 }) (i + 1) x.1 x.2
    else G)
  else G

section
variable {G : Gr} {s o : Int} {i : Nat} {t0 : List Itm}

theorem MI.rise_step (h : MI G s o i) (hs : t0 ∈ lv G i) (hsz : sizeV t0 * 2 ^ (i + 1) ≤ G.N) {x : Itm} (hx : x ∈ t0) :
    MI (riseT i G x) s o i ∧ (∀ j, j ≠ i + 1 → lv (riseT i G x) j = lv G j) ∧ Up G.edges (riseT i G x).edges ∧ (riseT i G x).N = G.N ∧
    (x.1 < x.2 → ∃ k e, k < G.edges.length ∧ findIx G.edges x.1 x.2 = k ∧ G.edges[k]?.getD e0 = e ∧ e.u = x.1 ∧ e.v = x.2 ∧ e.tree = true ∧ (i : Int) + 1 ≤ ((riseT i G x).edges[k]?.getD e0).lev ∧
      (e.lev = i → i + 2 ≤ Nat.log2 G.N ∧ LI G.N (G.edges.set k { e with lev := e.lev + 1 }) (i + 1) (lv G (i + 1)) ∧ ¬ Same (lv G (i + 1)) x.1 x.2)) := by
  by_cases hlt : x.1 < x.2
  · have L := h.gi.li i h.il
    have hw : x.2 ≠ -1 := by have := (L.rng t0 hs x hx).1.1; omega
    rcases (L.rng t0 hs x hx).2 with q | ⟨e, he, h1, h2, h3⟩
    · exact absurd q hw
    · have b := h.gi.ed e he
      have hxe : e.u = x.1 ∧ e.v = x.2 := by
        rcases h3 with q | ⟨q1, q2⟩
        · exact q
        · omega
      obtain ⟨k, hk, f1, f2⟩ := find_mem h.gi.nd he
      rw [hxe.1, hxe.2] at f1
      by_cases hl : e.lev = i
      · have hus : (e.u, -1) ∈ t0 := by rw [hxe.1]; exact (L.tr t0 hs).vtx x hx
        have hvs : (e.v, -1) ∈ t0 := by rw [hxe.2]; exact (L.tr t0 hs).vtx _ ((L.tr t0 hs).way x hx hw).1
        obtain ⟨r1, r2, r3, r4⟩ := h.gi.rise hk f2 h1 hl hs hus hvs hsz
        have eR : riseT i G x = lnk (setE G k { e with lev := e.lev + 1 }) (i + 1) e.u e.v := by
          rw [riseT, if_pos hlt, f1, Int.toNat_natCast, f2, if_pos hl, ← hxe.1, ← hxe.2]
        have hns := h.gi.apart_above (by omega) he h1 hl
        have hup : Up G.edges (G.edges.set k { e with lev := e.lev + 1 }) := up_set hk (by rw [f2]; rfl) (by rw [f2]) (by rw [f2]; show e.lev ≤ e.lev + 1; omega)
        have LI1 : LI G.N (G.edges.set k { e with lev := e.lev + 1 }) (i + 1) (lv G (i + 1)) := (h.gi.li (i + 1) (by omega)).mono (fun a b => tree_set hk (by rw [f2]; rfl) (by intro q1 q2; rw [f2] at q2; exact ⟨h1, by show ((i + 1 : Nat) : Int) ≤ e.lev + 1; omega⟩))
        rw [eR]
        refine ⟨⟨r2, h.il, fun j hj => by rw [r4 j (by omega)]; exact h.ap j hj, ?_, fun j hj a c ha hc => by rw [r4 j (by omega)] at ha hc; exact h.sz j hj a c ha hc⟩, r4, hup, rfl, fun _ => ⟨k, e, hk, f1, f2, hxe.1, hxe.2, h1, ?_, fun _ => ⟨r1, LI1, by rw [← hxe.1, ← hxe.2]; exact hns⟩⟩⟩
        · intro f hf ft
          rcases mem_set hf with rfl | ⟨j, hj, _, rfl⟩
          · have : ({ e with lev := e.lev + 1 } : Edg).tree = true := h1
            rw [this] at ft; simp at ft
          · have := h.ns _ (by rw [get_eq hj]; exact List.getElem_mem hj) ft
            by_cases c : (G.edges[j]?.getD e0).lev.toNat = i + 1
            · rcases this with q | ⟨q, _⟩
              · rw [c] at q ⊢; exact Or.inl (r3.mono _ _ q)
              · omega
            · rw [r4 _ c]; exact this
        · show (i : Int) + 1 ≤ ((G.edges.set k _)[k]?.getD e0).lev
          rw [List.getElem?_set, if_pos rfl, if_pos hk]; show (i : Int) + 1 ≤ e.lev + 1; omega
      · have eR : riseT i G x = G := by rw [riseT, if_pos hlt, f1, Int.toNat_natCast, f2, if_neg hl]
        rw [eR]
        exact ⟨h, fun _ _ => rfl, Up.refl _, rfl, fun _ => ⟨k, e, hk, f1, f2, hxe.1, hxe.2, h1, by rw [f2]; omega, fun q => absurd q hl⟩⟩
  · have eR : riseT i G x = G := by rw [riseT, if_neg hlt]
    rw [eR]
    exact ⟨h, fun _ _ => rfl, Up.refl _, rfl, fun q => absurd q hlt⟩

/-- All edges of the half have risen: it is one tree of the level above. -/
theorem MI.all_up (h : MI G s o i) (hs : t0 ∈ lv G i) (hi : i + 1 ≤ Nat.log2 G.N) (hsv : (s, -1) ∈ t0) (hup : ∀ x, x ∈ t0 → x.1 < x.2 → ∀ e, e ∈ G.edges → key e = (x.1, x.2) → (i : Int) + 1 ≤ e.lev) :
    ∀ y, y ∈ t0 → Same (lv G (i + 1)) s y.1 := by
  have L := h.gi.li i h.il
  have T := L.tr t0 hs
  have L1 := h.gi.li (i + 1) hi
  have r := (L.rng t0 hs _ hsv).1
  obtain ⟨t1, q1, q2⟩ := L1.all s r.1 r.2
  refine T.reach hsv (fun z => Same (lv G (i + 1)) s z) ⟨t1, q1, q2, q2⟩ (fun x hx hw k => ?_)
  rcases (L.rng t0 hs x hx).2 with q | ⟨e, he, h1, h2, h3⟩
  · exact absurd q hw
  · have b := h.gi.ed e he
    have hl : (i : Int) + 1 ≤ e.lev := by
      rcases h3 with ⟨q1, q2⟩ | ⟨q1, q2⟩
      · exact hup x hx (by omega) e he (Prod.ext q1 q2)
      · have w := (T.way x hx hw).1
        exact hup _ w (by show x.2 < x.1; omega) e he (Prod.ext q1 q2)
    obtain ⟨t, g1, _, _, g4, g5⟩ := h.gi.tree_same (i := i + 1) hi he h1 (by omega)
    rcases h3 with ⟨q1, q2⟩ | ⟨q1, q2⟩
    · exact L1.same_trans k ⟨t, g1, by rw [← q1]; exact g4, by rw [← q2]; exact g5⟩
    · exact L1.same_trans k ⟨t, g1, by rw [← q2]; exact g5, by rw [← q1]; exact g4⟩

/-- An edge beside the forest, within the half, rises. -/
theorem MI.raise_step (h : MI G s o i) {k : Nat} {e : Edg} (hk : k < G.edges.length) (he : G.edges[k]?.getD e0 = e) (ht : e.tree = false) (hl : e.lev = i) (hi : i + 1 ≤ Nat.log2 G.N) (hsm : Same (lv G (i + 1)) e.u e.v) :
    MI (setE G k { e with lev := e.lev + 1 }) s o i := by
  refine ⟨h.gi.raise hk he ht (by omega), h.il, h.ap, ?_, h.sz⟩
  intro f hf ft
  rcases mem_set hf with rfl | ⟨j, hj, _, rfl⟩
  · refine Or.inl ?_
    show Same (lv G (e.lev + 1).toNat) e.u e.v
    rw [show (e.lev + 1).toNat = i + 1 by omega]; exact hsm
  · exact h.ns _ (by rw [get_eq hj]; exact List.getElem_mem hj) ft

/-- An edge that leads out of the half is found. -/
theorem MI.found (h : MI G s o i) {k : Nat} {e : Edg} (hk : k < G.edges.length) (he : G.edges[k]?.getD e0 = e) (ht : e.tree = false) (hl : e.lev = i) {x y : Int} (hxy : (x = e.u ∧ y = e.v) ∨ (x = e.v ∧ y = e.u)) (hxs : Same (lv G i) x s) (hys : ¬ Same (lv G i) y s) :
    GI (lnks (setE G k ⟨e.u, e.v, i, true⟩) x y (i + 1)) ∧ NS (lnks (setE G k ⟨e.u, e.v, i, true⟩) x y (i + 1)) ∧
    (∀ j, j ≤ i → ¬ Same (lv G j) x y) ∧ (∀ j, j ≤ i → LI G.N (G.edges.set k ⟨e.u, e.v, i, true⟩) j (lv G j)) := by
  have hem : e ∈ G.edges := by rw [← he, get_eq hk]; exact List.getElem_mem hk
  have Li := h.gi.li i h.il
  have hyo : Same (lv G i) y o := by
    have := h.ns e hem ht
    rw [show e.lev.toNat = i by omega] at this
    rcases this with q | ⟨_, q⟩
    · exfalso
      rcases hxy with ⟨q1, q2⟩ | ⟨q1, q2⟩
      · rw [← q1, ← q2] at q; exact hys (Li.same_trans q.symm hxs)
      · rw [← q1, ← q2] at q; exact hys (Li.same_trans q hxs)
    · rcases q with ⟨a1, a2⟩ | ⟨a1, a2⟩
      · rcases hxy with ⟨q1, q2⟩ | ⟨q1, q2⟩
        · rw [q2]; exact a2
        · rw [← q2] at a1; exact absurd a1 hys
      · rcases hxy with ⟨q1, q2⟩ | ⟨q1, q2⟩
        · rw [← q2] at a2; exact absurd a2 hys
        · rw [q2]; exact a1
  have xs : ∀ j, j ≤ i → Same (lv G j) x s := fun j hj => h.gi.nest hj h.il hxs
  have yo : ∀ j, j ≤ i → Same (lv G j) y o := fun j hj => h.gi.nest hj h.il hyo
  have il := h.il
  have hap : ∀ j, j ≤ i → ¬ Same (lv G j) x y := fun j hj q => h.ap j hj ((h.gi.li j (by omega)).same_trans (xs j hj).symm ((h.gi.li j (by omega)).same_trans q (yo j hj)))
  have hsz : ∀ j, j ≤ i → ∀ a b, a ∈ lv G j → b ∈ lv G j → (x, -1) ∈ a → (y, -1) ∈ b → (sizeV a + sizeV b) * 2 ^ j ≤ G.N := by
    intro j hj a b ha hb hxa hyb
    have Lj := h.gi.li j (by omega)
    obtain ⟨t1, p1, p2, p3⟩ := xs j hj
    obtain ⟨t2, p4, p5, p6⟩ := yo j hj
    have e1 := Lj.uniq ha p1 hxa p2 rfl
    have e2 := Lj.uniq hb p4 hyb p5 rfl
    exact h.sz j hj a b ha hb (by rw [e1]; exact p3) (by rw [e2]; exact p6)
  obtain ⟨g1, g2, g3⟩ := h.gi.forest hk he ht h.il hxy hap hsz
  have hkey : key (⟨e.u, e.v, i, true⟩ : Edg) = key (G.edges[k]?.getD e0) := by rw [he]; rfl
  refine ⟨g1, ?_, hap, fun j hj => (h.gi.li j (by omega)).mono (fun a b => tree_set hk hkey (by intro q; rw [he, ht] at q; simp at q))⟩
  intro f hf ft
  rw [lnks_edges] at hf
  rcases mem_set hf with rfl | ⟨j, hj, _, rfl⟩
  · simp at ft
  · have := h.ns _ (by rw [get_eq hj]; exact List.getElem_mem hj) ft
    have bf := h.gi.ed _ (show G.edges[j]?.getD e0 ∈ G.edges by rw [get_eq hj]; exact List.getElem_mem hj)
    generalize G.edges[j]?.getD e0 = f at this bf ft ⊢
    by_cases c : f.lev.toNat ≤ i
    · have Lk := g2 _ c
      rcases this with q | ⟨_, q⟩
      · exact Lk.mono _ _ q
      · have sx := Lk.mono _ _ (xs _ c)
        have oy := Lk.mono _ _ (yo _ c)
        have so : Same (lv (lnks (setE G k ⟨e.u, e.v, i, true⟩) x y (i + 1)) f.lev.toNat) s o := Lk.li.same_trans sx.symm (Lk.li.same_trans Lk.uv oy)
        rcases q with ⟨a1, a2⟩ | ⟨a1, a2⟩
        · exact Lk.li.same_trans (Lk.mono _ _ a1) (Lk.li.same_trans so (Lk.mono _ _ a2).symm)
        · exact Lk.li.same_trans (Lk.mono _ _ a1) (Lk.li.same_trans so.symm (Lk.mono _ _ a2).symm)
    · rw [g3 _ (by omega)]
      rcases this with q | ⟨q, _⟩
      · exact q
      · omega

/-- None was found: on to the level below. -/
theorem MI.down (h : MI G s o (i + 1)) (hd : ∀ f, f ∈ G.edges → f.tree = false → f.lev = ((i + 1 : Nat) : Int) → ¬ Same (lv G (i + 1)) f.u s ∧ ¬ Same (lv G (i + 1)) f.v s) : MI G s o i := by
  have il := h.il
  refine ⟨h.gi, by omega, fun j hj => h.ap j (by omega), ?_, fun j hj => h.sz j (by omega)⟩
  intro f hf ft
  have bf := h.gi.ed f hf
  rcases h.ns f hf ft with q | ⟨q1, q2⟩
  · exact Or.inl q
  · by_cases c : f.lev = ((i + 1 : Nat) : Int)
    · exfalso
      have := hd f hf ft c
      rw [show f.lev.toNat = i + 1 by omega] at q2
      rcases q2 with ⟨a1, a2⟩ | ⟨a1, a2⟩
      · exact this.1 a1
      · exact this.2 a2
    · exact Or.inr ⟨by omega, q2⟩

/-- None was found at level 0: the component has fallen in two. -/
theorem MI.last (h : MI G s o 0) (hd : ∀ f, f ∈ G.edges → f.tree = false → f.lev = 0 → ¬ Same (lv G 0) f.u s ∧ ¬ Same (lv G 0) f.v s) : NS G := by
  intro f hf ft
  have bf := h.gi.ed f hf
  rcases h.ns f hf ft with q | ⟨q1, q2⟩
  · exact q
  · exfalso
    have c : f.lev = 0 := by omega
    have := hd f hf ft c
    rw [show f.lev.toNat = 0 by omega] at q2
    rcases q2 with ⟨a1, a2⟩ | ⟨a1, a2⟩
    · exact this.1 a1
    · exact this.2 a2
end

end Go.Proofs.YtckallochdegiaaGreat
namespace Go.Proofs.YtckallochdegiaaGreat
set_option linter.unusedVariables false
set_option linter.unusedSimpArgs false

/-- The edge between a and b is there. -/
def HasE (es : List Edg) (a b : Int) : Prop := (min a b, max a b) ∈ es.map key

theorem findIx_has (es : List Edg) (a b : Int) : (findIx es a b = -1 ∧ (a, b) ∉ es.map key) ∨ (∃ k : Nat, findIx es a b = k ∧ k < es.length ∧ (a, b) ∈ es.map key ∧ key (es[k]?.getD e0) = (a, b)) := by
  unfold findIx
  split
  · rename_i k hk
    obtain ⟨h1, h2, _⟩ := List.findIdx?_eq_some_iff_getElem.1 hk
    simp only [Bool.and_eq_true, beq_iff_eq] at h2
    have e : key es[k] = (a, b) := by rw [key, h2.1, h2.2]
    exact Or.inr ⟨k, rfl, h1, List.mem_map.2 ⟨es[k], List.getElem_mem h1, e⟩, by rw [get_eq h1]; exact e⟩
  · rename_i hk
    rw [List.findIdx?_eq_none_iff] at hk
    refine Or.inl ⟨rfl, fun q => ?_⟩
    obtain ⟨e, he, q⟩ := List.mem_map.1 q
    have := hk e he
    simp only [key, Prod.mk.injEq] at q
    simp [q.1, q.2] at this

/-- The index's table and the graph tell the same edges. -/
def Adj (G : Gr) (E : Nat → Nat → Bool) : Prop := ∀ u v : Nat, u < G.N → v < G.N → (E u v = true ↔ HasE G.edges u v)

theorem HasE.comm {es : List Edg} {a b : Int} (h : HasE es a b) : HasE es b a := by
  unfold HasE at *; rw [Int.min_comm, Int.max_comm]; exact h

def upd (E : Nat → Nat → Bool) (u v : Nat) (t : Bool) : Nat → Nat → Bool := fun x y => if (x = u ∧ y = v) ∨ (x = v ∧ y = u) then t else E x y

theorem mm_eq {x y u v : Nat} : ((min (x : Int) y, max (x : Int) y) : Int × Int) = (min (u : Int) v, max (u : Int) v) ↔ (x = u ∧ y = v) ∨ (x = v ∧ y = u) := by
  simp only [Prod.mk.injEq]; omega

theorem Adj.add {G G' : Gr} {E : Nat → Nat → Bool} {u v : Nat} (h : Adj G E) (hN : G'.N = G.N) (hk : G'.edges.map key = G.edges.map key ++ [(min (u : Int) v, max (u : Int) v)]) : Adj G' (upd E u v true) := by
  intro x y hx hy
  rw [hN] at hx hy
  unfold HasE upd
  rw [hk, List.mem_append, List.mem_singleton, mm_eq]
  split
  · rename_i c; simp [c]
  · rename_i c; rw [h x y hx hy]; simp [c, HasE]

/-- What the index's search finds. -/
structure CompL (n : Nat) (E : Nat → Nat → Bool) (v : Nat) (l : List Nat) : Prop where
  vin : v ∈ l
  nd : l.Nodup
  lt : ∀ x, x ∈ l → x < n
  cl : ∀ x, x ∈ l → ∀ y, y < n → E x y = true → y ∈ l
  so : ∀ S : Nat → Bool, S v = true → (∀ x y, x < n → y < n → E x y = true → S x = true → S y = true) → ∀ x, x ∈ l → S x = true

theorem CompL.rch {G : Gr} {E : Nat → Nat → Bool} {v : Nat} {l : List Nat} (h : CompL G.N E v l) (hA : Adj G E) (hI : GI G) {x : Nat} (hx : x < G.N) : x ∈ l ↔ Rch G.edges false 0 v x := by
  constructor
  · intro hl S h1 h2
    refine h.so (fun y => S y) h1 ?_ x hl
    intro a b ha hb hE hS
    obtain ⟨e, he, q⟩ := List.mem_map.1 ((hA a b ha hb).1 hE)
    have c := h2 e he rfl
    simp only [key, Prod.mk.injEq] at q
    have : (e.u = a ∧ e.v = b) ∨ (e.u = b ∧ e.v = a) := by omega
    rcases this with ⟨q1, q2⟩ | ⟨q1, q2⟩
    · rw [q1, q2] at c; rw [← c]; exact hS
    · rw [q1, q2] at c; rw [c]; exact hS
  · intro hr
    have := hr (fun z => decide (0 ≤ z ∧ z.toNat ∈ l)) (by simp [h.vin]) ?_
    · simpa using this
    · intro e he _
      have r := hI.ed e he
      obtain ⟨a, ha⟩ : ∃ a : Nat, e.u = a := ⟨e.u.toNat, by omega⟩
      obtain ⟨b, hb⟩ : ∃ b : Nat, e.v = b := ⟨e.v.toNat, by omega⟩
      have m : HasE G.edges a b := List.mem_map.2 ⟨e, he, by rw [key, ha, hb]; simp only [Prod.mk.injEq]; omega⟩
      have e1 := (hA a b (by omega) (by omega)).2 m
      have e2 := (hA b a (by omega) (by omega)).2 m.comm
      rw [ha, hb]
      have : a ∈ l ↔ b ∈ l := ⟨fun q => h.cl a q b (by omega) e1, fun q => h.cl b q a (by omega) e2⟩
      simp [this]

theorem nodup_cnt (n : Nat) : ∀ (l : List Nat), l.Nodup → (∀ x, x ∈ l → x < n) → l.length = cnt (fun x => decide (x ∈ l)) n := by
  induction n with
  | zero =>
    intro l _ h
    cases l with
    | nil => rfl
    | cons a t => exact absurd (h a (by simp)) (by omega)
  | succ n ih =>
    intro l nd h
    simp only [cnt]
    by_cases c : n ∈ l
    · have := ih (l.erase n) (nd.erase n) (fun x hx => by
        have := (nd.mem_erase_iff).1 hx
        have := h x this.2
        omega)
      rw [List.length_erase_of_mem c] at this
      have pos := List.length_pos_of_mem c
      have e : cnt (fun x => decide (x ∈ l.erase n)) n = cnt (fun x => decide (x ∈ l)) n := cnt_congr n (fun x hx => by
        have : (x ∈ l.erase n) ↔ x ∈ l := by rw [nd.mem_erase_iff]; exact ⟨fun q => q.2, fun q => ⟨by omega, q⟩⟩
        simp [this])
      simp only [c, decide_true, if_true]
      omega
    · have := ih l nd (fun x hx => by
        have q := h x hx
        by_cases e : x = n
        · subst e; exact absurd hx c
        · omega)
      simp only [c, decide_false, Bool.false_eq_true, if_false]
      omega

theorem CompL.size {G : Gr} {E : Nat → Nat → Bool} {v : Nat} {l : List Nat} (h : CompL G.N E v l) (hA : Adj G E) (hI : GI G) {r : Nat → Bool} (hr : ∀ x, x < G.N → (r x = true ↔ Rch G.edges false 0 v x)) : l.length = cnt r G.N := by
  rw [nodup_cnt G.N l h.nd h.lt]
  refine cnt_congr _ (fun x hx => ?_)
  rw [Bool.eq_iff_iff, hr x hx, ← h.rch hA hI hx]
  simp

end Go.Proofs.YtckallochdegiaaGreat
namespace Go.Proofs.YtckallochdegiaaGreat
set_option linter.unusedVariables false
set_option linter.unusedSimpArgs false
open Go.RowKit

theorem up_key {es es' : List Edg} (h : Up es es') : es'.map key = es.map key := by
  apply List.ext_getElem
  · simp [h.1]
  · intro n h1 h2
    simp only [List.length_map] at h1 h2
    simp only [List.getElem_map]
    have := (h.2 n h2).1
    rw [get_eq h2, get_eq h1] at this
    exact this

theorem fromX_rot' (t : List Itm) (x : Itm) : Rot t (fromX t x) := fromX_rot t x

/-- In the midst of the first walk round the lesser half. -/
structure PA (G0 G : Gr) (s o : Int) (i : Nat) (t0 t : List Itm) (m : Nat) : Prop where
  mi : MI G s o i
  n : G.N = G0.N
  lvi : ∀ j, j ≤ i → lv G j = lv G0 j
  tl : G.tours.length = G0.tours.length
  up : Up G0.edges G.edges
  done : ∀ j, j < m → (t[j]?.getD (0, 0)).1 < (t[j]?.getD (0, 0)).2 → ∀ e, e ∈ G.edges → key e = t[j]?.getD (0, 0) → (i : Int) + 1 ≤ e.lev

theorem riseT_len (i : Nat) (G : Gr) (x : Itm) : (riseT i G x).tours.length = G.tours.length := by
  unfold riseT
  split
  · split
    · simp [lnk, setT, setE]
    · rfl
  · rfl

theorem PA.step {G0 G : Gr} {s o : Int} {i : Nat} {t0 t : List Itm} {m : Nat} (h : PA G0 G s o i t0 t m) (hs : t0 ∈ lv G0 i) (hsz : sizeV t0 * 2 ^ (i + 1) ≤ G0.N) (hrot : Rot t0 t) (hm : m < t.length) :
    PA G0 (riseT i G (t[m]?.getD (0, 0))) s o i t0 t (m + 1) := by
  have hx : t[m]?.getD (0, 0) ∈ t0 := by rw [get_eq hm]; exact (hrot.mem _).2 (List.getElem_mem hm)
  obtain ⟨a1, a2, a3, a4, a5⟩ := h.mi.rise_step (t0 := t0) (by rw [h.lvi i (Nat.le_refl _)]; exact hs) (by rw [h.n]; exact hsz) hx
  refine ⟨a1, a4.trans h.n, fun j hj => (a2 j (by omega)).trans (h.lvi j hj), (riseT_len _ _ _).trans h.tl, h.up.trans a3, ?_⟩
  intro j hj hlt e he hke
  by_cases c : j = m
  · subst c
    obtain ⟨k, f, k1, k2, k3, k4, k5, k6, k7, _⟩ := a5 hlt
    have kl : k < (riseT i G (t[j]?.getD (0, 0))).edges.length := by rw [a3.1]; exact k1
    have q : key ((riseT i G (t[j]?.getD (0, 0))).edges[k]?.getD e0) = key e := by
      rw [(a3.2 k k1).1, k3, hke]; exact Prod.ext k4 k5
    have := nd_eq a1.gi.nd (by rw [get_eq kl]; exact List.getElem_mem kl) he q
    rw [← this]; exact k7
  · -- it was done before, and has not fallen
    obtain ⟨n, hn, rfl⟩ := List.mem_iff_getElem.1 he
    have hn' : n < G.edges.length := by rw [← a3.1]; exact hn
    have q := a3.2 n hn'
    rw [get_eq hn] at q
    have := h.done j (by omega) hlt (G.edges[n]?.getD e0) (by rw [get_eq hn']; exact List.getElem_mem hn') (by rw [← q.1]; exact hke)
    have := q.2.2
    omega


/-- No edge beside the forest of just level i is left between a and y. -/
def Done (G : Gr) (i : Nat) (a y : Int) : Prop := ∀ e, e ∈ G.edges → e.tree = false → e.lev = i → ¬ key e = (min a y, max a y)

/-- In the midst of the second walk round the lesser half. -/
structure PB (G0 G : Gr) (s o : Int) (i : Nat) (t0 t : List Itm) (m y : Nat) : Prop where
  mi : MI G s o i
  n : G.N = G0.N
  lvi : ∀ j, j ≤ i → lv G j = lv G0 j
  tl : G.tours.length = G0.tours.length
  up : G.edges.map key = G0.edges.map key
  au : ∀ z, z ∈ t0 → Same (lv G (i + 1)) s z.1
  dn : ∀ j, j < m → (t[j]?.getD (0, 0)).2 < 0 → ∀ y' : Nat, y' < G0.N → Done G i (t[j]?.getD (0, 0)).1 y'
  dm : ∀ y' : Nat, y' < y → Done G i (t[m]?.getD (0, 0)).1 y'

theorem lesser_log {G : Gr} (h1 : 1 ≤ G.N) {t0 : List Itm} {s : Int} {i : Nat} (hs : (s, -1) ∈ t0) (hsz : sizeV t0 * 2 ^ (i + 1) ≤ G.N) : i + 1 ≤ Nat.log2 G.N := by
  have : 1 ≤ sizeV t0 := by
    have := nodup_len (l := [(s, -1)]) (m := t0.filter fun x => decide (x.2 < 0)) (by simp) (fun x hx => by
      simp only [List.mem_singleton] at hx; subst hx; simp [List.mem_filter, hs])
    simpa [sizeV] using this
  have h2 : 2 ^ (i + 1) ≤ G.N := Nat.le_trans (Nat.le_mul_of_pos_left _ (by omega)) hsz
  exact (Nat.le_log2 (by omega)).2 h2

section
variable {G0 G : Gr} {s o : Int} {i : Nat} {t0 t : List Itm} {m y : Nat}

theorem PA.begin_ (h : PA G0 G s o i t0 t t.length) (hs : t0 ∈ lv G0 i) (hsv : (s, -1) ∈ t0) (hsz : sizeV t0 * 2 ^ (i + 1) ≤ G0.N) (hrot : Rot t0 t) : PB G0 G s o i t0 t 0 0 := by
  have hi := lesser_log (G := G) (i := i) h.mi.gi.n1 hsv (by rw [h.n]; exact hsz)
  refine ⟨h.mi, h.n, h.lvi, h.tl, up_key h.up, ?_, fun j hj => by omega, fun y hy => by omega⟩
  refine h.mi.all_up (by rw [h.lvi i (Nat.le_refl _)]; exact hs) hi hsv ?_
  intro x hx hlt e he hk
  obtain ⟨j, hj, hje⟩ := List.mem_iff_getElem.1 ((hrot.mem x).1 hx)
  have e1 : t[j]?.getD (0, 0) = x := by rw [get_eq hj]; exact hje
  exact h.done j hj (by rw [e1]; exact hlt) e he (by rw [e1]; exact hk)

theorem PB.skip (h : PB G0 G s o i t0 t m y) (hd : Done G i (t[m]?.getD (0, 0)).1 y) : PB G0 G s o i t0 t m (y + 1) :=
  ⟨h.mi, h.n, h.lvi, h.tl, h.up, h.au, h.dn, fun y' hy => by
    by_cases c : y' = y
    · subst c; exact hd
    · exact h.dm y' (by omega)⟩

theorem PB.next (h : PB G0 G s o i t0 t m y) (hy : (t[m]?.getD (0, 0)).2 < 0 → G0.N ≤ y) : PB G0 G s o i t0 t (m + 1) 0 :=
  ⟨h.mi, h.n, h.lvi, h.tl, h.up, h.au, fun j hj h2 y' hy' => by
    by_cases c : j = m
    · subst c; exact h.dm y' (by have := hy h2; omega)
    · exact h.dn j (by omega) h2 y' hy', fun y' hy' => by omega⟩

theorem done_raise {k : Nat} {e : Edg} (hl : e.lev = i) {a y' : Int} (h : Done G i a y') : Done (setE G k { e with lev := e.lev + 1 }) i a y' := by
  intro f hf ft fl
  rcases mem_set hf with rfl | ⟨j, hj, _, rfl⟩
  · exfalso
    have : e.lev + 1 = (i : Int) := fl
    omega
  · exact h _ (by rw [get_eq hj]; exact List.getElem_mem hj) ft fl

theorem PB.raise (h : PB G0 G s o i t0 t m y) (hs : t0 ∈ lv G0 i) (hsv : (s, -1) ∈ t0) (hsz : sizeV t0 * 2 ^ (i + 1) ≤ G0.N) {k : Nat} {e : Edg} (hk : k < G.edges.length) (he : G.edges[k]?.getD e0 = e) (ht : e.tree = false) (hl : e.lev = i)
    (hkey : key e = (min (t[m]?.getD (0, 0)).1 y, max (t[m]?.getD (0, 0)).1 y)) (hu : (e.u, -1) ∈ t0) (hv : (e.v, -1) ∈ t0) : PB G0 (setE G k { e with lev := e.lev + 1 }) s o i t0 t m (y + 1) := by
  have hi := lesser_log (G := G) (i := i) h.mi.gi.n1 hsv (by rw [h.n]; exact hsz)
  have L1 := h.mi.gi.li (i + 1) hi
  have sm : Same (lv G (i + 1)) e.u e.v := L1.same_trans (h.au _ hu).symm (h.au _ hv)
  refine ⟨h.mi.raise_step hk he ht hl hi sm, h.n, h.lvi, h.tl, ?_, h.au, fun j hj h2 y' hy' => done_raise hl (h.dn j hj h2 y' hy'), fun y' hy' => ?_⟩
  · show (G.edges.set k _).map key = _
    rw [key_set hk (by rw [he]; rfl)]; exact h.up
  · by_cases c : y' = y
    · subst c
      intro f hf ft fl q
      rcases mem_set hf with rfl | ⟨j, hj, hjk, rfl⟩
      · have : e.lev + 1 = (i : Int) := fl
        omega
      · have hem : e ∈ G.edges := by rw [← he, get_eq hk]; exact List.getElem_mem hk
        have : G.edges[j]?.getD e0 = e := nd_eq h.mi.gi.nd (by rw [get_eq hj]; exact List.getElem_mem hj) hem (by rw [q, hkey])
        have nd := h.mi.gi.nd
        rw [List.Nodup, List.pairwise_map, List.pairwise_iff_getElem] at nd
        rw [get_eq hj] at this
        have he2 := he
        rw [get_eq hk] at he2
        by_cases d : j < k
        · exact nd j k hj hk d (by rw [this, he2])
        · exact nd k j hk hj (by omega) (by rw [this, he2])
    · exact done_raise hl (h.dm y' (by omega))

/-- Nothing to do at a pair. -/
theorem done_no {G : Gr} {i : Nat} {a y : Int} (h : findIx G.edges (min a y) (max a y) = -1) : Done G i a y := fun e he _ _ q => find_no h e he ⟨congrArg Prod.fst q, congrArg Prod.snd q⟩
theorem done_one {G : Gr} (hI : GI G) {i k : Nat} {a y : Int} (h : findIx G.edges (min a y) (max a y) = k) (hd : (G.edges[k]?.getD e0).tree = true ∨ (G.edges[k]?.getD e0).lev ≠ i) : Done G i a y := by
  intro e he ht hl q
  obtain ⟨k1, k2, k3⟩ := find_ge h
  have : e = G.edges[k]?.getD e0 := nd_eq hI.nd he (by rw [get_eq k1]; exact List.getElem_mem k1) (by rw [q]; exact (Prod.ext k2 k3).symm)
  subst this
  rcases hd with d | d
  · rw [d] at ht; simp at ht
  · exact d hl

theorem PB.end_ (h : PB G0 G s o i t0 t t.length 0) (hs : t0 ∈ lv G0 i) (hsv : (s, -1) ∈ t0) (hrot : Rot t0 t) :
    ∀ e, e ∈ G.edges → e.tree = false → e.lev = i → ¬ Same (lv G i) e.u s ∧ ¬ Same (lv G i) e.v s := by
  intro e he ht hl
  have b := h.mi.gi.ed e he
  have L := h.mi.gi.li i h.mi.il
  have hs' : t0 ∈ lv G i := by rw [h.lvi i (Nat.le_refl _)]; exact hs
  have key1 : ∀ a c : Int, Same (lv G i) a s → 0 ≤ c → c < G.N → Done G i a c := by
    rintro a c ⟨t1, p1, p2, p3⟩ c0 c1
    have := L.uniq p1 hs' p3 hsv rfl
    rw [this] at p2
    obtain ⟨j, hj, hje⟩ := List.mem_iff_getElem.1 ((hrot.mem _).1 p2)
    have e1 : t[j]?.getD (0, 0) = (a, -1) := by rw [get_eq hj]; exact hje
    have := h.dn j hj (by rw [e1]; show (-1 : Int) < 0; omega) c.toNat (by rw [← h.n]; omega)
    rw [e1, Int.toNat_of_nonneg c0] at this
    exact this
  constructor
  · intro q
    refine key1 e.u e.v q (by omega) (by omega) e he ht hl ?_
    rw [Int.min_eq_left (by omega), Int.max_eq_right (by omega)]; rfl
  · intro q
    refine key1 e.v e.u q (by omega) (by omega) e he ht hl ?_
    rw [Int.min_eq_right (by omega), Int.max_eq_left (by omega)]; rfl
end

/-- What a search of a level ends with. -/
def SEnd (G0 : Gr) (s o : Int) (i : Nat) (f : Bool) (G : Gr) : Prop :=
  G.N = G0.N ∧ G.tours.length = G0.tours.length ∧ G.edges.map key = G0.edges.map key ∧
  (f = true → GI G ∧ NS G) ∧ (f = false → MI G s o i ∧ ∀ e, e ∈ G.edges → e.tree = false → e.lev = i → ¬ Same (lv G i) e.u s ∧ ¬ Same (lv G i) e.v s)


/-- One item of the tour: its edge rises, if it is of just this level; counted. -/
def riseP (i : Nat) (q : Gr × Int) (x : Itm) : Gr × Int :=
  if x.1 < x.2 then (if (q.1.edges[(findIx q.1.edges x.1 x.2).toNat]?.getD e0).lev = i then (riseT i q.1 x, wrap64 (q.2 + 1)) else q) else q

/-- One pair of a vertex and another end: go on (none), or found (some). -/
def seek1 (i : Nat) (s x : Int) (q : Gr × Int) (y : Nat) : (Gr × Int) ⊕ (Gr × Int) :=
  if findIx q.1.edges (min x y) (max x y) < 0 then .inl q
  else if (q.1.edges[(findIx q.1.edges (min x y) (max x y)).toNat]?.getD e0).tree = true ∨ (q.1.edges[(findIx q.1.edges (min x y) (max x y)).toNat]?.getD e0).lev ≠ i then .inl q
  else if tourIx (lv q.1 i) y ≠ tourIx (lv q.1 i) s then
    .inr (lnks (setE q.1 (findIx q.1.edges (min x y) (max x y)).toNat ⟨(q.1.edges[(findIx q.1.edges (min x y) (max x y)).toNat]?.getD e0).u, (q.1.edges[(findIx q.1.edges (min x y) (max x y)).toNat]?.getD e0).v, i, true⟩) x y (i + 1), q.2)
  else .inl (setE q.1 (findIx q.1.edges (min x y) (max x y)).toNat { q.1.edges[(findIx q.1.edges (min x y) (max x y)).toNat]?.getD e0 with lev := (q.1.edges[(findIx q.1.edges (min x y) (max x y)).toNat]?.getD e0).lev + 1 }, wrap64 (q.2 + 1))

/-- The other ends below n. -/
def seekN (i : Nat) (s x : Int) (q : Gr × Int) : Nat → (Gr × Int) ⊕ (Gr × Int)
  | 0 => .inl q
  | y + 1 => match seekN i s x q y with
    | .inl r => seek1 i s x r y
    | .inr r => .inr r

/-- The first m items of the tour. -/
def seekT (i : Nat) (s : Int) (n : Nat) (t : List Itm) (q : Gr × Int) : Nat → (Gr × Int) ⊕ (Gr × Int)
  | 0 => .inl q
  | m + 1 => match seekT i s n t q m with
    | .inl r => if (t[m]?.getD (0, 0)).2 < 0 then seekN i s (t[m]?.getD (0, 0)).1 r n else .inl r
    | .inr r => .inr r

/-- A search of a level, as the document says it. -/
def searchF (i : Nat) (s : Int) (n : Nat) (t : List Itm) (q : Gr × Int) : Bool × Gr × Int :=
  match seekT i s n t (t.foldl (riseP i) q) t.length with
  | .inl r => (false, r.1, r.2)
  | .inr r => (true, r.1, r.2)

theorem seekN_stay {i : Nat} {s x : Int} {q r : Gr × Int} {y : Nat} (h : seekN i s x q y = .inr r) : ∀ k, seekN i s x q (y + k) = .inr r := by
  intro k
  induction k with
  | zero => exact h
  | succ k ih => show (match seekN i s x q (y + k) with | .inl r => seek1 i s x r (y + k) | .inr r => .inr r) = _; rw [ih]
theorem seekT_stay {i : Nat} {s : Int} {n m : Nat} {t : List Itm} {q r : Gr × Int} (h : seekT i s n t q m = .inr r) : ∀ k, seekT i s n t q (m + k) = .inr r := by
  intro k
  induction k with
  | zero => exact h
  | succ k ih => show (match seekT i s n t q (m + k) with | .inl r => (if (t[m + k]?.getD (0, 0)).2 < 0 then seekN i s (t[m + k]?.getD (0, 0)).1 r n else .inl r) | .inr r => .inr r) = _; rw [ih]

/-- What is found ends the search. -/
theorem seek_found {i : Nat} {s y1 y2 : Int} {n m y : Nat} {t : List Itm} {q q2 q3 r : Gr × Int} (h1 : seekT i s n t q m = .inl q2) (hx : (y1, y2) = t[m]?.getD (0, 0)) (h2 : y2 < 0) (h3 : seekN i s y1 q2 y = .inl q3) (h4 : seek1 i s y1 q3 y = .inr r) (hy : y < n) (hm : m < t.length) : seekT i s n t q t.length = .inr r := by
  have a : seekN i s y1 q2 (y + 1) = .inr r := by show (match seekN i s y1 q2 y with | .inl r => seek1 i s y1 r y | .inr r => .inr r) = _; rw [h3]; exact h4
  have b : seekN i s y1 q2 n = .inr r := by
    have := seekN_stay a (n - (y + 1))
    rwa [show y + 1 + (n - (y + 1)) = n by omega] at this
  have c : seekT i s n t q (m + 1) = .inr r := by
    show (match seekT i s n t q m with | .inl r => (if (t[m]?.getD (0, 0)).2 < 0 then seekN i s (t[m]?.getD (0, 0)).1 r n else .inl r) | .inr r => .inr r) = _
    rw [h1, ← hx]
    simp only [if_pos h2]
    exact b
  have := seekT_stay c (t.length - (m + 1))
  rwa [show m + 1 + (t.length - (m + 1)) = t.length by omega] at this

theorem seekT_next {i : Nat} {s y1 y2 : Int} {n m : Nat} {t : List Itm} {q q2 r : Gr × Int} (h1 : seekT i s n t q m = .inl q2) (hx : (y1, y2) = t[m]?.getD (0, 0)) (h : (if y2 < 0 then seekN i s y1 q2 n else .inl q2) = .inl r) : seekT i s n t q (m + 1) = .inl r := by
  show (match seekT i s n t q m with | .inl r => (if (t[m]?.getD (0, 0)).2 < 0 then seekN i s (t[m]?.getD (0, 0)).1 r n else .inl r) | .inr r => .inr r) = _
  rw [h1, ← hx]
  exact h

theorem take_fold {i m : Nat} {t : List Itm} {q r : Gr × Int} (hm : m < t.length) (h : (t.take m).foldl (riseP i) q = r) : (t.take (m + 1)).foldl (riseP i) q = riseP i r (t[m]?.getD (0, 0)) := by
  rw [List.take_succ_eq_append_getElem hm, List.foldl_append, h, get_eq hm]
  rfl

def ecode (e : Edg) : Nat := e.u.toNat * 48 + e.v.toNat
theorem GI.elen {G : Gr} (h : GI G) : G.edges.length ≤ 2304 := by
  have n48 := h.n48
  have nd : (G.edges.map ecode).Nodup := by
    have hn := h.nd
    rw [List.Nodup, List.pairwise_map] at hn ⊢
    refine List.Pairwise.imp_of_mem ?_ hn
    intro a b ha hb hab e
    have ka := h.ed a ha
    have kb := h.ed b hb
    unfold ecode at e
    exact hab (Prod.ext (by show a.u = b.u; omega) (by show a.v = b.v; omega))
  have := nodup_bound _ 2304 nd (fun y hy => by
    obtain ⟨e, he, rfl⟩ := List.mem_map.1 hy
    have k := h.ed e he
    unfold ecode; omega)
  simpa using this

/-- The graph behind an Insert. -/
def insG (G : Gr) (u v : Int) (apart : Bool) : Gr := if apart then lnks (setE (addE G u v) G.edges.length ⟨min u v, max u v, 0, true⟩) u v 1 else addE G u v

theorem add_get (G : Gr) (u v : Int) : (addE G u v).edges[G.edges.length]?.getD e0 = ⟨min u v, max u v, 0, false⟩ := by simp [addE]

theorem ins_ok {G : Gr} (h : GI G) (hns : NS G) {u v : Int} (hu0 : 0 ≤ u) (hu1 : u < G.N) (hv0 : 0 ≤ v) (hv1 : v < G.N) (hne : u ≠ v) (hno : findIx G.edges (min u v) (max u v) = -1) {c : Bool} (hc : c = true ↔ Rch G.edges false 0 u v) :
    GI (insG G u v (!c)) ∧ NS (insG G u v (!c)) ∧ GI (addE G u v) ∧
    (c = false → LI G.N ((addE G u v).edges.set G.edges.length ⟨min u v, max u v, 0, true⟩) 0 (lv G 0)) := by
  have ga := h.add hu0 hu1 hv0 hv1 hne (find_no hno)
  have sm := h.conn hns hu0 hu1 hv0 hv1
  cases c with
  | true =>
    refine ⟨ga, ?_, ga, by simp⟩
    intro f hf ft
    rcases List.mem_append.1 hf with k | k
    · exact hns f k ft
    · simp at k; subst k
      have s : Same (lv G 0) u v := sm.1 (hc.1 rfl)
      show Same (lv G 0) (min u v) (max u v)
      by_cases q : u ≤ v
      · rw [Int.min_eq_left q, Int.max_eq_right q]; exact s
      · rw [Int.min_eq_right (by omega), Int.max_eq_left (by omega)]; exact s.symm
  | false =>
    have hap : ¬ Same (lv G 0) u v := fun q => by have := hc.2 (sm.2 q); simp at this
    have hk : G.edges.length < (addE G u v).edges.length := by simp [addE]
    have hxy : (u = min u v ∧ v = max u v) ∨ (u = max u v ∧ v = min u v) := by omega
    obtain ⟨g1, g2, g3⟩ := ga.forest (i := 0) hk (add_get G u v) rfl (by omega) hxy (fun j hj => by rw [Nat.le_zero.1 hj]; exact hap) (by
      intro j hj a b ha hb hua hvb
      rw [Nat.le_zero.1 hj] at ha hb ⊢
      have L := h.li 0 (by omega)
      have djab : Dj a b := by
        intro x hx y hy e
        have := L.uniq ha hb hx hy e
        exact hap ⟨a, ha, hua, by rw [this]; exact hvb⟩
      have neg : ∀ (t : List Itm), t ∈ lv G 0 → ∀ x, x ∈ t → x.2 < 0 → x.2 = -1 := by
        intro t ht2 x hx hneg
        rcases (L.rng t ht2 x hx).2 with q | ⟨f, hf, _, _, q⟩
        · exact q
        · have bf := h.ed f hf; rcases q with q | q <;> omega
      have all : ∀ (t : List Itm), t ∈ lv G 0 → ∀ x, x ∈ t → (x.1, -1) ∈ (List.range G.N).map (fun n : Nat => ((n : Int), (-1 : Int))) := by
        intro t ht2 x hx
        have r := (L.rng t ht2 x hx).1
        rw [List.mem_map]
        exact ⟨x.1.toNat, by rw [List.mem_range]; omega, by rw [Int.toNat_of_nonneg r.1]⟩
      have := sizeV_two (t := (List.range G.N).map (fun n : Nat => ((n : Int), (-1 : Int)))) (L.tr a ha).nd (L.tr b hb).nd djab (all a ha) (all b hb) (neg a ha) (neg b hb)
      have l2 := sizeV_le ((List.range G.N).map (fun n : Nat => ((n : Int), (-1 : Int))))
      simp at l2
      show (sizeV a + sizeV b) * 2 ^ 0 ≤ G.N
      omega)
    have hkey : key (⟨min u v, max u v, 0, true⟩ : Edg) = key ((addE G u v).edges[G.edges.length]?.getD e0) := by rw [add_get]; rfl
    refine ⟨g1, ?_, ga, fun _ => (ga.li 0 (by omega)).mono (fun a b => tree_set hk hkey (by intro q; rw [add_get] at q; simp at q))⟩
    intro f hf ft
    have hf : f ∈ (lnks (setE (addE G u v) G.edges.length ⟨min u v, max u v, 0, true⟩) u v 1).edges := hf
    rw [lnks_edges] at hf
    show Same (lv (lnks (setE (addE G u v) G.edges.length ⟨min u v, max u v, 0, true⟩) u v 1) f.lev.toNat) f.u f.v
    rcases mem_set hf with rfl | ⟨j, hj, hjn, rfl⟩
    · simp at ft
    · have hj2 : j < G.edges.length := by simp [addE] at hj; omega
      have e1 : (addE G u v).edges[j]?.getD e0 = G.edges[j]?.getD e0 := by simp only [addE]; rw [List.getElem?_append_left hj2]
      rw [e1] at ft ⊢
      have s := hns _ (by rw [get_eq hj2]; exact List.getElem_mem hj2) ft
      by_cases c : (G.edges[j]?.getD e0).lev.toNat ≤ 0
      · exact (g2 _ c).mono _ _ s
      · have q := g3 (G.edges[j]?.getD e0).lev.toNat (by omega)
        exact (congrArg (fun z => Same z (G.edges[j]?.getD e0).u (G.edges[j]?.getD e0).v) q).mpr s

theorem find_add {G : Gr} {u v : Int} (hno : findIx G.edges (min u v) (max u v) = -1) : findIx (addE G u v).edges (min u v) (max u v) = (G.edges.length : Nat) := by
  have hk : G.edges.length < (addE G u v).edges.length := by simp [addE]
  refine findIx_some hk (by rw [add_get]) (by rw [add_get]) (fun j hj q => ?_)
  have e1 : (addE G u v).edges[j]?.getD e0 = G.edges[j]?.getD e0 := by simp only [addE]; rw [List.getElem?_append_left hj]
  rw [e1, get_eq hj] at q
  exact find_no hno _ (List.getElem_mem hj) q

def baseT (k : Nat) : List (List Itm) := (List.range k).map fun v : Nat => [((v : Int), (-1 : Int))]
theorem baseT_succ (k : Nat) : baseT (k + 1) = baseT k ++ [[((k : Int), -1)]] := by simp [baseT, List.range_succ]
theorem baseT_length (k : Nat) : (baseT k).length = k := by simp [baseT]
def newG (n : Nat) : Gr := ⟨n, [], List.replicate (Nat.log2 n + 1) (baseT n)⟩

theorem newG_lv (n i : Nat) (hi : i ≤ Nat.log2 n) : lv (newG n) i = baseT n := by
  simp only [lv, newG, List.getElem?_replicate, if_pos (show i < Nat.log2 n + 1 by omega), Option.getD_some]

theorem log2_le5 {n : Nat} (h1 : 1 ≤ n) (h : n ≤ 48) : Nat.log2 n ≤ 5 := by
  have := Nat.log2_self_le (n := n) (by omega)
  by_cases c : Nat.log2 n ≤ 5
  · exact c
  · have : 2 ^ 6 ≤ 2 ^ Nat.log2 n := Nat.pow_le_pow_right (by omega) (by omega)
    omega

theorem newG_ok {n : Nat} (h1 : 1 ≤ n) (h48 : n ≤ 48) : GI (newG n) ∧ NS (newG n) := by
  refine ⟨⟨h1, h48, by simp [newG], fun e he => by simp [newG] at he, by simp [newG], fun i hi => ?_, fun i hi e he => by simp [newG] at he⟩, fun e he => by simp [newG] at he⟩
  rw [newG_lv n i hi]
  show LI n [] i (baseT n)
  have mem : ∀ t, t ∈ baseT n → ∃ v : Nat, v < n ∧ t = [((v : Int), (-1 : Int))] := by
    intro t ht
    simp only [baseT, List.mem_map, List.mem_range] at ht
    obtain ⟨v, hv, rfl⟩ := ht
    exact ⟨v, hv, rfl⟩
  refine ⟨fun t ht => ?_, fun t ht => ?_, ?_, fun v h0 hn => ?_, fun t ht x hx => ?_, fun t ht => ?_⟩
  · obtain ⟨v, hv, rfl⟩ := mem t ht
    exact tour_one v (by omega)
  · obtain ⟨v, hv, rfl⟩ := mem t ht
    simp
  · simp only [baseT, List.pairwise_map]
    refine (List.nodup_range (n := n)).imp ?_
    intro a b hab x hx y hy e
    simp at hx hy; subst hx hy; simp at e; omega
  · refine ⟨[(v, -1)], ?_, by simp⟩
    simp only [baseT, List.mem_map, List.mem_range]
    exact ⟨v.toNat, by omega, by rw [Int.toNat_of_nonneg h0]⟩
  · obtain ⟨v, hv, rfl⟩ := mem t ht
    simp at hx; subst hx
    exact ⟨⟨by simp, by simp; omega⟩, Or.inl rfl⟩
  · obtain ⟨v, hv, rfl⟩ := mem t ht
    show 1 * 2 ^ i ≤ n
    have := Nat.log2_self_le (n := n) (by omega)
    have : 2 ^ i ≤ 2 ^ Nat.log2 n := Nat.pow_le_pow_right (by omega) hi
    have e : newG n = newG n := rfl
    omega

/-- What a Delete of the edge at place k ends with. -/
def DEnd (G : Gr) (k : Nat) (G' : Gr) : Prop := G'.N = G.N ∧ G'.tours.length = G.tours.length ∧ G'.edges.map key = (delE G k).edges.map key ∧ GI G' ∧ NS G'

/-- In the midst of the second loop. -/
structure DM (G : Gr) (k : Nat) (a b : Int) (G' : Gr) (m : Nat) : Prop where
  n : G'.N = G.N
  tl : G'.tours.length = G.tours.length
  ks : G'.edges.map key = (delE G k).edges.map key
  z : m = 0 → NS G' ∧ GI G'
  p : ∀ i, m = i + 1 → MI G' a b i

theorem lv_facts {G : Gr} {a b : Int} {i : Nat} (h : MI G a b i) (ha0 : 0 ≤ a) (ha1 : a < G.N) : ∃ k t, k < (lv G i).length ∧ tourIx (lv G i) a = k ∧ (lv G i)[k]?.getD [] = t ∧ t ∈ lv G i ∧ (a, -1) ∈ t ∧ t.length ≤ 2352 := by
  have L := h.gi.li i h.il
  obtain ⟨k, t, h1, h2, h3, h4, h5⟩ := L.ix_of (v := a) ha0 ha1
  exact ⟨k, t, h1, h2, h3, h4, h5, L.len h.gi.n48 h.gi.rngE h4⟩

theorem lesser_sz {G : Gr} {a b : Int} {i : Nat} (h : MI G a b i) {ta tb : List Itm} (ha : ta ∈ lv G i) (hb : tb ∈ lv G i) (hat : (a, -1) ∈ ta) (hbt : (b, -1) ∈ tb) (hle : sizeV ta ≤ sizeV tb) : sizeV ta * 2 ^ (i + 1) ≤ G.N := by
  have := h.sz i (Nat.le_refl _) ta tb ha hb hat hbt
  have e : 2 ^ (i + 1) = 2 * 2 ^ i := by rw [Nat.pow_succ, Nat.mul_comm]
  rw [e, ← Nat.mul_assoc]
  exact Nat.le_trans (Nat.mul_le_mul_right _ (by omega)) this

theorem i6_of {G : Gr} {a b : Int} {i : Nat} (h : MI G a b i) : i < G.tours.length ∧ i ≤ 6 := by
  refine ⟨by rw [h.gi.tl]; have := h.il; omega, ?_⟩
  have il := h.il
  have n48 := h.gi.n48
  have : Nat.log2 G.N ≤ 5 := by
    have := Nat.log2_self_le (n := G.N) (by have := h.gi.n1; omega)
    by_cases c : Nat.log2 G.N ≤ 5
    · exact c
    · have : 2 ^ 6 ≤ 2 ^ Nat.log2 G.N := Nat.pow_le_pow_right (by omega) (by omega)
      omega
  omega

/-- A search that found nothing: on to the level below. -/
theorem DM.down {G : Gr} {k : Nat} {a b s o : Int} {G1 G2 : Gr} {i : Nat} (h : DM G k a b G1 (i + 1)) (hso : (s = a ∧ o = b) ∨ (s = b ∧ o = a)) (e : SEnd G1 s o i false G2) : DM G k a b G2 i := by
  obtain ⟨e1, e2, e3, _, e5⟩ := e
  obtain ⟨m1, m2⟩ := e5 rfl
  refine ⟨e1.trans h.n, e2.trans h.tl, e3.trans h.ks, fun q => ?_, fun j q => ?_⟩
  · subst q; exact ⟨m1.last m2, m1.gi⟩
  · subst q
    have d := m1.down m2
    rcases hso with ⟨rfl, rfl⟩ | ⟨rfl, rfl⟩
    · exact d
    · exact d.swap

theorem DM.found {G : Gr} {k : Nat} {a b s o : Int} {G1 G2 : Gr} {i : Nat} (h : DM G k a b G1 (i + 1)) (e : SEnd G1 s o i true G2) : DEnd G k G2 := by
  obtain ⟨e1, e2, e3, e4, _⟩ := e
  obtain ⟨m1, m2⟩ := e4 rfl
  exact ⟨e1.trans h.n, e2.trans h.tl, e3.trans h.ks, m1, m2⟩

theorem DM.zero {G : Gr} {k : Nat} {a b : Int} {G1 : Gr} (h : DM G k a b G1 0) : DEnd G k G1 := ⟨h.n, h.tl, h.ks, (h.z rfl).2, (h.z rfl).1⟩

theorem NS.drop {G : Gr} (h : NS G) (k : Nat) : NS (delE G k) := fun f hf ft => h f (mem_erase hf) ft

/-- The round of a vertex at a level. -/
def lessT (G : Gr) (i : Nat) (x : Int) : List Itm := (lv G i)[(tourIx (lv G i) x).toNat]?.getD []

/-- One level's search, of the lesser half. -/
def stepF (a b : Int) (i : Nat) (q : Gr × Int) : Bool × Gr × Int :=
  if sizeV (lessT q.1 i b) < sizeV (lessT q.1 i a) then searchF i b q.1.N (fromX (lessT q.1 i b) (leastV (lessT q.1 i b) b, -1)) q
  else searchF i a q.1.N (fromX (lessT q.1 i a) (leastV (lessT q.1 i a) a, -1)) q

/-- The levels below m, from above. -/
def downF (a b : Int) : Nat → Gr × Int → Gr × Int
  | 0, q => q
  | i + 1, q => match stepF a b i q with
    | (true, r) => r
    | (false, r) => downF a b i r

/-- Delete, as the document says it: a is the lesser end, k the edge's place. -/
def delF (G : Gr) (pr a b : Int) (k : Nat) : Gr × Int :=
  if (G.edges[k]?.getD e0).tree = false then (delE G k, pr)
  else downF a b ((G.edges[k]?.getD e0).lev.toNat + 1) (cuts (delE G k) a b ((G.edges[k]?.getD e0).lev.toNat + 1), pr)

theorem downF_false {a b : Int} {i : Nat} {q r R : Gr × Int} (h : downF a b (i + 1) q = R) (hs : stepF a b i q = (false, r)) : downF a b i r = R := by
  simp only [downF, hs] at h; exact h
theorem downF_true {a b : Int} {i : Nat} {q r R : Gr × Int} (h : downF a b (i + 1) q = R) (hs : stepF a b i q = (true, r)) : r = R := by
  simp only [downF, hs] at h; exact h
theorem lessT_eq {G : Gr} {i k : Nat} {x : Int} {t : List Itm} (h1 : tourIx (lv G i) x = k) (h2 : (lv G i)[k]?.getD [] = t) : lessT G i x = t := by
  rw [lessT, h1, Int.toNat_natCast]; exact h2


end Go.Proofs.YtckallochdegiaaGreat
