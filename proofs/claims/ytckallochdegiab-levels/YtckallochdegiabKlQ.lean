import Derived.Test.YtckallochdegiabKlB
import Derived.Test.YtckallochdegiabKcD
import Derived.Test.YtckallochdegiabKcC
import Derived.Test.YtckallochdegiabSrcQ
import Derived.Test.YtckallochdegiabSvA
namespace Go.Proofs.Ytckallochdegiab
set_option linter.unusedVariables false
set_option linter.unusedSimpArgs false
open Go.RowKit

section
variable {l : List (Nat × Nat × Nat)} {i : Nat}
theorem fE_iff : ∀ m, ∀ a b, fE l i m a b = true ↔ ∃ j, j < m ∧ inF i (l[j]?.getD (0, 0, 0)) = true ∧ ((a = (l[j]?.getD (0, 0, 0)).1 ∧ b = (l[j]?.getD (0, 0, 0)).2.1) ∨ (a = (l[j]?.getD (0, 0, 0)).2.1 ∧ b = (l[j]?.getD (0, 0, 0)).1)) := by
  intro m
  induction m with
  | zero => intro a b; simp [fE]
  | succ m ih =>
    intro a b
    rw [fE]
    by_cases c : inF i (l[m]?.getD (0, 0, 0)) = true
    · rw [if_pos c, upd]
      by_cases d : (a = (l[m]?.getD (0, 0, 0)).1 ∧ b = (l[m]?.getD (0, 0, 0)).2.1) ∨ (a = (l[m]?.getD (0, 0, 0)).2.1 ∧ b = (l[m]?.getD (0, 0, 0)).1)
      · rw [if_pos d]
        exact ⟨fun _ => ⟨m, by omega, c, d⟩, fun _ => rfl⟩
      · rw [if_neg d, ih a b]
        constructor
        · rintro ⟨j, h1, h2, h3⟩; exact ⟨j, by omega, h2, h3⟩
        · rintro ⟨j, h1, h2, h3⟩
          by_cases e : j = m
          · subst e; exact absurd h3 d
          · exact ⟨j, by omega, h2, h3⟩
    · rw [if_neg c, ih a b]
      constructor
      · rintro ⟨j, h1, h2, h3⟩; exact ⟨j, by omega, h2, h3⟩
      · rintro ⟨j, h1, h2, h3⟩
        by_cases e : j = m
        · subst e; exact absurd h2 c
        · exact ⟨j, by omega, h2, h3⟩
end

/-- The lines of a state. -/
def lnG (G : Gr) : List (Nat × Nat × Nat) := (sortE G.edges).map lineE

section
variable {G : Gr} {E : Nat → Nat → Bool} {i : Nat}
theorem lnG_length (hI : GI G) : (lnG G).length = G.edges.length := by rw [lnG, List.length_map, sortE_length hI.nd]
/-- Each line is an edge's. -/
theorem lnG_at (hI : GI G) {m : Nat} (hm : m < (lnG G).length) : ∃ e, e ∈ G.edges ∧ (lnG G)[m]?.getD (0, 0, 0) = lineE e := by
  have hm' : m < (sortE G.edges).length := by rw [lnG, List.length_map] at hm; exact hm
  refine ⟨(sortE G.edges)[m], (sortE_mem _ _).1 (List.getElem_mem hm'), ?_⟩
  rw [lnG, List.getElem?_map, List.getElem?_eq_getElem hm']; rfl
theorem lnG_of {e : Edg} (he : e ∈ G.edges) : ∃ m, m < (lnG G).length ∧ (lnG G)[m]?.getD (0, 0, 0) = lineE e := by
  obtain ⟨m, hm, h⟩ := List.mem_iff_getElem.1 ((sortE_mem G.edges e).2 he)
  refine ⟨m, by rw [lnG, List.length_map]; exact hm, ?_⟩
  rw [lnG, List.getElem?_map, List.getElem?_eq_getElem hm, h]; rfl
theorem line_inF {e : Edg} (h0 : 0 ≤ e.lev) : inF i (lineE e) = act true i e := by
  have a : (2 * e.lev.toNat + if e.tree then 1 else 0) / 2 = e.lev.toNat := by split <;> omega
  have b : (2 * e.lev.toNat + if e.tree then 1 else 0) % 2 = if e.tree then 1 else 0 := by split <;> omega
  show ((2 * e.lev.toNat + if e.tree then 1 else 0) % 2 == 1 && decide (i ≤ (2 * e.lev.toNat + if e.tree then 1 else 0) / 2)) = _
  rw [a, b]
  unfold act
  cases ht : e.tree <;> simp
  omega

/-- The forest of a level, by its matrix. -/
theorem re_forest (hI : GI G) {v y : Nat} : RE G.N (fE (lnG G) i (lnG G).length) v y ↔ Rch G.edges true i v y := by
  constructor
  · intro q S h1 h2
    have := q (fun x => S (x : Int)) h1 (fun x z hx hz he hS => ?_)
    · exact this
    · obtain ⟨j, j1, j2, j3⟩ := (fE_iff _ x z).1 he
      obtain ⟨e, e1, e2⟩ := lnG_at hI j1
      have b := hI.ed e e1
      rw [e2, line_inF b.2.2.2.1] at j2
      rw [e2] at j3
      have c := h2 e e1 j2
      rcases j3 with ⟨a, d⟩ | ⟨a, d⟩
      · have a' : e.u = x := by rw [a]; show _ = ((e.u.toNat : Nat) : Int); omega
        have d' : e.v = z := by rw [d]; show _ = ((e.v.toNat : Nat) : Int); omega
        rw [a', d'] at c; show S z = true; rw [← c]; exact hS
      · have a' : e.v = x := by rw [a]; show _ = ((e.v.toNat : Nat) : Int); omega
        have d' : e.u = z := by rw [d]; show _ = ((e.u.toNat : Nat) : Int); omega
        rw [a', d'] at c; show S z = true; rw [c]; exact hS
  · intro q S h1 h2
    have := q (fun x => S x.toNat) (by simpa using h1) (fun e he ha => ?_)
    · simpa using this
    · have b := hI.ed e he
      obtain ⟨m, m1, m2⟩ := lnG_of he
      have k : fE (lnG G) i (lnG G).length e.u.toNat e.v.toNat = true := (fE_iff _ _ _).2 ⟨m, m1, by rw [m2, line_inF b.2.2.2.1]; exact ha, Or.inl (by rw [m2]; exact ⟨rfl, rfl⟩)⟩
      have k2 : fE (lnG G) i (lnG G).length e.v.toNat e.u.toNat = true := (fE_iff _ _ _).2 ⟨m, m1, by rw [m2, line_inF b.2.2.2.1]; exact ha, Or.inr (by rw [m2]; exact ⟨rfl, rfl⟩)⟩
      have a1 := h2 _ _ (by omega) (by omega) k
      have a2 := h2 _ _ (by omega) (by omega) k2
      show S e.u.toNat = S e.v.toNat
      cases q1 : S e.u.toNat <;> cases q2 : S e.v.toNat <;> simp_all

/-- How many of the first m lines are of the forest. -/
def trs (l : List (Nat × Nat × Nat)) : Nat → Nat
  | 0 => 0
  | m + 1 => trs l m + (l[m]?.getD (0, 0, 0)).2.2 % 2
theorem trs_le (l : List (Nat × Nat × Nat)) (m : Nat) : trs l m ≤ m := by
  induction m with
  | zero => simp [trs]
  | succ m ih => rw [trs]; omega
theorem trs_map (es : List Edg) : ∀ m, m ≤ es.length → trs (es.map lineE) m = ((es.take m).filter fun e => e.tree).length := by
  intro m
  induction m with
  | zero => intro _; simp [trs]
  | succ m ih =>
    intro hm
    have hm' : m < es.length := by omega
    rw [trs, ih (by omega), List.take_succ_eq_append_getElem hm', List.filter_append, List.length_append, List.getElem?_map, List.getElem?_eq_getElem hm']
    congr 1
    show (2 * es[m].lev.toNat + if es[m].tree then 1 else 0) % 2 = _
    cases h : es[m].tree <;> simp [h]
theorem insE_filter (out : List Edg) (e : Edg) : ((insE out e).filter fun e => e.tree).length = (out.filter fun e => e.tree).length + if e.tree then 1 else 0 := by
  have h : (out.filter fun e => e.tree).length = ((out.takeWhile fun a => ltE a e).filter fun e => e.tree).length + ((out.dropWhile fun a => ltE a e).filter fun e => e.tree).length := by
    conv => lhs; rw [← List.takeWhile_append_dropWhile (p := fun a => ltE a e) (l := out)]
    rw [List.filter_append, List.length_append]
  rw [insE, List.filter_append, List.filter_append, List.length_append, List.length_append, h]
  cases ht : e.tree <;> simp [ht] <;> omega
theorem sortE_filter (es : List Edg) : ((sortE es).filter fun e => e.tree).length = (es.filter fun e => e.tree).length := by
  have go : ∀ (es out : List Edg), ((es.foldl insE out).filter fun e => e.tree).length = (es.filter fun e => e.tree).length + (out.filter fun e => e.tree).length := by
    intro es
    induction es with
    | nil => intro out; simp
    | cons e es ih =>
      intro out
      rw [List.foldl_cons, ih, insE_filter]
      cases ht : e.tree <;> simp [ht] <;> omega
  have := go es []
  simpa [sortE] using this
theorem trs_forest (hI : GI G) : trs (lnG G) (lnG G).length + (lv G 0).length = G.N := by
  have h := trs_map (sortE G.edges) (sortE G.edges).length (Nat.le_refl _)
  rw [List.take_length, sortE_filter] at h
  have e : (lnG G).length = (sortE G.edges).length := by rw [lnG, List.length_map]
  rw [e]
  show trs ((sortE G.edges).map lineE) _ + _ = _
  rw [h]
  exact forest_count hI
end

end Go.Proofs.Ytckallochdegiab
namespace Go.Proofs.Ytckallochdegiab
set_option linter.unusedVariables false
set_option linter.unusedSimpArgs false
open Go.RowKit

/-- What is asked of the lines one by one. -/
structure LvP (n : Nat) (E : Nat → Nat → Bool) (l : List (Nat × Nat × Nat)) : Prop where
  len : sm E n n / 2 = l.length
  le : l.length ≤ 2400
  ab : ∀ m, m < l.length → (l[m]?.getD (0, 0, 0)).1 < (l[m]?.getD (0, 0, 0)).2.1 ∧ (l[m]?.getD (0, 0, 0)).2.1 < n ∧ E (l[m]?.getD (0, 0, 0)).1 (l[m]?.getD (0, 0, 0)).2.1 = true ∧ (l[m]?.getD (0, 0, 0)).2.2 / 2 ≤ Nat.log2 n ∧ (l[m]?.getD (0, 0, 0)).2.2 < 16
  one : ∀ j m, j < l.length → m < l.length → (l[j]?.getD (0, 0, 0)).1 = (l[m]?.getD (0, 0, 0)).1 → (l[j]?.getD (0, 0, 0)).2.1 = (l[m]?.getD (0, 0, 0)).2.1 → (l[j]?.getD (0, 0, 0)).2.2 = (l[m]?.getD (0, 0, 0)).2.2

/-- No line's level is below the one that was last seen. -/
def SeenL (l : List (Nat × Nat × Nat)) (T : Nat → Nat → Int) : Prop := ∀ m, m < l.length → T (l[m]?.getD (0, 0, 0)).1 (l[m]?.getD (0, 0, 0)).2.1 ≤ (((l[m]?.getD (0, 0, 0)).2.2 / 2 : Nat) : Int)

section
variable {G : Gr} {E : Nat → Nat → Bool} {T : Nat → Nat → Int}
theorem line_half (e : Edg) : (lineE e).2.2 / 2 = e.lev.toNat := by
  show (2 * e.lev.toNat + if e.tree then 1 else 0) / 2 = _
  split <;> omega
theorem lvP_of (hI : GI G) (h : Adj G E) : LvP G.N E (lnG G) := by
  have n48 := hI.n48
  have l5 := log2_le5 hI.n1 hI.n48
  have hl := lnG_length hI
  refine ⟨by rw [sm_edges hI h, hl, Nat.mul_div_cancel_left _ (by omega)], ?_, fun m hm => ?_, fun j m hj hm h1 h2 => ?_⟩
  · obtain ⟨_, _, _, q⟩ := lnS_bytes hI
    exact q.le
  · obtain ⟨e, e1, e2⟩ := lnG_at hI hm
    have b := hI.ed e e1
    rw [e2, line_half]
    refine ⟨?_, ?_, ?_, by omega, ?_⟩
    · show e.u.toNat < e.v.toNat
      omega
    · show e.v.toNat < G.N
      omega
    · refine (h _ _ ?_ ?_).2 ?_
      · show e.u.toNat < G.N
        omega
      · show e.v.toNat < G.N
        omega
      · unfold HasE
        show (min ((e.u.toNat : Nat) : Int) (e.v.toNat : Nat), max ((e.u.toNat : Nat) : Int) (e.v.toNat : Nat)) ∈ _
        rw [Int.toNat_of_nonneg (by omega), Int.toNat_of_nonneg (by omega), Int.min_eq_left (by omega), Int.max_eq_right (by omega)]
        exact List.mem_map.2 ⟨e, e1, rfl⟩
    · show 2 * e.lev.toNat + (if e.tree then 1 else 0) < 16
      split <;> omega
  · obtain ⟨e, e1, e2⟩ := lnG_at hI hj
    obtain ⟨f, f1, f2⟩ := lnG_at hI hm
    rw [e2, f2] at h1 h2 ⊢
    have b := hI.ed e e1
    have c := hI.ed f f1
    have k1 : e.u.toNat = f.u.toNat := h1
    have k2 : e.v.toNat = f.v.toNat := h2
    obtain ⟨a, a1, a2, a3⟩ := find_mem hI.nd e1
    obtain ⟨d, d1, d2, d3⟩ := find_mem hI.nd f1
    rw [show e.u = f.u by omega, show e.v = f.v by omega, d2] at a2
    have : e = f := by rw [← a3, ← d3, show a = d by omega]
    rw [this]
theorem seenL_of (hI : GI G) (h : Seen G T) : SeenL (lnG G) T := fun m hm => by
  obtain ⟨e, e1, e2⟩ := lnG_at hI hm
  have b := hI.ed e e1
  have := h e e1
  rw [e2, line_half]
  show T e.u.toNat e.v.toNat ≤ _
  omega
theorem SeenL.back (hI : GI G) (h : SeenL (lnG G) T) : Seen G T := fun e he => by
  obtain ⟨m, m1, m2⟩ := lnG_of he
  have b := hI.ed e he
  have := h m m1
  rw [m2, line_half] at this
  have q : T e.u.toNat e.v.toNat ≤ ((e.lev.toNat : Nat) : Int) := this
  omega
end
theorem SeenL.set {n m : Nat} {E : Nat → Nat → Bool} {l : List (Nat × Nat × Nat)} {T : Nat → Nat → Int} (h : SeenL l T) (p : LvP n E l) (hm : m < l.length) :
    SeenL l (fun x y => if x = (l[m]?.getD (0, 0, 0)).1 ∧ y = (l[m]?.getD (0, 0, 0)).2.1 then (((l[m]?.getD (0, 0, 0)).2.2 / 2 : Nat) : Int) else T x y) := fun j hj => by
  show (if _ then _ else _) ≤ _
  by_cases c : (l[j]?.getD (0, 0, 0)).1 = (l[m]?.getD (0, 0, 0)).1 ∧ (l[j]?.getD (0, 0, 0)).2.1 = (l[m]?.getD (0, 0, 0)).2.1
  · rw [if_pos c, p.one j m hj hm c.1 c.2]; exact Int.le_refl _
  · rw [if_neg c]; exact h j hj

/-- Of the forest of a level: it is small enough; ends of the edges beside it are in one tree. -/
theorem level_ok {G : Gr} (hI : GI G) (hns : NS G) {i v : Nat} (hi : i ≤ Nat.log2 G.N) (hv : v < G.N) {r : Nat → Bool} (hr : ∀ y, y < G.N → (r y = true ↔ RE G.N (fE (lnG G) i (lnG G).length) v y)) :
    cnt r G.N ≤ G.N / 2 ^ i ∧ ∀ m, m < (lnG G).length → ((lnG G)[m]?.getD (0, 0, 0)).2.2 = 2 * i → ((lnG G)[m]?.getD (0, 0, 0)).1 = v → r ((lnG G)[m]?.getD (0, 0, 0)).2.1 = true := by
  have hr2 : ∀ y, y < G.N → (r y = true ↔ Rch G.edges true i v y) := fun y hy => by rw [hr y hy, re_forest hI]
  refine ⟨size_i hI hi hv hr2, fun m hm h1 h2 => ?_⟩
  obtain ⟨e, e1, e2⟩ := lnG_at hI hm
  have b := hI.ed e e1
  rw [e2] at h1 h2 ⊢
  have q1 : 2 * e.lev.toNat + (if e.tree then 1 else 0) = 2 * i := h1
  have q2 : e.u.toNat = v := h2
  have ht : e.tree = false := by
    cases h : e.tree
    · rfl
    · rw [h] at q1; simp at q1; omega
  have hl : e.lev.toNat = i := by rw [ht] at q1; simp at q1; omega
  have s := hns e e1 ht
  rw [hl] at s
  have := (conn_i hI hi (a := e.u) (b := e.v) (by omega) (by omega) (by omega) (by omega)).2 s
  refine (hr2 _ ?_).2 ?_
  · show e.v.toNat < G.N
    omega
  · show Rch G.edges true i v ((e.v.toNat : Nat) : Int)
    rw [Int.toNat_of_nonneg (by omega), show (v : Int) = e.u by omega]; exact this

/-- How many components there are. -/
theorem comps_ok {G : Gr} {E : Nat → Nat → Bool} (hI : GI G) (hns : NS G) (h : Adj G E) {p : Nat} (hp : ∀ ld : Nat → Bool, (∀ v, v < G.N → (ld v = true ↔ ∀ u, u < v → ¬ RE G.N E u v)) → p = cnt ld G.N) : trs (lnG G) (lnG G).length + p = G.N := by
  classical
  have e1 := hp (fun v => decide (∀ u, u < v → ¬ RE G.N E u v)) (fun v _ => decide_eq_true_iff)
  have e2 := comp_count hI hns (r := fun v => decide (∀ u, u < v → ¬ RE G.N E u v)) (fun v hv => by
    rw [decide_eq_true_iff]
    constructor
    · intro q y hy k
      exact q y hy ((re_rch hI h (by omega) hv).2 (rch_comm k))
    · intro q y hy k
      exact q y hy (rch_comm ((re_rch hI h (by omega) hv).1 k)))
  rw [e1, ← e2]
  exact trs_forest hI

end Go.Proofs.Ytckallochdegiab
