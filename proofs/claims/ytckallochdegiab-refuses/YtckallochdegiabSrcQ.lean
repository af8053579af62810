import Derived.Test.YtckallochdegiabEuler
import Derived.Test.YtckallochdegiabPgP
import Derived.Test.YtckallochdegiabIxH
namespace Go.Proofs.Ytckallochdegiab
set_option linter.unusedVariables false
set_option linter.unusedSimpArgs false
open Go.RowKit

/-- The sum of the levels. -/
def sumL : List Edg → Int
  | [] => 0
  | e :: es => e.lev + sumL es
theorem sumL_set {es : List Edg} {k : Nat} (e' : Edg) (hk : k < es.length) : sumL (es.set k e') = sumL es + e'.lev - (es[k]?.getD e0).lev := by
  induction es generalizing k with
  | nil => simp at hk
  | cons a es ih =>
    cases k with
    | zero => simp [sumL]; omega
    | succ k =>
      have := ih (k := k) (by simpa using hk)
      simp only [List.set_cons_succ, sumL, List.getElem?_cons_succ]
      omega

/-- From q to r edges have but risen, and each rise is counted. -/
structure RiseR (q r : Gr × Int) : Prop where
  n : r.1.N = q.1.N
  len : r.1.edges.length = q.1.edges.length
  up : ∀ j, j < q.1.edges.length → key (r.1.edges[j]?.getD e0) = key (q.1.edges[j]?.getD e0) ∧ (q.1.edges[j]?.getD e0).lev ≤ (r.1.edges[j]?.getD e0).lev
  ct : ∃ k : Nat, sumL r.1.edges = sumL q.1.edges + k ∧ r.2 = wrap64 (q.2 + k) 

def InR (p : Int) : Prop := -9223372036854775808 ≤ p ∧ p ≤ 9223372036854775807
theorem wrap_in {p : Int} (h : InR p) : wrap64 p = p := by unfold InR at h; unfold wrap64; omega
theorem wrap_inR (p : Int) : InR (wrap64 p) := by unfold InR wrap64; omega
theorem wrap_add (p k : Int) : wrap64 (wrap64 p + k) = wrap64 (p + k) := by unfold wrap64; omega

theorem RiseR.refl (q : Gr × Int) (h : InR q.2) : RiseR q q := ⟨rfl, rfl, fun _ _ => ⟨rfl, Int.le_refl _⟩, 0, by simp, by simp [wrap_in h]⟩
theorem RiseR.trans {a b c : Gr × Int} (h : RiseR a b) (k : RiseR b c) : RiseR a c := by
  obtain ⟨m, m1, m2⟩ := h.ct
  obtain ⟨n, n1, n2⟩ := k.ct
  refine ⟨k.n.trans h.n, k.len.trans h.len, fun j hj => ?_, m + n, ?_, ?_⟩
  · have a1 := h.up j hj
    have a2 := k.up j (by rw [h.len]; exact hj)
    exact ⟨a2.1.trans a1.1, Int.le_trans a1.2 a2.2⟩
  · rw [n1, m1]; omega
  · rw [n2, m2, wrap_add]; congr 1; omega
theorem RiseR.inR {a b : Gr × Int} (h : RiseR a b) : InR b.2 := by
  obtain ⟨m, _, m2⟩ := h.ct
  rw [m2]; exact wrap_inR _

/-- An edge rises, or stays and becomes of the forest. -/
theorem riseR_set {G G' : Gr} {p : Int} {k : Nat} {e' : Edg} (d : Nat) (hk : k < G.edges.length) (hn : G'.N = G.N) (he : G'.edges = G.edges.set k e') (h1 : key e' = key (G.edges[k]?.getD e0)) (h2 : e'.lev = (G.edges[k]?.getD e0).lev + d) (p' : Int) (hp : p' = wrap64 (p + d)) : RiseR (G, p) (G', p') := by
  refine ⟨hn, by show G'.edges.length = _; rw [he]; simp, fun j hj => ?_, d, ?_, hp⟩
  · show key (G'.edges[j]?.getD e0) = key (G.edges[j]?.getD e0) ∧ (G.edges[j]?.getD e0).lev ≤ (G'.edges[j]?.getD e0).lev
    rw [he, List.getElem?_set]
    by_cases c : k = j
    · subst c; rw [if_pos rfl, if_pos hk]; exact ⟨h1, by simp only [Option.getD_some]; omega⟩
    · rw [if_neg c]; exact ⟨rfl, Int.le_refl _⟩
  · show sumL G'.edges = sumL G.edges + (d : Int)
    rw [he, sumL_set e' hk]; omega

section
variable {G0 G : Gr} {s o : Int} {i : Nat} {t0 t : List Itm} {m y : Nat}

theorem riseP_fst (q : Gr × Int) (x : Itm) : (riseP i q x).1 = riseT i q.1 x := by
  unfold riseP riseT
  split
  · split <;> simp_all
  · rfl

theorem rise_R (h : PA G0 G s o i t0 t m) (hs : t0 ∈ lv G0 i) (hsz : sizeV t0 * 2 ^ (i + 1) ≤ G0.N) (hrot : Rot t0 t) (hm : m < t.length) (p : Int) (hp : InR p) : RiseR (G, p) (riseP i (G, p) (t[m]?.getD (0, 0))) := by
  have hx : t[m]?.getD (0, 0) ∈ t0 := by rw [get_eq hm]; exact (hrot.mem _).2 (List.getElem_mem hm)
  obtain ⟨_, _, _, _, a5⟩ := h.mi.rise_step (t0 := t0) (by rw [h.lvi i (Nat.le_refl _)]; exact hs) (by rw [h.n]; exact hsz) hx
  generalize t[m]?.getD (0, 0) = x at a5
  by_cases c : x.1 < x.2
  · obtain ⟨k, e, k1, k2, k3, _⟩ := a5 c
    rw [riseP, if_pos c]
    simp only [k2, Int.toNat_natCast, k3]
    by_cases d : e.lev = i
    · rw [if_pos d]
      refine riseR_set (k := k) (e' := { e with lev := e.lev + 1 }) 1 k1 ?_ ?_ (by rw [k3]; rfl) (by rw [k3]; rfl) _ rfl
      · rw [riseT, if_pos c, k2, Int.toNat_natCast, k3, if_pos d]; rfl
      · rw [riseT, if_pos c, k2, Int.toNat_natCast, k3, if_pos d]; rfl
    · rw [if_neg d]; exact RiseR.refl _ hp
  · rw [riseP, if_neg c]; exact RiseR.refl _ hp

theorem fold_R (h : MI G0 s o i) (hs : t0 ∈ lv G0 i) (hsz : sizeV t0 * 2 ^ (i + 1) ≤ G0.N) (hrot : Rot t0 t) (p : Int) (hp : InR p) : ∀ m, m ≤ t.length → PA G0 ((t.take m).foldl (riseP i) (G0, p)).1 s o i t0 t m ∧ RiseR (G0, p) ((t.take m).foldl (riseP i) (G0, p)) := by
  intro m
  induction m with
  | zero => intro _; exact ⟨⟨h, rfl, fun _ _ => rfl, rfl, Up.refl _, fun j hj => by omega⟩, RiseR.refl _ hp⟩
  | succ m ih =>
    intro hm
    obtain ⟨i1, i2⟩ := ih (by omega)
    rw [take_fold (by omega) rfl]
    refine ⟨?_, i2.trans (rise_R i1 hs hsz hrot (by omega) _ i2.inR)⟩
    rw [riseP_fst]
    exact i1.step hs hsz hrot (by omega)


/-- What a search that found an edge leaves. -/
structure Fin (G0 : Gr) (r : Gr × Int) : Prop where
  gi : GI r.1
  ns : NS r.1
  n : r.1.N = G0.N
  tl : r.1.tours.length = G0.tours.length
  ks : r.1.edges.map key = G0.edges.map key

theorem seek1_R (h : PB G0 G s o i t0 t m y) (hs : t0 ∈ lv G0 i) (hsv : (s, -1) ∈ t0) (hsz : sizeV t0 * 2 ^ (i + 1) ≤ G0.N) (hrot : Rot t0 t) (hm : m < t.length) (hneg : (t[m]?.getD (0, 0)).2 < 0) (hy : y < G0.N) (p : Int) (hp : InR p) :
    (∃ r, seek1 i s (t[m]?.getD (0, 0)).1 (G, p) y = .inl r ∧ PB G0 r.1 s o i t0 t m (y + 1) ∧ RiseR (G, p) r) ∨
    (∃ r, seek1 i s (t[m]?.getD (0, 0)).1 (G, p) y = .inr r ∧ Fin G0 r ∧ RiseR (G, p) r) := by
  have hs' : t0 ∈ lv G i := by rw [h.lvi i (Nat.le_refl _)]; exact hs
  have L := h.mi.gi.li i h.mi.il
  have hxm : t[m]?.getD (0, 0) ∈ t0 := by rw [get_eq hm]; exact (hrot.mem _).2 (List.getElem_mem hm)
  have hx0 : ((t[m]?.getD (0, 0)).1, -1) ∈ t0 := (L.tr t0 hs').vtx _ hxm
  have hN := h.n
  have hxs : Same (lv G i) (t[m]?.getD (0, 0)).1 s := ⟨t0, hs', hx0, hsv⟩
  have rs := (L.rng t0 hs' _ hsv).1
  have hsame := L.same_iff (a := (y : Int)) (b := s) (by omega) (by omega) rs.1 rs.2
  have hsk := h.skip
  have hra := fun {k : Nat} {e : Edg} => h.raise (k := k) (e := e) hs hsv hsz
  generalize (t[m]?.getD (0, 0)).1 = x at *
  rcases find_cases G.edges (min x y) (max x y) with f | ⟨k, f⟩
  · left
    refine ⟨(G, p), ?_, hsk (done_no f), RiseR.refl _ hp⟩
    rw [seek1]; simp only [f]; rw [if_pos (by omega)]
  · obtain ⟨k1, k2, k3⟩ := find_ge f
    have e1 : seek1 i s x (G, p) y = if (G.edges[k]?.getD e0).tree = true ∨ (G.edges[k]?.getD e0).lev ≠ i then .inl (G, p) else if tourIx (lv G i) y ≠ tourIx (lv G i) s then
        .inr (lnks (setE G k ⟨(G.edges[k]?.getD e0).u, (G.edges[k]?.getD e0).v, i, true⟩) x y (i + 1), p)
        else .inl (setE G k { G.edges[k]?.getD e0 with lev := (G.edges[k]?.getD e0).lev + 1 }, wrap64 (p + 1)) := by
      rw [seek1]; simp only [f]; rw [if_neg (by omega), Int.toNat_natCast]
    rw [e1]
    by_cases c : (G.edges[k]?.getD e0).tree = true ∨ (G.edges[k]?.getD e0).lev ≠ i
    · left
      rw [if_pos c]
      exact ⟨(G, p), rfl, hsk (done_one h.mi.gi f c), RiseR.refl _ hp⟩
    · have ht : (G.edges[k]?.getD e0).tree = false := by
        cases q : (G.edges[k]?.getD e0).tree
        · rfl
        · exact absurd (Or.inl q) c
      have hl : (G.edges[k]?.getD e0).lev = i := by
        by_cases q : (G.edges[k]?.getD e0).lev = i
        · exact q
        · exact absurd (Or.inr q) c
      rw [if_neg c]
      have hxy : (x = (G.edges[k]?.getD e0).u ∧ (y : Int) = (G.edges[k]?.getD e0).v) ∨ (x = (G.edges[k]?.getD e0).v ∧ (y : Int) = (G.edges[k]?.getD e0).u) := by rw [k2, k3]; omega
      by_cases d : tourIx (lv G i) y ≠ tourIx (lv G i) s
      · right
        rw [if_pos d]
        obtain ⟨f1, f2, _, _⟩ := h.mi.found k1 rfl ht hl hxy hxs (fun q => d (hsame.1 q))
        refine ⟨_, rfl, ⟨f1, f2, by rw [lnks_N]; exact h.n, by rw [lnks_len]; exact h.tl, ?_⟩, ?_⟩
        · show (lnks _ x y (i + 1)).edges.map key = _
          rw [lnks_edges]
          show (G.edges.set k ⟨(G.edges[k]?.getD e0).u, (G.edges[k]?.getD e0).v, i, true⟩).map key = _
          rw [key_set (e' := ⟨(G.edges[k]?.getD e0).u, (G.edges[k]?.getD e0).v, i, true⟩) k1 rfl]; exact h.up
        · refine riseR_set (k := k) (e' := ⟨(G.edges[k]?.getD e0).u, (G.edges[k]?.getD e0).v, i, true⟩) 0 k1 (by rw [lnks_N]; rfl) (by rw [lnks_edges]; rfl) rfl (by rw [hl]; simp) _ (by simp [wrap_in hp])
      · left
        rw [if_neg d]
        have sm : Same (lv G i) y s := hsame.2 (by
          by_cases q : tourIx (lv G i) y = tourIx (lv G i) s
          · exact q
          · exact absurd q d)
        obtain ⟨t1, p1, p2, p3⟩ := sm
        have : t1 = t0 := L.uniq p1 hs' p3 hsv rfl
        rw [this] at p2
        have hR : RiseR (G, p) (setE G k { G.edges[k]?.getD e0 with lev := (G.edges[k]?.getD e0).lev + 1 }, wrap64 (p + 1)) := riseR_set (G := G) (G' := setE G k { G.edges[k]?.getD e0 with lev := (G.edges[k]?.getD e0).lev + 1 }) (p := p) (k := k) (e' := { G.edges[k]?.getD e0 with lev := (G.edges[k]?.getD e0).lev + 1 }) 1 k1 rfl rfl rfl rfl _ rfl
        refine ⟨_, rfl, hra k1 rfl ht hl (Prod.ext k2 k3) ?_ ?_, hR⟩
        · rcases hxy with ⟨q1, q2⟩ | ⟨q1, q2⟩
          · rw [← q1]; exact hx0
          · rw [← q2]; exact p2
        · rcases hxy with ⟨q1, q2⟩ | ⟨q1, q2⟩
          · rw [← q2]; exact p2
          · rw [← q1]; exact hx0

theorem seekN_R (h : PB G0 G s o i t0 t m 0) (hs : t0 ∈ lv G0 i) (hsv : (s, -1) ∈ t0) (hsz : sizeV t0 * 2 ^ (i + 1) ≤ G0.N) (hrot : Rot t0 t) (hm : m < t.length) (hneg : (t[m]?.getD (0, 0)).2 < 0) (p : Int) (hp : InR p) : ∀ y, y ≤ G0.N →
    (∃ r, seekN i s (t[m]?.getD (0, 0)).1 (G, p) y = .inl r ∧ PB G0 r.1 s o i t0 t m y ∧ RiseR (G, p) r) ∨
    (∃ r, seekN i s (t[m]?.getD (0, 0)).1 (G, p) y = .inr r ∧ Fin G0 r ∧ RiseR (G, p) r) := by
  intro y
  induction y with
  | zero => intro _; exact Or.inl ⟨(G, p), rfl, h, RiseR.refl _ hp⟩
  | succ y ih =>
    intro hy
    rcases ih (by omega) with ⟨r, r1, r2, r3⟩ | ⟨r, r1, r2, r3⟩
    · have e : seekN i s (t[m]?.getD (0, 0)).1 (G, p) (y + 1) = seek1 i s (t[m]?.getD (0, 0)).1 r y := by rw [seekN, r1]
      rw [e]
      rcases seek1_R r2 hs hsv hsz hrot hm hneg (by omega) r.2 r3.inR with ⟨r', a1, a2, a3⟩ | ⟨r', a1, a2, a3⟩
      · exact Or.inl ⟨r', a1, a2, r3.trans a3⟩
      · exact Or.inr ⟨r', a1, a2, r3.trans a3⟩
    · exact Or.inr ⟨r, by rw [seekN, r1], r2, r3⟩

theorem seekT_R (h : PB G0 G s o i t0 t 0 0) (hs : t0 ∈ lv G0 i) (hsv : (s, -1) ∈ t0) (hsz : sizeV t0 * 2 ^ (i + 1) ≤ G0.N) (hrot : Rot t0 t) (p : Int) (hp : InR p) : ∀ m, m ≤ t.length →
    (∃ r, seekT i s G0.N t (G, p) m = .inl r ∧ PB G0 r.1 s o i t0 t m 0 ∧ RiseR (G, p) r) ∨
    (∃ r, seekT i s G0.N t (G, p) m = .inr r ∧ Fin G0 r ∧ RiseR (G, p) r) := by
  intro m
  induction m with
  | zero => intro _; exact Or.inl ⟨(G, p), rfl, h, RiseR.refl _ hp⟩
  | succ m ih =>
    intro hm
    rcases ih (by omega) with ⟨r, r1, r2, r3⟩ | ⟨r, r1, r2, r3⟩
    · have e : seekT i s G0.N t (G, p) (m + 1) = if (t[m]?.getD (0, 0)).2 < 0 then seekN i s (t[m]?.getD (0, 0)).1 r G0.N else .inl r := by rw [seekT, r1]
      rw [e]
      by_cases c : (t[m]?.getD (0, 0)).2 < 0
      · rw [if_pos c]
        rcases seekN_R r2 hs hsv hsz hrot (by omega) c r.2 r3.inR G0.N (Nat.le_refl _) with ⟨r', a1, a2, a3⟩ | ⟨r', a1, a2, a3⟩
        · exact Or.inl ⟨r', a1, a2.next (fun _ => Nat.le_refl _), r3.trans a3⟩
        · exact Or.inr ⟨r', a1, a2, r3.trans a3⟩
      · rw [if_neg c]
        exact Or.inl ⟨r, rfl, r2.next (fun q => absurd q c), r3⟩
    · exact Or.inr ⟨r, by rw [seekT, r1], r2, r3⟩

/-- A search of a level: what it leaves, and that each rise is counted. -/
theorem searchF_R (h : MI G0 s o i) (hs : t0 ∈ lv G0 i) (hsv : (s, -1) ∈ t0) (hsz : sizeV t0 * 2 ^ (i + 1) ≤ G0.N) (hrot : Rot t0 t) (p : Int) (hp : InR p) :
    SEnd G0 s o i (searchF i s G0.N t (G0, p)).1 (searchF i s G0.N t (G0, p)).2.1 ∧ RiseR (G0, p) (searchF i s G0.N t (G0, p)).2 := by
  obtain ⟨f1, f2⟩ := fold_R h hs hsz hrot p hp t.length (Nat.le_refl _)
  rw [List.take_length] at f1 f2
  have b := f1.begin_ hs hsv hsz hrot
  rcases seekT_R b hs hsv hsz hrot _ f2.inR t.length (Nat.le_refl _) with ⟨r, a1, a2, a3⟩ | ⟨r, a1, a2, a3⟩
  · have e : searchF i s G0.N t (G0, p) = (false, r.1, r.2) := by rw [searchF, a1]
    rw [e]
    exact ⟨⟨a2.n, a2.tl, a2.up, fun q => by simp at q, fun _ => ⟨a2.mi, a2.end_ hs hsv hrot⟩⟩, f2.trans a3⟩
  · have e : searchF i s G0.N t (G0, p) = (true, r.1, r.2) := by rw [searchF, a1]
    rw [e]
    exact ⟨⟨a2.n, a2.tl, a2.ks, fun _ => ⟨a2.gi, a2.ns⟩, fun q => by simp at q⟩, f2.trans a3⟩

end

theorem stepF_R {G : Gr} {a b : Int} {i : Nat} (h : MI G a b i) (ha0 : 0 ≤ a) (ha1 : a < G.N) (hb0 : 0 ≤ b) (hb1 : b < G.N) (p : Int) (hp : InR p) :
    ∃ s o, ((s = a ∧ o = b) ∨ (s = b ∧ o = a)) ∧ SEnd G s o i (stepF a b i (G, p)).1 (stepF a b i (G, p)).2.1 ∧ RiseR (G, p) (stepF a b i (G, p)).2 := by
  obtain ⟨ka, ta, _, a2, a3, a4, a5, _⟩ := lv_facts h ha0 ha1
  obtain ⟨kb, tb, _, b2, b3, b4, b5, _⟩ := lv_facts h.swap hb0 hb1
  have ea := lessT_eq a2 a3
  have eb := lessT_eq b2 b3
  by_cases c : sizeV tb < sizeV ta
  · have e : stepF a b i (G, p) = searchF i b G.N (fromX tb (leastV tb b, -1)) (G, p) := by rw [stepF]; simp only [ea, eb]; rw [if_pos c]
    rw [e]
    exact ⟨b, a, Or.inr ⟨rfl, rfl⟩, searchF_R h.swap b4 b5 (lesser_sz h.swap b4 a4 b5 a5 (by omega)) (fromX_rot' _ _) p hp⟩
  · have e : stepF a b i (G, p) = searchF i a G.N (fromX ta (leastV ta a, -1)) (G, p) := by rw [stepF]; simp only [ea, eb]; rw [if_neg c]
    rw [e]
    exact ⟨a, b, Or.inl ⟨rfl, rfl⟩, searchF_R h a4 a5 (lesser_sz h a4 b4 a5 b5 (by omega)) (fromX_rot' _ _) p hp⟩

theorem downF_R {G0 : Gr} {k : Nat} {a b : Int} (ha0 : 0 ≤ a) (ha1 : a < G0.N) (hb0 : 0 ≤ b) (hb1 : b < G0.N) : ∀ (m : Nat) (G : Gr) (p : Int), DM G0 k a b G m → InR p →
    DEnd G0 k (downF a b m (G, p)).1 ∧ RiseR (G, p) (downF a b m (G, p)) := by
  intro m
  induction m with
  | zero => intro G p h hp; exact ⟨h.zero, RiseR.refl _ hp⟩
  | succ i ih =>
    intro G p h hp
    have n := h.n
    obtain ⟨s, o, hso, s1, s2⟩ := stepF_R (h.p i rfl) ha0 (by omega) hb0 (by omega) p hp
    obtain ⟨f, r, hst⟩ : ∃ f r, stepF a b i (G, p) = (f, r) := ⟨_, _, rfl⟩
    rw [hst] at s1 s2
    cases f with
    | true =>
      have e : downF a b (i + 1) (G, p) = r := by rw [downF, hst]
      rw [e]
      exact ⟨h.found s1, s2⟩
    | false =>
      have e : downF a b (i + 1) (G, p) = downF a b i r := by rw [downF, hst]
      rw [e]
      obtain ⟨d1, d2⟩ := ih r.1 r.2 (h.down hso s1) s2.inR
      exact ⟨d1, s2.trans d2⟩

/-- A Delete: what it leaves; edges but rise, and each rise is counted. -/
theorem delF_R {G : Gr} (h : GI G) (hns : NS G) {k : Nat} (hk : k < G.edges.length) (p : Int) (hp : InR p) :
    DEnd G k (delF G p (G.edges[k]?.getD e0).u (G.edges[k]?.getD e0).v k).1 ∧ RiseR (delE G k, p) (delF G p (G.edges[k]?.getD e0).u (G.edges[k]?.getD e0).v k) := by
  have hem : G.edges[k]?.getD e0 ∈ G.edges := by rw [get_eq hk]; exact List.getElem_mem hk
  have b := h.ed _ hem
  obtain ⟨e, he⟩ : ∃ e, G.edges[k]?.getD e0 = e := ⟨_, rfl⟩
  rw [he] at b
  cases ht : e.tree with
  | false =>
    have q : delF G p e.u e.v k = (delE G k, p) := by rw [delF, he, if_pos ht]
    rw [he, q]
    exact ⟨⟨rfl, rfl, rfl, h.drop hk he ht, hns.drop k⟩, RiseR.refl _ hp⟩
  | true =>
    obtain ⟨l, hl⟩ := Int.eq_ofNat_of_zero_le b.2.2.2.1
    obtain ⟨m1, _⟩ := h.cutAll hns hk he ht hl
    have q : delF G p e.u e.v k = downF e.u e.v (l + 1) (cuts (delE G k) e.u e.v (l + 1), p) := by
      rw [delF, he, if_neg (by rw [ht]; simp), hl, Int.toNat_natCast]
    have dm : DM G k e.u e.v (cuts (delE G k) e.u e.v (l + 1)) (l + 1) := ⟨by rw [cuts_N]; rfl, by rw [cuts_len]; rfl, by rw [cuts_edges], fun z => by omega, fun i z => by
      have : i = l := by omega
      subst this; exact m1⟩
    obtain ⟨d1, d2⟩ := downF_R (G0 := G) (by omega) (by omega) (by omega) (by omega) (l + 1) _ p dm hp
    rw [he, q]
    refine ⟨d1, ?_⟩
    have n1 : (cuts (delE G k) e.u e.v (l + 1)).N = (delE G k).N := cuts_N _ _ _ _
    have n2 : (cuts (delE G k) e.u e.v (l + 1)).edges = (delE G k).edges := cuts_edges _ _ _ _
    have z : RiseR (delE G k, p) (cuts (delE G k) e.u e.v (l + 1), p) := ⟨n1, by show (cuts _ _ _ _).edges.length = _; rw [n2], fun j _ => by show key ((cuts _ _ _ _).edges[j]?.getD e0) = _ ∧ _ ≤ ((cuts _ _ _ _).edges[j]?.getD e0).lev; rw [n2]; exact ⟨rfl, Int.le_refl _⟩, 0, by show sumL (cuts _ _ _ _).edges = _; rw [n2]; simp, by simp [wrap_in hp]⟩
    exact z.trans d2

end Go.Proofs.Ytckallochdegiab
namespace Go.Proofs.Ytckallochdegiab
set_option linter.unusedVariables false
set_option linter.unusedSimpArgs false

theorem sizeV_flat {ts : List (List Itm)} (h : ∀ t, t ∈ ts → t.length + 2 = 3 * sizeV t) : ts.flatten.length + 2 * ts.length = 3 * sizeV ts.flatten := by
  induction ts with
  | nil => rfl
  | cons t ts ih =>
    have a := h t (by simp)
    have b := ih (fun s hs => h s (by simp [hs]))
    rw [List.flatten_cons, List.length_append, sizeV_append, List.length_cons]
    omega

theorem filter_two (l : List Itm) : sizeV l + (l.filter fun x => !decide (x.2 < 0)).length = l.length := by
  induction l with
  | nil => rfl
  | cons a l ih =>
    unfold sizeV at *
    by_cases c : a.2 < 0 <;> simp [c] <;> omega

section
variable {G : Gr} {i : Nat}

theorem LI.flat_nodup {N : Nat} {es : List Edg} {ts : List (List Itm)} (L : LI N es i ts) : ts.flatten.Nodup := by
  rw [List.Nodup, List.pairwise_flatten]
  refine ⟨fun t ht => (L.tr t ht).nd, L.dj.imp (fun {a b} d x hx y hy e => ?_)⟩
  exact d x hx y hy (by rw [e])

/-- Of the forest there are as many edges as vertices, less the trees. -/
theorem forest_count (hI : GI G) : (G.edges.filter fun e => e.tree).length + (lv G 0).length = G.N := by
  have L := hI.li 0 (by omega)
  have nd := L.flat_nodup
  have ok : ∀ x, x ∈ (lv G 0).flatten → OkI x := fun x hx => by
    obtain ⟨t, ht, hxt⟩ := List.mem_flatten.1 hx
    exact hI.okI (by omega) ht x hxt
  have s3 := sizeV_flat (ts := lv G 0) (fun t ht => hI.len3 (by omega) ht)
  have f2 := filter_two (lv G 0).flatten
  have sN : sizeV (lv G 0).flatten = G.N := by
    have h1 : sizeV (lv G 0).flatten ≤ G.N := by
      have := nodup_len (l := (lv G 0).flatten.filter fun x => decide (x.2 < 0)) (m := (List.range G.N).map fun v : Nat => ((v : Int), (-1 : Int))) (nd.sublist List.filter_sublist) (fun x hx => by
        simp only [List.mem_filter, decide_eq_true_eq] at hx
        obtain ⟨t, ht, hxt⟩ := List.mem_flatten.1 hx.1
        have r := (L.rng t ht x hxt).1
        rw [List.mem_map]
        exact ⟨x.1.toNat, by rw [List.mem_range]; omega, Prod.ext (by show ((x.1.toNat : Nat) : Int) = x.1; omega) ((ok x hx.1).neg.1 hx.2).symm⟩)
      simpa [sizeV] using this
    have h2 : G.N ≤ sizeV (lv G 0).flatten := by
      have := nodup_len (m := (lv G 0).flatten.filter fun x => decide (x.2 < 0)) (l := (List.range G.N).map fun v : Nat => ((v : Int), (-1 : Int))) (by
        rw [List.Nodup, List.pairwise_map]
        exact (List.nodup_range (n := G.N)).imp (fun {a b} q e => q (by have := congrArg Prod.fst e; simp only at this; omega))) (fun x hx => by
        rw [List.mem_map] at hx
        obtain ⟨v, hv, rfl⟩ := hx
        rw [List.mem_range] at hv
        obtain ⟨t, ht, hvt⟩ := L.all (v : Int) (by omega) (by omega)
        simp only [List.mem_filter, decide_eq_true_eq]
        exact ⟨List.mem_flatten.2 ⟨t, ht, hvt⟩, by show (-1 : Int) < 0; omega⟩)
      simpa [sizeV] using this
    omega
  have wN : ((lv G 0).flatten.filter fun x => !decide (x.2 < 0)).length = 2 * (G.edges.filter fun e => e.tree).length := by
    have fl : ∀ es : List Edg, (es.flatMap fun e => [(e.u, e.v), (e.v, e.u)]).length = 2 * es.length := by
      intro es
      induction es with
      | nil => rfl
      | cons e es ih => rw [List.flatMap_cons, List.length_append, ih]; simp; omega
    rw [← fl]
    have h1 := nodup_len (l := (lv G 0).flatten.filter fun x => !decide (x.2 < 0)) (m := (G.edges.filter fun e => e.tree).flatMap fun e => [(e.u, e.v), (e.v, e.u)]) (nd.sublist List.filter_sublist) (fun x hx => by
      simp only [List.mem_filter, Bool.not_eq_true', decide_eq_false_iff_not] at hx
      obtain ⟨t, ht, hxt⟩ := List.mem_flatten.1 hx.1
      rcases (L.rng t ht x hxt).2 with q | ⟨e, he, e1, _, e2⟩
      · omega
      · rw [List.mem_flatMap]
        refine ⟨e, by simp [List.mem_filter, he, e1], ?_⟩
        rcases e2 with ⟨q1, q2⟩ | ⟨q1, q2⟩
        · rw [show x = (e.u, e.v) from Prod.ext q1.symm q2.symm]; simp
        · rw [show x = (e.v, e.u) from Prod.ext q2.symm q1.symm]; simp)
    have h2 := nodup_len (m := (lv G 0).flatten.filter fun x => !decide (x.2 < 0)) (l := (G.edges.filter fun e => e.tree).flatMap fun e => [(e.u, e.v), (e.v, e.u)]) (by
      rw [List.flatMap, List.Nodup, List.pairwise_flatten]
      constructor
      · intro l hl
        rw [List.mem_map] at hl
        obtain ⟨e, he, rfl⟩ := hl
        have b := hI.ed e (List.mem_filter.1 he).1
        simp; omega
      · rw [List.pairwise_map]
        have nk := hI.nd
        rw [List.Nodup, List.pairwise_map] at nk
        refine List.Pairwise.imp_of_mem ?_ (nk.sublist List.filter_sublist)
        intro a c ha hc hac x hx y hy exy
        have ba := hI.ed a (List.mem_filter.1 ha).1
        have bc := hI.ed c (List.mem_filter.1 hc).1
        apply hac
        subst exy
        simp only [List.mem_cons, List.not_mem_nil, or_false] at hx hy
        rcases hx with rfl | rfl <;> rcases hy with q | q
        · exact q
        · have q1 := congrArg Prod.fst q; have q2 := congrArg Prod.snd q; simp only at q1 q2; omega
        · have q1 := congrArg Prod.fst q; have q2 := congrArg Prod.snd q; simp only at q1 q2; omega
        · have q1 := congrArg Prod.fst q; have q2 := congrArg Prod.snd q; simp only at q1 q2
          rw [key, key, q1, q2]) (fun x hx => by
      rw [List.mem_flatMap] at hx
      obtain ⟨e, he, hx⟩ := hx
      simp only [List.mem_filter] at he
      have b := hI.ed e he.1
      obtain ⟨t, ht, hw⟩ := hI.cv 0 (by omega) e he.1 he.2 (by omega)
      have hb := ((L.tr t ht).way (e.u, e.v) hw (by show e.v ≠ -1; omega)).1
      simp only [List.mem_filter, Bool.not_eq_true', decide_eq_false_iff_not]
      simp only [List.mem_cons, List.not_mem_nil, or_false] at hx
      rcases hx with rfl | rfl
      · exact ⟨List.mem_flatten.2 ⟨t, ht, hw⟩, by show ¬ e.v < 0; omega⟩
      · exact ⟨List.mem_flatten.2 ⟨t, ht, hb⟩, by show ¬ e.u < 0; omega⟩)
    omega
  omega
end

end Go.Proofs.Ytckallochdegiab
namespace Go.Proofs.Ytckallochdegiab
set_option linter.unusedVariables false
set_option linter.unusedSimpArgs false

section
variable {G : Gr} {i : Nat}

/-- The least vertex of a round. -/
def lstV (t : List Itm) : Nat := (leastV t (t[0]?.getD (0, 0)).1).toNat

theorem lstV_at (hI : GI G) (hi : i ≤ Nat.log2 G.N) {t : List Itm} (ht : t ∈ lv G i) : LeastAt t (lstV t) ∧ lstV t < G.N := by
  have L := hI.li i hi
  have ne := L.ne t ht
  have hx : t[0]?.getD (0, 0) ∈ t := by
    cases t with
    | nil => exact absurd rfl ne
    | cons a t => simp
  have la := leastV_at (L.tr t ht) (hI.okI hi ht) ((L.tr t ht).vtx _ hx)
  have r := (L.rng t ht _ la.1).1
  simp only at r
  have e : ((lstV t : Nat) : Int) = leastV t (t[0]?.getD (0, 0)).1 := by rw [lstV]; omega
  rw [e]
  exact ⟨la, by omega⟩

/-- As many trees as components. -/
theorem comp_count (hI : GI G) (hns : NS G) {r : Nat → Bool} (hr : ∀ v : Nat, v < G.N → (r v = true ↔ ∀ u : Nat, u < v → ¬ Rch G.edges false 0 v u)) : (lv G 0).length = cnt r G.N := by
  have L := hI.li 0 (by omega)
  have nd : ((lv G 0).map lstV).Nodup := by
    rw [List.Nodup, List.pairwise_map]
    refine List.Pairwise.imp_of_mem ?_ L.dj
    intro a b ha hb d e
    have la := (lstV_at hI (by omega) ha).1.1
    have lb := (lstV_at hI (by omega) hb).1.1
    exact d _ la _ lb (by show ((lstV a : Nat) : Int) = (lstV b : Nat); rw [e])
  have := nodup_cnt G.N ((lv G 0).map lstV) nd (fun y hy => by
    obtain ⟨t, ht, rfl⟩ := List.mem_map.1 hy
    exact (lstV_at hI (by omega) ht).2)
  rw [List.length_map] at this
  rw [this]
  refine cnt_congr G.N (fun v hv => ?_)
  rw [Bool.eq_iff_iff, decide_eq_true_eq, hr v hv]
  constructor
  · intro q u hu k
    obtain ⟨t, ht, rfl⟩ := List.mem_map.1 q
    have la := (lstV_at hI (by omega) ht).1
    have := (tree_rch hI hns ht hv la.1 (x := u) (by omega)).2 k
    have := la.2 _ this
    simp only at this; omega
  · intro q
    obtain ⟨t, ht, hvt⟩ := L.all (v : Int) (by omega) (by omega)
    obtain ⟨la, lt⟩ := lstV_at hI (by omega) ht
    have k := (tree_rch hI hns ht hv hvt lt).1 la.1
    have le := la.2 _ hvt
    simp only at le
    by_cases c : lstV t < v
    · exact absurd k (q _ c)
    · exact List.mem_map.2 ⟨t, ht, by omega⟩

/-- One tree of F(i) is: reached by the forest's edges of level i and above. -/
theorem conn_i (h : GI G) (hi : i ≤ Nat.log2 G.N) {a b : Int} (ha0 : 0 ≤ a) (ha1 : a < G.N) (hb0 : 0 ≤ b) (hb1 : b < G.N) : Rch G.edges true i a b ↔ Same (lv G i) a b := by
  have L := h.li i hi
  constructor
  · intro k
    have := k (fun y => decide (tourIx (lv G i) y = tourIx (lv G i) a)) (by simp) (fun e he ha => ?_)
    · have e1 : tourIx (lv G i) b = tourIx (lv G i) a := by simpa using this
      exact (L.same_iff ha0 ha1 hb0 hb1).2 e1.symm
    · have be := h.ed e he
      simp only [act, Bool.not_true, Bool.false_or, Bool.and_eq_true, decide_eq_true_eq] at ha
      obtain ⟨t, g1, _, _, g4, g5⟩ := h.tree_same (i := i) hi he ha.1 ha.2
      have := (L.same_iff (by omega) (by omega) (by omega) (by omega)).1 ⟨t, g1, g4, g5⟩
      simp [this]
  · rintro ⟨t, ht, pa, pb⟩ S hS hc
    have T := L.tr t ht
    refine T.reach pa (fun x => S x = true) hS (fun x hx hw k => ?_) _ pb
    rcases (L.rng t ht x hx).2 with c | ⟨e, he, e1, e2, e3⟩
    · exact absurd c hw
    · have := hc e he (by simp [act, e1, e2])
      rcases e3 with ⟨a1, a2⟩ | ⟨a1, a2⟩
      · rw [← a2, ← this, a1]; exact k
      · rw [← a1, this, a2]; exact k

/-- Who is reached in F(i) from v: at most n / 2^i. -/
theorem size_i (hI : GI G) (hi : i ≤ Nat.log2 G.N) {v : Nat} (hv : v < G.N) {r : Nat → Bool} (hr : ∀ y, y < G.N → (r y = true ↔ Rch G.edges true i v y)) : cnt r G.N ≤ G.N / 2 ^ i := by
  have L := hI.li i hi
  obtain ⟨t, ht, hvt⟩ := L.all (v : Int) (by omega) (by omega)
  have ok := hI.okI hi ht
  have e : cnt r G.N = (verts t).length := by
    rw [nodup_cnt G.N (verts t) (verts_nodup (L.tr t ht).nd ok) (fun y hy => by
      have := (L.rng t ht _ ((verts_mem ok).1 hy)).1
      simp only at this; omega)]
    refine cnt_congr G.N (fun y hy => ?_)
    rw [Bool.eq_iff_iff, decide_eq_true_eq, hr y hy, conn_i hI hi (by omega) (by omega) (by omega) (by omega), verts_mem ok]
    constructor
    · rintro ⟨s, s1, s2, s3⟩
      have := L.uniq s1 ht s2 hvt rfl
      rw [← this]; exact s3
    · intro q; exact ⟨t, ht, hvt, q⟩
  rw [e, verts_length]
  exact (Nat.le_div_iff_mul_le (Nat.two_pow_pos i)).2 (L.siz t ht)

/-- The levels' sum, where one edge goes. -/
theorem sumL_erase {es : List Edg} {k : Nat} (hk : k < es.length) : sumL (es.eraseIdx k) = sumL es - (es[k]?.getD e0).lev := by
  induction es generalizing k with
  | nil => simp at hk
  | cons a es ih =>
    cases k with
    | zero => simp [sumL]; omega
    | succ k =>
      have := ih (k := k) (by simpa using hk)
      simp only [List.eraseIdx_cons_succ, sumL, List.getElem?_cons_succ]
      omega
theorem sumL_le {es : List Edg} {L : Int} (h : ∀ e, e ∈ es → 0 ≤ e.lev ∧ e.lev ≤ L) : 0 ≤ sumL es ∧ sumL es ≤ L * es.length := by
  induction es with
  | nil => simp [sumL]
  | cons a es ih =>
    have h1 := h a (by simp)
    have h2 := ih (fun e he => h e (by simp [he]))
    simp only [sumL, List.length_cons]
    have : L * ((es.length + 1 : Nat) : Int) = L * es.length + L := by rw [Int.natCast_add, Int.mul_add]; simp
    omega
theorem sumL_snoc (es : List Edg) (e : Edg) : sumL (es ++ [e]) = sumL es + e.lev := by
  induction es with
  | nil => simp [sumL]
  | cons a es ih => simp only [List.cons_append, sumL, ih]; omega

end
end Go.Proofs.Ytckallochdegiab
namespace Go.Proofs.Ytckallochdegiab
set_option linter.unusedVariables false
set_option linter.unusedSimpArgs false
open Go.RowKit

/-- The rises so far are paid by the levels that are there and by the edges that went. -/
def Pot (G : Gr) (pr : Int) (came : Nat) : Prop := 0 ≤ pr ∧ pr ≤ sumL G.edges + (Nat.log2 G.N : Int) * ((came : Int) - G.edges.length)

section
variable {G : Gr} {pr : Int} {came : Nat}

theorem GI.sum_le (h : GI G) : 0 ≤ sumL G.edges ∧ sumL G.edges ≤ (Nat.log2 G.N : Int) * G.edges.length :=
  sumL_le (fun e he => by have := h.ed e he; omega)

/-- Edges rise at most L times for each edge that came. -/
theorem Pot.bound (h : Pot G pr came) (hI : GI G) : pr ≤ (Nat.log2 G.N : Int) * came := by
  have a := hI.sum_le.2
  have b := h.2
  rw [Int.mul_sub] at b
  omega

theorem insG_N (G : Gr) (u v : Int) (c : Bool) : (insG G u v c).N = G.N := by
  unfold insG
  split
  · rw [lnks_N]; rfl
  · rfl
theorem insG_edges (G : Gr) (u v : Int) (c : Bool) : (insG G u v c).edges = G.edges ++ [⟨min u v, max u v, 0, c⟩] := by
  unfold insG
  cases c
  · rfl
  · rw [if_pos rfl, lnks_edges]; simp [setE, addE]

theorem Pot.ins (h : Pot G pr came) (u v : Int) (c : Bool) : Pot (insG G u v c) pr (came + 1) := by
  refine ⟨h.1, ?_⟩
  rw [insG_N, insG_edges, sumL_snoc, List.length_append]
  have : ((came + 1 : Nat) : Int) - ((G.edges.length + [(⟨min u v, max u v, 0, c⟩ : Edg)].length : Nat) : Int) = (came : Int) - G.edges.length := by simp; omega
  rw [this]
  have := h.2
  show _ ≤ sumL G.edges + 0 + _
  omega

/-- The levels that were last seen. -/
def Seen (G : Gr) (T : Nat → Nat → Int) : Prop := ∀ e, e ∈ G.edges → T e.u.toNat e.v.toNat ≤ e.lev

theorem Pot.del (h : Pot G pr came) (hI : GI G) (hns : NS G) {k : Nat} (hk : k < G.edges.length) (hc : came ≤ 2 ^ 30) :
    Pot (delF G pr (G.edges[k]?.getD e0).u (G.edges[k]?.getD e0).v k).1 (delF G pr (G.edges[k]?.getD e0).u (G.edges[k]?.getD e0).v k).2 came ∧
    (∀ f, f ∈ (delF G pr (G.edges[k]?.getD e0).u (G.edges[k]?.getD e0).v k).1.edges → ∃ e, e ∈ G.edges ∧ key e = key f ∧ e.lev ≤ f.lev) := by
  have n48 := hI.n48
  have lg := log2_le5 hI.n1 hI.n48
  have el := hI.elen
  have bd := h.bound hI
  have pb : pr ≤ 5 * 2 ^ 30 := by
    have : (Nat.log2 G.N : Int) * came ≤ 5 * came := Int.mul_le_mul_of_nonneg_right (by omega) (by omega)
    omega
  obtain ⟨d, r⟩ := delF_R hI hns hk pr (by unfold InR; have := h.1; omega)
  generalize delF G pr (G.edges[k]?.getD e0).u (G.edges[k]?.getD e0).v k = q at d r
  obtain ⟨m, m1, m2⟩ := r.ct
  have m1 : sumL q.1.edges = sumL (G.edges.eraseIdx k) + m := m1
  have m2 : q.2 = wrap64 (pr + m) := m2
  have rl : q.1.edges.length = (G.edges.eraseIdx k).length := r.len
  have rl0 := rl
  have rn : q.1.N = G.N := r.n
  rw [List.length_eraseIdx_of_lt hk] at rl
  rw [sumL_erase hk] at m1
  have hem : G.edges[k]?.getD e0 ∈ G.edges := by rw [get_eq hk]; exact List.getElem_mem hk
  have be := hI.ed _ hem
  have s1 := d.2.2.2.1.sum_le
  have s0 := hI.sum_le
  rw [rn] at s1
  have sb : sumL q.1.edges ≤ 5 * 2304 := by
    have : (Nat.log2 G.N : Int) * q.1.edges.length ≤ 5 * q.1.edges.length := Int.mul_le_mul_of_nonneg_right (by omega) (by omega)
    omega
  have hd : 0 ≤ sumL G.edges - (G.edges[k]?.getD e0).lev := by
    have := sumL_erase hk
    have z := (sumL_le (es := G.edges.eraseIdx k) (L := Nat.log2 G.N) (fun e he => by have := hI.ed e (mem_erase he); omega)).1
    omega
  have p1 := h.1
  have e2 : q.2 = pr + m := by rw [m2]; unfold wrap64; omega
  refine ⟨⟨by omega, ?_⟩, ?_⟩
  · rw [rn, e2, m1]
    have hp := h.2
    have e3 : ((came : Int) - (q.1.edges.length : Int)) = ((came : Int) - G.edges.length) + 1 := by omega
    rw [e3, Int.mul_add]
    omega
  · intro f hf
    obtain ⟨j, hj, rfl⟩ := List.mem_iff_getElem.1 hf
    have hj' : j < (G.edges.eraseIdx k).length := by rw [← rl0]; exact hj
    have u := r.up j hj'
    refine ⟨(G.edges.eraseIdx k)[j]?.getD e0, ?_, ?_, ?_⟩
    · rw [get_eq hj']; exact mem_erase (List.getElem_mem hj')
    · have := u.1; rw [get_eq hj] at this; exact this.symm
    · have := u.2; rw [get_eq hj] at this; exact this

theorem Seen.del {T : Nat → Nat → Int} {G' : Gr} (h : Seen G T) (k : ∀ f, f ∈ G'.edges → ∃ e, e ∈ G.edges ∧ key e = key f ∧ e.lev ≤ f.lev) : Seen G' T := by
  intro f hf
  obtain ⟨e, h1, h2, h3⟩ := k f hf
  have := h e h1
  have q1 : e.u = f.u := congrArg Prod.fst h2
  have q2 : e.v = f.v := congrArg Prod.snd h2
  rw [q1, q2] at this
  omega

theorem Seen.ins {T : Nat → Nat → Int} (h : Seen G T) (hI : GI G) {u v : Nat} (hno : findIx G.edges (min (u : Int) v) (max (u : Int) v) = -1) (c : Bool) : Seen (insG G u v c) (fun x y => if (x = u ∧ y = v) ∨ (x = v ∧ y = u) then 0 else T x y) := by
  intro f hf
  rw [insG_edges, List.mem_append, List.mem_singleton] at hf
  rcases hf with q | q
  · have b := hI.ed f q
    have := find_no hno f q
    show (if (f.u.toNat = u ∧ f.v.toNat = v) ∨ (f.u.toNat = v ∧ f.v.toNat = u) then (0 : Int) else T f.u.toNat f.v.toNat) ≤ f.lev
    rw [if_neg (by omega)]
    exact h f q
  · subst q
    show (if ((min (u : Int) v).toNat = u ∧ (max (u : Int) v).toNat = v) ∨ ((min (u : Int) v).toNat = v ∧ (max (u : Int) v).toNat = u) then (0 : Int) else _) ≤ 0
    rw [if_pos (by omega)]
    exact Int.le_refl _
end

end Go.Proofs.Ytckallochdegiab
