import Derived.Test.YtfgahilgjpjncaaSearchW
namespace Go.Proofs.Ytfgahilgjpjncaa
set_option linter.unusedVariables false
set_option linter.unusedSimpArgs false
open Go.RowKit

/-- No edge beside the forest of just level i is left between a and y. -/
def Done (G : Gr) (i : Nat) (a y : Int) : Prop := ∀ e, e ∈ G.edges → e.tree = false → e.lev = i → ¬ key e = (min a y, max a y)

/-- In the midst of the second walk round the lesser half. -/
structure PB (G0 G : Gr) (s o : Int) (i : Nat) (t0 t : List Itm) (m y : Nat) : Prop where
  mi : MI G s o i
  n : G.N = G0.N
  lvi : ∀ j, j ≤ i → lv G j = lv G0 j
  tl : G.tours.length = G0.tours.length
  up : G.edges.map key = G0.edges.map key
  au : ∀ z, z ∈ t0 → Same (lv G (i + 1)) s z.1
  dn : ∀ j, j < m → (t[j]?.getD (0, 0)).2 < 0 → ∀ y' : Nat, y' < G0.N → Done G i (t[j]?.getD (0, 0)).1 y'
  dm : ∀ y' : Nat, y' < y → Done G i (t[m]?.getD (0, 0)).1 y'

theorem lesser_log {G : Gr} (h1 : 1 ≤ G.N) {t0 : List Itm} {s : Int} {i : Nat} (hs : (s, -1) ∈ t0) (hsz : sizeV t0 * 2 ^ (i + 1) ≤ G.N) : i + 1 ≤ Nat.log2 G.N := by
  have : 1 ≤ sizeV t0 := by
    have := nodup_len (l := [(s, -1)]) (m := t0.filter fun x => decide (x.2 < 0)) (by simp) (fun x hx => by
      simp only [List.mem_singleton] at hx; subst hx; simp [List.mem_filter, hs])
    simpa [sizeV] using this
  have h2 : 2 ^ (i + 1) ≤ G.N := Nat.le_trans (Nat.le_mul_of_pos_left _ (by omega)) hsz
  exact (Nat.le_log2 (by omega)).2 h2

section
variable {G0 G : Gr} {s o : Int} {i : Nat} {t0 t : List Itm} {m y : Nat}

theorem PA.begin_ (h : PA G0 G s o i t0 t t.length) (hs : t0 ∈ lv G0 i) (hsv : (s, -1) ∈ t0) (hsz : sizeV t0 * 2 ^ (i + 1) ≤ G0.N) (hrot : Rot t0 t) : PB G0 G s o i t0 t 0 0 := by
  have hi := lesser_log (G := G) (i := i) h.mi.gi.n1 hsv (by rw [h.n]; exact hsz)
  refine ⟨h.mi, h.n, h.lvi, h.tl, up_key h.up, ?_, fun j hj => by omega, fun y hy => by omega⟩
  refine h.mi.all_up (by rw [h.lvi i (Nat.le_refl _)]; exact hs) hi hsv ?_
  intro x hx hlt e he hk
  obtain ⟨j, hj, hje⟩ := List.mem_iff_getElem.1 ((hrot.mem x).1 hx)
  have e1 : t[j]?.getD (0, 0) = x := by rw [get_eq hj]; exact hje
  exact h.done j hj (by rw [e1]; exact hlt) e he (by rw [e1]; exact hk)

theorem PB.skip (h : PB G0 G s o i t0 t m y) (hd : Done G i (t[m]?.getD (0, 0)).1 y) : PB G0 G s o i t0 t m (y + 1) :=
  ⟨h.mi, h.n, h.lvi, h.tl, h.up, h.au, h.dn, fun y' hy => by
    by_cases c : y' = y
    · subst c; exact hd
    · exact h.dm y' (by omega)⟩

theorem PB.next (h : PB G0 G s o i t0 t m y) (hy : (t[m]?.getD (0, 0)).2 < 0 → G0.N ≤ y) : PB G0 G s o i t0 t (m + 1) 0 :=
  ⟨h.mi, h.n, h.lvi, h.tl, h.up, h.au, fun j hj h2 y' hy' => by
    by_cases c : j = m
    · subst c; exact h.dm y' (by have := hy h2; omega)
    · exact h.dn j (by omega) h2 y' hy', fun y' hy' => by omega⟩

theorem done_raise {k : Nat} {e : Edg} (hl : e.lev = i) {a y' : Int} (h : Done G i a y') : Done (setE G k { e with lev := e.lev + 1 }) i a y' := by
  intro f hf ft fl
  rcases mem_set hf with rfl | ⟨j, hj, _, rfl⟩
  · exfalso
    have : e.lev + 1 = (i : Int) := fl
    omega
  · exact h _ (by rw [get_eq hj]; exact List.getElem_mem hj) ft fl

theorem PB.raise (h : PB G0 G s o i t0 t m y) (hs : t0 ∈ lv G0 i) (hsv : (s, -1) ∈ t0) (hsz : sizeV t0 * 2 ^ (i + 1) ≤ G0.N) {k : Nat} {e : Edg} (hk : k < G.edges.length) (he : G.edges[k]?.getD e0 = e) (ht : e.tree = false) (hl : e.lev = i)
    (hkey : key e = (min (t[m]?.getD (0, 0)).1 y, max (t[m]?.getD (0, 0)).1 y)) (hu : (e.u, -1) ∈ t0) (hv : (e.v, -1) ∈ t0) : PB G0 (setE G k { e with lev := e.lev + 1 }) s o i t0 t m (y + 1) := by
  have hi := lesser_log (G := G) (i := i) h.mi.gi.n1 hsv (by rw [h.n]; exact hsz)
  have L1 := h.mi.gi.li (i + 1) hi
  have sm : Same (lv G (i + 1)) e.u e.v := L1.same_trans (h.au _ hu).symm (h.au _ hv)
  refine ⟨h.mi.raise_step hk he ht hl hi sm, h.n, h.lvi, h.tl, ?_, h.au, fun j hj h2 y' hy' => done_raise hl (h.dn j hj h2 y' hy'), fun y' hy' => ?_⟩
  · show (G.edges.set k _).map key = _
    rw [key_set hk (by rw [he]; rfl)]; exact h.up
  · by_cases c : y' = y
    · subst c
      intro f hf ft fl q
      rcases mem_set hf with rfl | ⟨j, hj, hjk, rfl⟩
      · have : e.lev + 1 = (i : Int) := fl
        omega
      · have hem : e ∈ G.edges := by rw [← he, get_eq hk]; exact List.getElem_mem hk
        have : G.edges[j]?.getD e0 = e := nd_eq h.mi.gi.nd (by rw [get_eq hj]; exact List.getElem_mem hj) hem (by rw [q, hkey])
        have nd := h.mi.gi.nd
        rw [List.Nodup, List.pairwise_map, List.pairwise_iff_getElem] at nd
        rw [get_eq hj] at this
        have he2 := he
        rw [get_eq hk] at he2
        by_cases d : j < k
        · exact nd j k hj hk d (by rw [this, he2])
        · exact nd k j hk hj (by omega) (by rw [this, he2])
    · exact done_raise hl (h.dm y' (by omega))

/-- Nothing to do at a pair. -/
theorem done_no {G : Gr} {i : Nat} {a y : Int} (h : findIx G.edges (min a y) (max a y) = -1) : Done G i a y := fun e he _ _ q => find_no h e he ⟨congrArg Prod.fst q, congrArg Prod.snd q⟩
theorem done_one {G : Gr} (hI : GI G) {i k : Nat} {a y : Int} (h : findIx G.edges (min a y) (max a y) = k) (hd : (G.edges[k]?.getD e0).tree = true ∨ (G.edges[k]?.getD e0).lev ≠ i) : Done G i a y := by
  intro e he ht hl q
  obtain ⟨k1, k2, k3⟩ := find_ge h
  have : e = G.edges[k]?.getD e0 := nd_eq hI.nd he (by rw [get_eq k1]; exact List.getElem_mem k1) (by rw [q]; exact (Prod.ext k2 k3).symm)
  subst this
  rcases hd with d | d
  · rw [d] at ht; simp at ht
  · exact d hl

theorem PB.end_ (h : PB G0 G s o i t0 t t.length 0) (hs : t0 ∈ lv G0 i) (hsv : (s, -1) ∈ t0) (hrot : Rot t0 t) :
    ∀ e, e ∈ G.edges → e.tree = false → e.lev = i → ¬ Same (lv G i) e.u s ∧ ¬ Same (lv G i) e.v s := by
  intro e he ht hl
  have b := h.mi.gi.ed e he
  have L := h.mi.gi.li i h.mi.il
  have hs' : t0 ∈ lv G i := by rw [h.lvi i (Nat.le_refl _)]; exact hs
  have key1 : ∀ a c : Int, Same (lv G i) a s → 0 ≤ c → c < G.N → Done G i a c := by
    rintro a c ⟨t1, p1, p2, p3⟩ c0 c1
    have := L.uniq p1 hs' p3 hsv rfl
    rw [this] at p2
    obtain ⟨j, hj, hje⟩ := List.mem_iff_getElem.1 ((hrot.mem _).1 p2)
    have e1 : t[j]?.getD (0, 0) = (a, -1) := by rw [get_eq hj]; exact hje
    have := h.dn j hj (by rw [e1]; show (-1 : Int) < 0; omega) c.toNat (by rw [← h.n]; omega)
    rw [e1, Int.toNat_of_nonneg c0] at this
    exact this
  constructor
  · intro q
    refine key1 e.u e.v q (by omega) (by omega) e he ht hl ?_
    rw [Int.min_eq_left (by omega), Int.max_eq_right (by omega)]; rfl
  · intro q
    refine key1 e.v e.u q (by omega) (by omega) e he ht hl ?_
    rw [Int.min_eq_right (by omega), Int.max_eq_left (by omega)]; rfl
end

end Go.Proofs.Ytfgahilgjpjncaa
