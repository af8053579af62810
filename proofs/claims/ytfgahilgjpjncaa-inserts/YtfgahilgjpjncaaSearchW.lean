import Derived.Test.YtfgahilgjpjncaaInsertW
import Derived.Test.YtfgahilgjpjncaaTour2
namespace Go.Proofs.Ytfgahilgjpjncaa
set_option linter.unusedVariables false
set_option linter.unusedSimpArgs false
open Go.RowKit

section
variable {w w' : World} {g : Nat} {G : Gr} {ev : Value} {tb tcap : Nat} {F : Nat → Value} {pr : Int} {i : Nat}

theorem Edges.at_ {es : List Edg} (h : Edges w ev es) {k : Nat} (hk : k < es.length) : ∃ eb cap, EAt w ev es eb cap ∧ ev = .slice (some ⟨eb, 0, none⟩) es.length cap := by
  rcases h with ⟨_, rfl⟩ | ⟨eb, cap, h⟩
  · simp at hk
  · exact ⟨eb, cap, h, h.hv⟩

theorem GRep.setLev (h : GRep w g G ev tb tcap F pr) {eb cap k : Nat} (hE : EAt w ev G.edges eb cap) (hk : k < G.edges.length) (x : Int) :
    GRep (w.setCell ⟨eb, k * 4 + 2, none⟩ (.int .i64 x)) g (setE G k { G.edges[k]?.getD e0 with lev := x }) ev tb tcap F pr :=
  h.setEs (Or.inr ⟨eb, cap, hE.setLev hk x⟩) ((But.setCell w ⟨eb, k * 4 + 2, none⟩ (.int .i64 x)).wide (fun j _ q => by rw [hE.own]; show some eb = some j; rw [q]))

theorem GRep.setPr (h : GRep w g G ev tb tcap F pr) (p : Int) : GRep (w.setCell ⟨g, 3, none⟩ (.int .i64 p)) g G ev tb tcap F p := by
  have bs := But.setCell w ⟨g, 3, none⟩ (.int .i64 p)
  have ntg : NoTour (fun k => k = g) w := noTour_one (rowIs_ty h.rg) (by decide) (by decide)
  refine ⟨(h.rg.set 3 _).congr ?_, h.ed.but bs (fun k hk q => h.ed.notIn (rowIs_ty h.rg) (by decide) k hk q), row_but h.rt bs h.gtb.symm, h.tl, h.tm, fun j hj => (h.ti j hj).but bs ntg⟩
  intro j hj
  simp only [gf]
  by_cases q : j = 3
  · subst q; simp
  · simp only [q, if_false]
    match j, hj with
    | 0, _ => simp
    | 1, _ => simp
    | 2, _ => simp
    | 3, _ => exact absurd rfl q

theorem noTour_own (h : GRep w g G ev tb tcap F pr) : NoTour (Own g tb ev) w := by
  intro k hk lt
  rcases hk with rfl | rfl | hk
  · exact ⟨fun q => q.ne (rowIs_ty h.rg) (by decide) rfl, fun q => q.ne (rowIs_ty h.rg) (by decide) rfl⟩
  · exact ⟨fun q => q.ne (rowIs_ty h.rt) (by decide) rfl, fun q => q.ne (rowIs_ty h.rt) (by decide) rfl⟩
  · rcases h.ed with ⟨q, _⟩ | ⟨eb, cap, q⟩
    · rw [q] at hk; simp [Value.ownBlock] at hk
    · rw [q.own] at hk
      simp only [Option.some.injEq] at hk
      subst hk
      exact ⟨fun p => q.tya.ne p (by decide) rfl, fun p => q.tya.ne p (by decide) rfl⟩

/-- Two stores of a rise: the level, the count. -/
theorem GRep.rise2 (h : GRep w g G ev tb tcap F pr) {eb cap k : Nat} (hE : EAt w ev G.edges eb cap) (hk : k < G.edges.length) (x p : Int) :
    GRep ((w.setCell ⟨eb, k * 4 + 2, none⟩ (.int .i64 x)).setCell ⟨g, 3, none⟩ (.int .i64 p)) g (setE G k { G.edges[k]?.getD e0 with lev := x }) ev tb tcap F p ∧
    But (Own g tb ev) w ((w.setCell ⟨eb, k * 4 + 2, none⟩ (.int .i64 x)).setCell ⟨g, 3, none⟩ (.int .i64 p)) := by
  refine ⟨(h.setLev hE hk x).setPr p, ((But.setCell w ⟨eb, k * 4 + 2, none⟩ (.int .i64 x)).wide (fun j _ q => Or.inr (Or.inr (by rw [hE.own]; show some eb = some j; rw [q])))).trans (But.setCell _ ⟨g, 3, none⟩ (.int .i64 p)) (fun _ _ q => Or.inl q)⟩
end

theorem up_key {es es' : List Edg} (h : Up es es') : es'.map key = es.map key := by
  apply List.ext_getElem
  · simp [h.1]
  · intro n h1 h2
    simp only [List.length_map] at h1 h2
    simp only [List.getElem_map]
    have := (h.2 n h2).1
    rw [get_eq h2, get_eq h1] at this
    exact this

theorem fromX_rot' (t : List Itm) (x : Itm) : Rot t (fromX t x) := fromX_rot t x

/-- In the midst of the first walk round the lesser half. -/
structure PA (G0 G : Gr) (s o : Int) (i : Nat) (t0 t : List Itm) (m : Nat) : Prop where
  mi : MI G s o i
  n : G.N = G0.N
  lvi : ∀ j, j ≤ i → lv G j = lv G0 j
  tl : G.tours.length = G0.tours.length
  up : Up G0.edges G.edges
  done : ∀ j, j < m → (t[j]?.getD (0, 0)).1 < (t[j]?.getD (0, 0)).2 → ∀ e, e ∈ G.edges → key e = t[j]?.getD (0, 0) → (i : Int) + 1 ≤ e.lev

theorem riseT_len (i : Nat) (G : Gr) (x : Itm) : (riseT i G x).tours.length = G.tours.length := by
  unfold riseT
  split
  · split
    · simp [lnk, setT, setE]
    · rfl
  · rfl

theorem PA.step {G0 G : Gr} {s o : Int} {i : Nat} {t0 t : List Itm} {m : Nat} (h : PA G0 G s o i t0 t m) (hs : t0 ∈ lv G0 i) (hsz : sizeV t0 * 2 ^ (i + 1) ≤ G0.N) (hrot : Rot t0 t) (hm : m < t.length) :
    PA G0 (riseT i G (t[m]?.getD (0, 0))) s o i t0 t (m + 1) := by
  have hx : t[m]?.getD (0, 0) ∈ t0 := by rw [get_eq hm]; exact (hrot.mem _).2 (List.getElem_mem hm)
  obtain ⟨a1, a2, a3, a4, a5⟩ := h.mi.rise_step (t0 := t0) (by rw [h.lvi i (Nat.le_refl _)]; exact hs) (by rw [h.n]; exact hsz) hx
  refine ⟨a1, a4.trans h.n, fun j hj => (a2 j (by omega)).trans (h.lvi j hj), (riseT_len _ _ _).trans h.tl, h.up.trans a3, ?_⟩
  intro j hj hlt e he hke
  by_cases c : j = m
  · subst c
    obtain ⟨k, f, k1, k2, k3, k4, k5, k6, k7, _⟩ := a5 hlt
    have kl : k < (riseT i G (t[j]?.getD (0, 0))).edges.length := by rw [a3.1]; exact k1
    have q : key ((riseT i G (t[j]?.getD (0, 0))).edges[k]?.getD e0) = key e := by
      rw [(a3.2 k k1).1, k3, hke]; exact Prod.ext k4 k5
    have := nd_eq a1.gi.nd (by rw [get_eq kl]; exact List.getElem_mem kl) he q
    rw [← this]; exact k7
  · -- it was done before, and has not fallen
    obtain ⟨n, hn, rfl⟩ := List.mem_iff_getElem.1 he
    have hn' : n < G.edges.length := by rw [← a3.1]; exact hn
    have q := a3.2 n hn'
    rw [get_eq hn] at q
    have := h.done j (by omega) hlt (G.edges[n]?.getD e0) (by rw [get_eq hn']; exact List.getElem_mem hn') (by rw [← q.1]; exact hke)
    have := q.2.2
    omega

end Go.Proofs.Ytfgahilgjpjncaa
