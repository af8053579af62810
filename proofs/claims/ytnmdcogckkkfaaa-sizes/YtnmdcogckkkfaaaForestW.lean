import Derived.Test.YtnmdcogckkkfaaaCut
import Derived.Test.YtnmdcogckkkfaaaFind
namespace Go.Proofs.Ytnmdcogckkkfaaa
set_option linter.unusedVariables false
set_option linter.unusedSimpArgs false
open Go.RowKit

theorem set_set_edge (es : List Edg) (k : Nat) (hk : k < es.length) (x : Int) :
    (es.set k { es[k]?.getD e0 with tree := true }).set k { (es.set k { es[k]?.getD e0 with tree := true })[k]?.getD e0 with lev := x } = es.set k ⟨(es[k]?.getD e0).u, (es[k]?.getD e0).v, x, true⟩ := by
  rw [List.getElem?_set, if_pos rfl, if_pos hk, List.set_set]; rfl

section
variable {w w' : World} {g : Nat} {G : Gr} {ev : Value} {tb tcap : Nat} {F : Nat → Value} {pr : Int} {i : Nat}

/-- The edges are changed in place. -/
theorem GRep.setEs (h : GRep w g G ev tb tcap F pr) {es : List Edg} (he : Edges w' ev es) (hb : But (fun k => ev.ownBlock = some k) w w') : GRep w' g { G with edges := es } ev tb tcap F pr := by
  have n1 := fun k (hk : ev.ownBlock = some k) => h.ed.notIn (rowIs_ty h.rg) (by decide) k hk
  have n2 := fun k (hk : ev.ownBlock = some k) => h.ed.notIn (rowIs_ty h.rt) (by decide) k hk
  have nt : NoTour (fun k => ev.ownBlock = some k) w := by
    intro k hk _
    rcases h.ed with ⟨q, _⟩ | ⟨eb, cap, q⟩
    · rw [q] at hk; simp [Value.ownBlock] at hk
    · rw [q.own] at hk
      simp only [Option.some.injEq] at hk
      subst hk
      exact ⟨fun p => q.tya.ne p (by decide) rfl, fun p => q.tya.ne p (by decide) rfl⟩
  exact ⟨row_but h.rg hb (fun q => n1 g q rfl), he, row_but h.rt hb (fun q => n2 tb q rfl), h.tl, h.tm, fun j hj => (h.ti j hj).but hb nt⟩
end

set_option maxRecDepth 100000 in
set_option maxHeartbeats 2000000 in
theorem forest_G (w : World) (g tb tcap eb ecap k i : Nat) (G : Gr) (F : Nat → Value) (pr x y : Int) (h : GRep w g G (.slice (some ⟨eb, 0, none⟩) G.edges.length ecap) tb tcap F pr) (hEA : EAt w (.slice (some ⟨eb, 0, none⟩) G.edges.length ecap) G.edges eb ecap)
    (hk : findIx G.edges (min x y) (max x y) = k) (hi : i < G.tours.length) (hN : G.N ≤ 48) (hi6 : i ≤ 6)
    (L : ∀ j, j ≤ i → LI G.N (G.edges.set k ⟨(G.edges[k]?.getD e0).u, (G.edges[k]?.getD e0).v, i, true⟩) j (lv G j))
    (hE : ∀ e, e ∈ G.edges.set k ⟨(G.edges[k]?.getD e0).u, (G.edges[k]?.getD e0).v, i, true⟩ → 0 ≤ e.u ∧ e.u < G.N ∧ 0 ≤ e.v ∧ e.v < G.N) (hx0 : 0 ≤ x) (hx1 : x < G.N) (hy0 : 0 ≤ y) (hy1 : y < G.N) :
    Calls Try.prog 69 #[ptr g, .int .i64 x, .int .i64 y, .int .i64 i] w fun e w' => e = .returned (.tuple #[]) ∧ (∃ F', GRep w' g (lnks (setE G k ⟨(G.edges[k]?.getD e0).u, (G.edges[k]?.getD e0).v, i, true⟩) x y (i + 1)) (.slice (some ⟨eb, 0, none⟩) G.edges.length ecap) tb tcap F' pr) ∧ But (fun k => k = tb ∨ k = eb) w w' := by
  obtain ⟨kl, _, _⟩ := find_ge hk
  have HG := hid h
  have HEA := hid hEA
  have HK := hid hk
  have HL := hid L
  have HEr := hid hE
  have e1 := hEA.le
  have e2 := hEA.mx
  unfold maxLen at e2
  clear h hEA hk L hE
  go_enter Try.func69, Try.ntmps69
  go_wp2_with fail
  refine (Find_any g x y G.edges _ w HG.out.c1 HG.out.ed).mono ?_
  rintro e w1 ⟨rfl, hb1⟩
  rw [HK.out]
  have HG1 := hid (HG.out.below hb1)
  have HE1 := hid (HEA.out.below hb1 (Nat.le_refl _))
  have HB1 := hid hb1
  clear hb1
  have d1 := HG1.out.c1
  have t3 : w1.cell? ⟨eb, k * 4 + 3, none⟩ = some (.bool (G.edges[k]?.getD e0).tree) := HE1.out.c3 k kl
  have fz : ∀ o, w1.frozen? ⟨eb, o, none⟩ = false := by
    intro o
    obtain ⟨c, hc, _⟩ := HE1.out.ty
    simp [World.frozen?, hc]
  have HE2 := hid (HE1.out.setTree kl true)
  have t2 : (w1.setCell ⟨eb, k * 4 + 3, none⟩ (.bool true)).cell? ⟨eb, k * 4 + 2, none⟩ = some (.int .i64 (G.edges[k]?.getD e0).lev) := by
    have := HE2.out.c2 k (by simpa using kl)
    rw [List.getElem?_set, if_pos rfl, if_pos kl] at this
    exact this
  have kf := far (show eb ≠ g from (HE1.out.tya).ne (rowIs_ty HG1.out.rg) (by decide))
  have kli : (k : Int) < (G.edges.length : Int) := by omega
  have HG3 : Hid (GRep ((w1.setCell ⟨eb, k * 4 + 3, none⟩ (.bool true)).setCell ⟨eb, k * 4 + 2, none⟩ (.int .i64 i)) g (setE G k ⟨(G.edges[k]?.getD e0).u, (G.edges[k]?.getD e0).v, i, true⟩) (.slice (some ⟨eb, 0, none⟩) G.edges.length ecap) tb tcap F pr) := by
    have q := HE2.out.setLev (k := k) (by simpa using kl) i
    rw [set_set_edge _ _ kl] at q
    refine HG1.out.setEs (Or.inr ⟨eb, ecap, q⟩) (((But.setCell w1 ⟨eb, k * 4 + 3, none⟩ (.bool true)).same (But.setCell _ ⟨eb, k * 4 + 2, none⟩ (.int .i64 i))).wide ?_)
    intro j _ hj
    show some eb = some j
    rw [hj]
  have HB3 : Hid (But (fun k => k = tb ∨ k = eb) w ((w1.setCell ⟨eb, k * 4 + 3, none⟩ (.bool true)).setCell ⟨eb, k * 4 + 2, none⟩ (.int .i64 i))) :=
    (But.of HB1.out).trans ((But.setCell w1 ⟨eb, k * 4 + 3, none⟩ (.bool true)).same (But.setCell _ ⟨eb, k * 4 + 2, none⟩ (.int .i64 i))) (fun j _ q => Or.inr q)
  go_wp2_with fail
  clear d1 t3 fz t2 kf HE2 HG1 HE1
  generalize (w1.setCell ⟨eb, k * 4 + 3, none⟩ (.bool true)).setCell ⟨eb, k * 4 + 2, none⟩ (.int .i64 i) = w3 at HG3 HB3 ⊢
  obtain ⟨G1, hG1⟩ : ∃ G1, G1 = setE G k ⟨(G.edges[k]?.getD e0).u, (G.edges[k]?.getD e0).v, i, true⟩ := ⟨_, rfl⟩
  have len1 : G1.tours.length = G.tours.length := by rw [hG1]; rfl
  have n1 : G1.N = G.N := by rw [hG1]; rfl
  have lv1 : ∀ j, lv G1 j = lv G j := fun j => by rw [hG1]; rfl
  rw [← hG1] at HG3
  have HG1' := hid hG1
  clear hG1
  have HS := hid (And.intro len1 (And.intro n1 lv1))
  clear len1 n1 lv1
  go_loopw [9] (fun q wr => ∃ m : Nat, m ≤ i + 1 ∧ q = .int .i64 m ∧ Hid (∃ F', GRep wr g (lnks G1 x y m) (.slice (some ⟨eb, 0, none⟩) G.edges.length ecap) tb tcap F' pr) ∧ Hid (But (fun k => k = tb ∨ k = eb) w wr)) (fun q _ => i + 1 - (intOf q).toNat)
  case atStart => exact ⟨0, by omega, rfl, ⟨F, HG3.out⟩, HB3⟩
  case round =>
    obtain ⟨m, hm, rfl, hG, hB⟩ := hrel
    by_cases hlt : m ≤ i
    · have hlt' : (m : Int) ≤ (i : Int) := by omega
      obtain ⟨F', hG'⟩ := hG.out
      have HGm := hid hG'
      clear hG' hG
      go_wp2_with fail
      obtain ⟨len1, n1, lv1⟩ := HS.out
      have lvm : lv (lnks G1 x y m) m = lv G m := by rw [lnks_lv _ _ _ _ (by omega), if_neg (Nat.lt_irrefl m), lv1]
      refine (Link_G (es := G.edges.set k ⟨(G.edges[k]?.getD e0).u, (G.edges[k]?.getD e0).v, i, true⟩) HGm.out (i := m) (by rw [lnks_len]; omega) (by rw [lnks_N, n1]; exact hN) (by rw [lvm, lnks_N, n1]; exact HL.out m hlt) (by rw [lnks_N, n1]; exact HEr.out) hx0 (by rw [lnks_N, n1]; exact hx1) hy0 (by rw [lnks_N, n1]; exact hy1)).mono ?_
      rintro e w4 ⟨rfl, hF4, hB4⟩
      have HF4 : Hid (∃ F', GRep w4 g (lnks G1 x y (m + 1)) (.slice (some ⟨eb, 0, none⟩) G.edges.length ecap) tb tcap F' pr) := hF4
      have HB5 : Hid (But (fun k => k = tb ∨ k = eb) w w4) := hB.out.trans hB4 (fun _ _ q => Or.inl q)
      clear hF4 hB4 lvm len1 n1 lv1 hB HGm
      go_wp2
      go_roundw
      case rel => exact ⟨m + 1, by omega, by go_num, HF4, HB5⟩
      case measure => simp [intOf]; omega
    · have hmi : m = i + 1 := by omega
      have HR : Hid ((∃ F', GRep wr g (lnks (setE G k ⟨(G.edges[k]?.getD e0).u, (G.edges[k]?.getD e0).v, i, true⟩) x y (i + 1)) (.slice (some ⟨eb, 0, none⟩) G.edges.length ecap) tb tcap F' pr) ∧ But (fun k => k = tb ∨ k = eb) w wr) := by
        rw [← HG1'.out, ← hmi]; exact ⟨hG.out, hB.out⟩
      clear hmi hG hB
      go_wp2
      go_end0
      exact ⟨rfl, HR.out.1, HR.out.2⟩

end Go.Proofs.Ytnmdcogckkkfaaa
