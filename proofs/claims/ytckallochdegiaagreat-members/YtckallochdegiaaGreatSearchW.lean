import Derived.Test.YtckallochdegiaaGreatForestW
import Derived.Test.YtckallochdegiaaGreatTour2
namespace Go.Proofs.YtckallochdegiaaGreat
set_option linter.unusedVariables false
set_option linter.unusedSimpArgs false
open Go.RowKit

section
variable {w w' : World} {g : Nat} {G : Gr} {ev : Value} {tb tcap : Nat} {F : Nat → Value} {pr : Int} {i : Nat}

theorem Edges.at_ {es : List Edg} (h : Edges w ev es) {k : Nat} (hk : k < es.length) : ∃ eb cap, EAt w ev es eb cap ∧ ev = .slice (some ⟨eb, 0, none⟩) es.length cap := by
  rcases h with ⟨_, rfl⟩ | ⟨eb, cap, h⟩
  · simp at hk
  · exact ⟨eb, cap, h, h.hv⟩

theorem GRep.setLev (h : GRep w g G ev tb tcap F pr) {eb cap k : Nat} (hE : EAt w ev G.edges eb cap) (hk : k < G.edges.length) (x : Int) :
    GRep (w.setCell ⟨eb, k * 4 + 2, none⟩ (.int .i64 x)) g (setE G k { G.edges[k]?.getD e0 with lev := x }) ev tb tcap F pr :=
  h.setEs (Or.inr ⟨eb, cap, hE.setLev hk x⟩) ((But.setCell w ⟨eb, k * 4 + 2, none⟩ (.int .i64 x)).wide (fun j _ q => by rw [hE.own]; show some eb = some j; rw [q]))

theorem GRep.setPr (h : GRep w g G ev tb tcap F pr) (p : Int) : GRep (w.setCell ⟨g, 3, none⟩ (.int .i64 p)) g G ev tb tcap F p := by
  have bs := But.setCell w ⟨g, 3, none⟩ (.int .i64 p)
  have ntg : NoTour (fun k => k = g) w := noTour_one (rowIs_ty h.rg) (by decide) (by decide)
  refine ⟨(h.rg.set 3 _).congr ?_, h.ed.but bs (fun k hk q => h.ed.notIn (rowIs_ty h.rg) (by decide) k hk q), row_but h.rt bs h.gtb.symm, h.tl, h.tm, fun j hj => (h.ti j hj).but bs ntg⟩
  intro j hj
  simp only [gf]
  by_cases q : j = 3
  · subst q; simp
  · simp only [q, if_false]
    match j, hj with
    | 0, _ => simp
    | 1, _ => simp
    | 2, _ => simp
    | 3, _ => exact absurd rfl q

theorem noTour_own (h : GRep w g G ev tb tcap F pr) : NoTour (Own g tb ev) w := by
  intro k hk lt
  rcases hk with rfl | rfl | hk
  · exact ⟨fun q => q.ne (rowIs_ty h.rg) (by decide) rfl, fun q => q.ne (rowIs_ty h.rg) (by decide) rfl⟩
  · exact ⟨fun q => q.ne (rowIs_ty h.rt) (by decide) rfl, fun q => q.ne (rowIs_ty h.rt) (by decide) rfl⟩
  · rcases h.ed with ⟨q, _⟩ | ⟨eb, cap, q⟩
    · rw [q] at hk; simp [Value.ownBlock] at hk
    · rw [q.own] at hk
      simp only [Option.some.injEq] at hk
      subst hk
      exact ⟨fun p => q.tya.ne p (by decide) rfl, fun p => q.tya.ne p (by decide) rfl⟩

/-- Two stores of a rise: the level, the count. -/
theorem GRep.rise2 (h : GRep w g G ev tb tcap F pr) {eb cap k : Nat} (hE : EAt w ev G.edges eb cap) (hk : k < G.edges.length) (x p : Int) :
    GRep ((w.setCell ⟨eb, k * 4 + 2, none⟩ (.int .i64 x)).setCell ⟨g, 3, none⟩ (.int .i64 p)) g (setE G k { G.edges[k]?.getD e0 with lev := x }) ev tb tcap F p ∧
    But (Own g tb ev) w ((w.setCell ⟨eb, k * 4 + 2, none⟩ (.int .i64 x)).setCell ⟨g, 3, none⟩ (.int .i64 p)) := by
  refine ⟨(h.setLev hE hk x).setPr p, ((But.setCell w ⟨eb, k * 4 + 2, none⟩ (.int .i64 x)).wide (fun j _ q => Or.inr (Or.inr (by rw [hE.own]; show some eb = some j; rw [q])))).trans (But.setCell _ ⟨g, 3, none⟩ (.int .i64 p)) (fun _ _ q => Or.inl q)⟩
end

end Go.Proofs.YtckallochdegiaaGreat
namespace Go.Proofs.YtckallochdegiaaGreat
set_option linter.unusedVariables false
set_option linter.unusedSimpArgs false
open Go.RowKit

set_option maxRecDepth 100000 in
set_option maxHeartbeats 8000000 in
theorem search_F (w : World) (g tb tcap i : Nat) (G : Gr) (ev : Value) (F : Nat → Value) (pr s o : Int) (t0 : List Itm) (h : GRep w g G ev tb tcap F pr) (hM : MI G s o i)
    (hs : t0 ∈ lv G i) (hsv : (s, -1) ∈ t0) (hsz : sizeV t0 * 2 ^ (i + 1) ≤ G.N) :
    Calls Tryz.prog 100 #[ptr g, .int .i64 i, .int .i64 s] w fun e w' => ∃ f : Bool, e = .returned (.bool f) ∧ (∃ G' F' pr', GRep w' g G' ev tb tcap F' pr' ∧ searchF i s G.N (fromX t0 (leastV t0 s, -1)) (G, pr) = (f, G', pr') ∧ SEnd G s o i f G') ∧ But (Own g tb ev) w w' := by
  have n48 := hM.gi.n48
  have L := hM.gi.li i hM.il
  have il := hM.il
  have ilt : i < G.tours.length := by rw [hM.gi.tl]; omega
  have i6 : i ≤ 6 := by
    have : Nat.log2 G.N ≤ 5 := by
      have := Nat.log2_self_le (n := G.N) (by have := hM.gi.n1; omega)
      by_cases c : Nat.log2 G.N ≤ 5
      · exact c
      · have : 2 ^ 6 ≤ 2 ^ Nat.log2 G.N := Nat.pow_le_pow_right (by omega) (by omega)
        omega
    omega
  have tlen := L.len n48 hM.gi.rngE hs
  obtain ⟨ks, hks, ixs, eqs⟩ := L.ix hs hsv
  obtain ⟨lb, lcap, f, hF, hLv⟩ := h.lvl ilt
  obtain ⟨t, ht⟩ : ∃ t, t = fromX t0 (leastV t0 s, -1) := ⟨_, rfl⟩
  have rot : Rot t0 t := by rw [ht]; exact fromX_rot' _ _
  have tlen2 : t.length ≤ 2352 := by rw [rot.length]; exact tlen
  have HT := hid ht
  have HRot := hid rot
  have HG := hid h
  have HM := hid hM
  have HLv := hid hLv
  have HIX := hid (And.intro ixs eqs)
  have HS := hid (And.intro hs (And.intro hsv hsz))
  clear h hM L hLv ixs eqs hs hsv hsz ht rot hF
  go_enter Tryz.func100, Tryz.ntmps100
  go_wp2_with fail
  refine (Tour_any g tb tcap G.tours.length i lb lcap (lv G i) f s ks t0 w HLv.out HIX.out.1 hks HIX.out.2 (by omega)).mono ?_
  rintro e w1 ⟨v', rfl, hI, hb1⟩
  rw [← HT.out] at hI
  obtain ⟨xb, xo, xc, hx⟩ := hI
  have hxv := hx.hv
  subst hxv
  have HX := hid hx
  have x1 := hx.le
  have x2 := hx.mx
  unfold maxLen at x2
  have HG1 := hid (HG.out.below hb1)
  have HB1 : Hid (But (Own g tb ev) w w1) := But.of hb1
  clear hx hb1
  go_wp2_with fail
  go_loopw [21] (fun q wr => ∃ m : Nat, m ≤ t.length ∧ q = .int .i64 m ∧ Hid (∃ G' F' pr', GRep wr g G' ev tb tcap F' pr' ∧ (t.take m).foldl (riseP i) (G, pr) = (G', pr') ∧ PA G G' s o i t0 t m) ∧ Hid (ItemsAt wr (.slice (some ⟨xb, xo, none⟩) t.length xc) t xb xo xc) ∧ Hid (But (Own g tb ev) w wr)) (fun q _ => t.length - (intOf q).toNat)
  case atStart => exact ⟨0, by omega, rfl, ⟨G, F, pr, HG1.out, rfl, HM.out, rfl, fun _ _ => rfl, rfl, Up.refl _, fun j hj => by omega⟩, HX, HB1⟩
  case round =>
    obtain ⟨m, hm, rfl, hG, hX, hB⟩ := hrel
    clear HG1 HX HB1
    by_cases hlt : m < t.length
    · have hlt' : (m : Int) < (t.length : Int) := by omega
      obtain ⟨G', F', pr', hG', hXA, hPA⟩ := hG.out
      have HXs : Hid (∀ q, riseP i (G', pr') (t[m]?.getD (0, 0)) = q → (t.take (m + 1)).foldl (riseP i) (G, pr) = q) := fun q hq => by rw [take_fold hlt hXA]; exact hq
      have e0 := hX.out.c0 m hlt
      have e1 := hX.out.c1 m hlt
      have hst := hPA.step HS.out.1 HS.out.2.2 HRot.out hlt
      have hxm : t[m]?.getD (0, 0) ∈ t0 := by rw [get_eq hlt]; exact (HRot.out.mem _).2 (List.getElem_mem hlt)
      obtain ⟨_, _, _, _, hrise⟩ := hPA.mi.rise_step (t0 := t0) (by rw [hPA.lvi i (Nat.le_refl _)]; exact HS.out.1) (by rw [hPA.n]; exact HS.out.2.2) hxm
      have rg := ((hPA.mi.gi.li i hPA.mi.il).rng t0 (by rw [hPA.lvi i (Nat.le_refl _)]; exact HS.out.1) _ hxm).1
      have eR : riseT i G' (t[m]?.getD (0, 0)) = if (t[m]?.getD (0, 0)).1 < (t[m]?.getD (0, 0)).2 then (if (G'.edges[(findIx G'.edges (t[m]?.getD (0, 0)).1 (t[m]?.getD (0, 0)).2).toNat]?.getD Go.Proofs.YtckallochdegiaaGreat.e0).lev = i then lnk (setE G' (findIx G'.edges (t[m]?.getD (0, 0)).1 (t[m]?.getD (0, 0)).2).toNat { G'.edges[(findIx G'.edges (t[m]?.getD (0, 0)).1 (t[m]?.getD (0, 0)).2).toNat]?.getD Go.Proofs.YtckallochdegiaaGreat.e0 with lev := (G'.edges[(findIx G'.edges (t[m]?.getD (0, 0)).1 (t[m]?.getD (0, 0)).2).toNat]?.getD Go.Proofs.YtckallochdegiaaGreat.e0).lev + 1 }) (i + 1) (t[m]?.getD (0, 0)).1 (t[m]?.getD (0, 0)).2 else G') else G' := rfl
      have HST := hid hst
      have HPA := hid hPA
      have HGr := hid hG'
      have HRise := hid hrise
      have HER := hid eR
      have HRg := hid rg
      clear hG hst hPA hG' hxm hrise eR rg hXA
      obtain ⟨x, hx⟩ : ∃ x, x = t[m]?.getD (0, 0) := ⟨_, rfl⟩
      rw [← hx] at e0 e1 HST HRise HER HRg HXs
      clear hx
      obtain ⟨y1, y2⟩ := x
      simp only at e0 e1 HRise HER HRg
      by_cases hlt2 : y1 < y2
      · obtain ⟨k, e, k1, k2, k3, k4, k5, k6, _, k8⟩ := HRise.out hlt2
        have HK2 : Hid (findIx G'.edges (min y1 y2) (max y1 y2) = k) := by show _ = _; rw [Int.min_eq_left (by omega), Int.max_eq_right (by omega)]; exact k2
        have HER2 : Hid (riseT i G' (y1, y2) = if e.lev = i then lnk (setE G' k { e with lev := e.lev + 1 }) (i + 1) y1 y2 else G') := by show _ = _; rw [HER.out, if_pos hlt2, k2, Int.toNat_natCast, k3]
        have HPr : Hid (riseP i (G', pr') (y1, y2) = if e.lev = i then (riseT i G' (y1, y2), wrap64 (pr' + 1)) else (G', pr')) := by show _ = _; simp only [riseP]; rw [if_pos hlt2, k2, Int.toNat_natCast, k3]
        have HK3 := hid k3
        have HK4 := hid (And.intro k4 (And.intro k5 k6))
        have HK8 := hid k8
        clear k2 k3 k4 k5 k6 k8 HER HRise
        go_wp2_with fail
        refine (Find_any g y1 y2 G'.edges ev _ (HGr.out.below ((Below.refl _ _).alloc (Nat.le_refl _) _)).c1 (HGr.out.below ((Below.refl _ _).alloc (Nat.le_refl _) _)).ed).mono ?_
        rintro e' w2 ⟨rfl, hb2⟩
        rw [HK2.out]
        have HB2 := hid hb2
        have HBa : Hid (Below wr.heap.size wr w2) := ((Below.refl _ _).alloc (Nat.le_refl _) _).trans (hb2.mono (by simp))
        have HG2 := hid (HGr.out.below HBa.out)
        have z0 : w2.cell? ⟨wr.heap.size, 0, none⟩ = some (.int .i64 y1) := by rw [hb2.cell (p := ⟨wr.heap.size, 0, none⟩) (by simp), new_cell]; rfl
        have z1 : w2.cell? ⟨wr.heap.size, 1, none⟩ = some (.int .i64 y2) := by rw [hb2.cell (p := ⟨wr.heap.size, 1, none⟩) (by simp), new_cell]; rfl
        clear hb2 e0 e1
        obtain ⟨eb, cap, hE, hev⟩ := HG2.out.ed.at_ k1
        have d1 := HG2.out.c1
        rw [hev] at d1
        have HEv := hid hev
        have HEA := hid hE
        have l1 := hE.le
        have l2 := hE.mx
        unfold maxLen at l2
        have t2 : w2.cell? ⟨eb, k * 4 + 2, none⟩ = some (.int .i64 e.lev) := by rw [← HK3.out]; exact hE.c2 k k1
        have fz : ∀ o, w2.frozen? ⟨eb, o, none⟩ = false := by
          intro o
          obtain ⟨c, hc, _⟩ := hE.ty
          simp [World.frozen?, hc]
        clear hE hev
        have kl : (k : Int) < (G'.edges.length : Int) := by omega
        by_cases hl : e.lev = i
        · have HL := hid hl
          rw [hl] at t2
          clear hl
          have d3 := HG2.out.c3
          have fg := HG2.out.rg.frozen
          have glt : g < wr.heap.size := HGr.out.rg.lt
          have elt : eb < wr.heap.size ∧ eb ≠ g := by
            refine ⟨?_, HEA.out.tya.ne (rowIs_ty HG2.out.rg) (by decide)⟩
            rcases HGr.out.ed with ⟨q, _⟩ | ⟨eb2, cap2, q⟩
            · rw [HEv.out] at q; simp at q
            · have := q.hv; rw [HEv.out] at this
              simp only [Value.slice.injEq, Option.some.injEq, Addr.mk.injEq] at this
              rw [this.1.1]; exact q.lt
          have kf1 := far (show eb ≠ g from elt.2)
          have kf2 := far (show eb ≠ wr.heap.size by omega)
          have kf3 := far (show g ≠ wr.heap.size by omega)
          have HR2 := hid (HG2.out.rise2 HEA.out k1 ((i : Int) + 1) (wrap64 (pr' + 1)))
          go_wp2_with fail
          obtain ⟨r1, r2⟩ := HR2.out
          generalize (w2.setCell ⟨eb, k * 4 + 2, none⟩ (.int .i64 ((i : Int) + 1))).setCell ⟨g, 3, none⟩ (.int .i64 (wrap64 (pr' + 1))) = w3 at r1 r2 ⊢
          have eE : ({ G'.edges[k]?.getD Go.Proofs.YtckallochdegiaaGreat.e0 with lev := (i : Int) + 1 } : Edg) = { e with lev := e.lev + 1 } := by rw [HK3.out, HL.out]
          rw [eE] at r1
          obtain ⟨j1, j2, j3⟩ := HK8.out HL.out
          have hi1 : i + 1 < G'.tours.length := by rw [HPA.out.mi.gi.tl]; omega
          have HRS : Hid (riseT i G' (y1, y2) = lnk (setE G' k { e with lev := e.lev + 1 }) (i + 1) y1 y2) := by show _ = _; rw [HER2.out, if_pos HL.out]
          have n48' := HPA.out.mi.gi.n48
          have rgE := HPA.out.mi.gi.rngE
          have re := rgE e (by rw [← HK3.out, get_eq k1]; exact List.getElem_mem k1)
          have hye := HK4.out
          rw [show ((i : Int) + 1) = ((i + 1 : Nat) : Int) by omega]
          refine (Link_G (es := G'.edges.set k { e with lev := e.lev + 1 }) r1 (i := i + 1) hi1 n48' j2 (by
            intro f hf
            rcases mem_set hf with rfl | ⟨j, hj, _, rfl⟩
            · exact re
            · exact rgE _ (by rw [get_eq hj]; exact List.getElem_mem hj)) (u := y1) (v := y2) (by rw [← hye.1]; exact re.1) (by rw [← hye.1]; exact re.2.1) (by rw [← hye.2.1]; exact re.2.2.1) (by rw [← hye.2.1]; exact re.2.2.2)).mono ?_
          rintro e' w4 ⟨rfl, ⟨F4, h4⟩, b4⟩
          have HG4 : Hid (GRep w4 g (riseT i G' (y1, y2)) ev tb tcap F4 (wrap64 (pr' + 1))) := by show GRep _ _ _ _ _ _ _ _; rw [HRS.out]; exact h4
          have HB4 : Hid (But (Own g tb ev) wr w4) := ((But.of HBa.out).trans r2 (fun _ _ q => q)).trans b4 (fun _ _ q => Or.inr (Or.inl q))
          have HX4 : Hid (ItemsAt w4 (.slice (some ⟨xb, xo, none⟩) t.length xc) t xb xo xc) := by
            refine hX.out.block (HB4.out.block xb hX.out.lt (fun q => ?_))
            exact (noTour_own HGr.out xb q hX.out.lt).1 hX.out.ty
          clear h4 b4 r1 r2 eE j1 j2 j3 hi1 n48' rgE re hye
          go_wp2
          exact ⟨⟨m + 1, by omega, by go_num, ⟨_, F4, _, HG4.out, HXs.out _ (by rw [HPr.out, if_pos HL.out]), HST.out⟩, HX4, hB.out.trans HB4.out (fun _ _ q => q)⟩, by simp [intOf]; omega⟩
        · have hl2 : (e.lev == (i : Int)) = false := by simpa using hl
          have HE2 : Hid (riseT i G' (y1, y2) = G') := by show _ = _; rw [HER2.out, if_neg hl]
          have HPn : Hid (riseP i (G', pr') (y1, y2) = (G', pr')) := by show _ = _; rw [HPr.out, if_neg hl]
          clear hl
          go_wp2
          exact ⟨⟨m + 1, by omega, by go_num, ⟨G', F', pr', HG2.out, HXs.out _ HPn.out, HE2.out ▸ HST.out⟩, hX.out.below HBa.out (Nat.le_refl _), hB.out.trans (But.of HBa.out) (fun _ _ q => q)⟩, by simp [intOf]; omega⟩
      · have HE2 : Hid (riseT i G' (y1, y2) = G') := by show _ = _; rw [HER.out, if_neg hlt2]
        have HPn : Hid (riseP i (G', pr') (y1, y2) = (G', pr')) := by show _ = _; simp only [riseP]; rw [if_neg hlt2]
        go_wp2
        exact ⟨⟨m + 1, by omega, by go_num, ⟨G', F', pr', HGr.out.below ((Below.refl _ _).alloc (Nat.le_refl _) _), HXs.out _ HPn.out, HE2.out ▸ HST.out⟩, items_alloc hX.out _, hB.out.alloc _⟩, by simp [intOf]; omega⟩
    · have hme : m = t.length := by omega
      obtain ⟨G', F', pr', hG', hXA, hPA⟩ := hG.out
      rw [hme] at hPA hXA
      rw [List.take_length] at hXA
      obtain ⟨Q, hQ⟩ : ∃ Q, Q = t.foldl (riseP i) (G, pr) := ⟨_, rfl⟩
      have HQ := hid hQ
      have hXB : seekT i s G.N t Q 0 = .inl (G', pr') := by rw [hQ, hXA]; rfl
      clear hQ hXA
      have HPB : Hid (∃ G' F' pr', GRep wr g G' ev tb tcap F' pr' ∧ seekT i s G.N t Q 0 = .inl (G', pr') ∧ PB G G' s o i t0 t 0 0) := ⟨G', F', pr', hG', hXB, hPA.begin_ HS.out.1 HS.out.2.1 HS.out.2.2 HRot.out⟩
      clear hG' hPA hG hme hXB
      go_wp2_with fail
      go_loopw [75] (fun q wr => ∃ m : Nat, m ≤ t.length ∧ q = .int .i64 m ∧ Hid (∃ G' F' pr', GRep wr g G' ev tb tcap F' pr' ∧ seekT i s G.N t Q m = .inl (G', pr') ∧ PB G G' s o i t0 t m 0) ∧ Hid (ItemsAt wr (.slice (some ⟨xb, xo, none⟩) t.length xc) t xb xo xc) ∧ Hid (But (Own g tb ev) w wr)) (fun q _ => t.length - (intOf q).toNat)
      case atStart => exact ⟨0, by omega, rfl, HPB, hX, hB⟩
      case round =>
        obtain ⟨m, hm, rfl, hG, hX, hB⟩ := hrel
        obtain ⟨wo, hwo⟩ : ∃ wo : World, wo = wr := ⟨_, rfl⟩
        rw [← hwo] at hG hX hB ⊢
        clear hwo wr
        by_cases hlt : m < t.length
        · have hlt' : (m : Int) < (t.length : Int) := by omega
          obtain ⟨G', F', pr', hG', hXB, hPB⟩ := hG.out
          have e0 := hX.out.c0 m hlt
          have e1 := hX.out.c1 m hlt
          have hxm : t[m]?.getD (0, 0) ∈ t0 := by rw [get_eq hlt]; exact (HRot.out.mem _).2 (List.getElem_mem hlt)
          have rg := ((hPB.mi.gi.li i hPB.mi.il).rng t0 (by rw [hPB.lvi i (Nat.le_refl _)]; exact HS.out.1) _ hxm).1
          have HN := hid hPB.n
          rw [hPB.n] at rg
          have HG2 : Hid (∃ G' F' pr', GRep (wo.alloc (.cells #[.int .i64 (t[m]?.getD (0, 0)).1, .int .i64 (t[m]?.getD (0, 0)).2] 71)) g G' ev tb tcap F' pr' ∧ (∃ q2, seekT i s G.N t Q m = .inl q2 ∧ (if (t[m]?.getD (0, 0)).2 < 0 then seekN i s (t[m]?.getD (0, 0)).1 q2 0 else .inl q2) = .inl (G', pr')) ∧ PB G G' s o i t0 t m 0) := ⟨G', F', pr', hG'.below ((Below.refl _ _).alloc (Nat.le_refl _) _), ⟨_, hXB, by split <;> rfl⟩, hPB⟩
          have HX2 := hid (items_alloc hX.out (.cells #[.int .i64 (t[m]?.getD (0, 0)).1, .int .i64 (t[m]?.getD (0, 0)).2] 71))
          have HB2 := hid (hB.out.alloc (.cells #[.int .i64 (t[m]?.getD (0, 0)).1, .int .i64 (t[m]?.getD (0, 0)).2] 71))
          have HW : Hid (∀ j, (wo.alloc (.cells #[.int .i64 (t[m]?.getD (0, 0)).1, .int .i64 (t[m]?.getD (0, 0)).2] 71)).cell? ⟨wo.heap.size, j, none⟩ = #[Value.int .i64 (t[m]?.getD (0, 0)).1, .int .i64 (t[m]?.getD (0, 0)).2][j]?) := fun j => new_cell _ _ _ j
          have HSz : Hid (wo.heap.size + 1 ≤ (wo.alloc (.cells #[.int .i64 (t[m]?.getD (0, 0)).1, .int .i64 (t[m]?.getD (0, 0)).2] 71)).heap.size) := by show _ ≤ _; simp
          have HOwn : Hid (∀ k, Own g tb ev k → k < wo.heap.size) := by
            intro k hk
            rcases hk with rfl | rfl | hk
            · exact hG'.rg.lt
            · exact hG'.rt.lt
            · rcases hG'.ed with ⟨q, _⟩ | ⟨eb2, cap2, q⟩
              · rw [q] at hk; simp [Value.ownBlock] at hk
              · rw [q.own] at hk; simp only [Option.some.injEq] at hk; rw [← hk]; exact q.lt
          clear hG hPB hG' HPB HN hXB
          have HXM := hid hxm
          have HRg := hid rg
          clear hxm rg
          obtain ⟨x, hx⟩ : ∃ x, x = t[m]?.getD (0, 0) := ⟨_, rfl⟩
          rw [← hx] at e0 e1 HG2 HX2 HB2 HW HSz HXM HRg
          have Hx := hid hx
          clear hx
          obtain ⟨y1, y2⟩ := x
          simp only at e0 e1 HG2 HX2 HB2 HW HSz HRg
          go_wp2_with fail
          clear e0 e1 hX hB
          obtain ⟨wi, hwi⟩ : ∃ wi : World, wi = wo.alloc (.cells #[.int .i64 y1, .int .i64 y2] 71) := ⟨_, rfl⟩
          rw [← hwi] at HG2 HX2 HB2 HW HSz ⊢
          clear hwi
          go_loopw [13] (fun q wr => ∃ y : Nat, y ≤ G.N ∧ q = .int .i64 y ∧ Hid (∃ G' F' pr', GRep wr g G' ev tb tcap F' pr' ∧ (∃ q2, seekT i s G.N t Q m = .inl q2 ∧ (if y2 < 0 then seekN i s y1 q2 y else .inl q2) = .inl (G', pr')) ∧ PB G G' s o i t0 t m y) ∧ Hid (ItemsAt wr (.slice (some ⟨xb, xo, none⟩) t.length xc) t xb xo xc) ∧ Hid (But (Own g tb ev) w wr) ∧ Hid (∀ j, wr.cell? ⟨wo.heap.size, j, none⟩ = #[Value.int .i64 y1, .int .i64 y2][j]?) ∧ Hid (wo.heap.size + 1 ≤ wr.heap.size)) (fun q _ => G.N - (intOf q).toNat)
          case atStart => exact ⟨0, by omega, rfl, HG2, HX2, HB2, HW, HSz⟩
          case round =>
            clear HG2 HX2 HB2 HW HSz
            obtain ⟨y, hy, rfl, hG, hX, hB, hW, hSz⟩ := hrel
            obtain ⟨G', F', pr', hG', hXC, hPB⟩ := hG.out
            have HXC := hid hXC
            clear hXC
            have z0 : wr.cell? ⟨wo.heap.size, 0, none⟩ = some (.int .i64 y1) := hW.out 0
            have z1 : wr.cell? ⟨wo.heap.size, 1, none⟩ = some (.int .i64 y2) := hW.out 1
            have c0 : wr.cell? ⟨g, 0, none⟩ = some (.int .i64 G.N) := by rw [← hPB.n]; exact hG'.c0
            have HPB := hid hPB
            have HGr := hid hG'
            clear hG hPB hG'
            by_cases hyN : y < G.N
            · have hyN' : (y : Int) < (G.N : Int) := by omega
              by_cases hneg : y2 < 0
              · have L' := hid (HPB.out.mi.gi.li i HPB.out.mi.il)
                have HXn : Hid (∀ r, seek1 i s y1 (G', pr') y = .inl r → ∃ q2, seekT i s G.N t Q m = .inl q2 ∧ (if y2 < 0 then seekN i s y1 q2 (y + 1) else .inl q2) = .inl r) := fun r hr => by
                  obtain ⟨q2, h1, h2⟩ := HXC.out
                  rw [if_pos hneg] at h2
                  refine ⟨q2, h1, ?_⟩
                  rw [if_pos hneg]
                  show (match seekN i s y1 q2 y with | .inl r => seek1 i s y1 r y | .inr r => .inr r) = _
                  rw [h2]; exact hr
                have HXf : Hid (∀ r, seek1 i s y1 (G', pr') y = .inr r → searchF i s G.N t (G, pr) = (true, r.1, r.2)) := fun r hr => by
                  obtain ⟨q2, h1, h2⟩ := HXC.out
                  rw [if_pos hneg] at h2
                  have := seek_found h1 Hx.out hneg h2 hr hyN hlt
                  rw [HQ.out] at this
                  simp only [searchF, this]
                go_wp2_with fail
                refine (Find_any g y1 y G'.edges ev wr HGr.out.c1 HGr.out.ed).mono ?_
                rintro e' w2 ⟨rfl, hb2⟩
                have HBa := hid hb2
                have HG2 := hid (HGr.out.below hb2)
                have HX2 := hid (hX.out.below hb2 (Nat.le_refl _))
                have HB2 : Hid (But (Own g tb ev) w w2) := hB.out.trans (But.of hb2) (fun _ _ q => q)
                have hsz0 := hSz.out
                have HW2 : Hid (∀ j, w2.cell? ⟨wo.heap.size, j, none⟩ = #[Value.int .i64 y1, .int .i64 y2][j]?) := fun j => by rw [hb2.cell (p := ⟨wo.heap.size, j, none⟩) (by show wo.heap.size < wr.heap.size; omega)]; exact hW.out j
                have HSz2 : Hid (wo.heap.size + 1 ≤ w2.heap.size) := Nat.le_trans hsz0 hb2.size
                clear hb2 z0 z1 c0 hX hB hW
                rcases find_cases G'.edges (min y1 y) (max y1 y) with hf | ⟨k, hf⟩
                · have HD : Hid (PB G G' s o i t0 t m (y + 1)) := HPB.out.skip (by rw [← Hx.out]; exact done_no hf)
                  have HXk := hid (HXn.out (G', pr') (by simp only [seek1]; rw [if_pos (by rw [hf]; omega)]))
                  rw [hf]
                  clear hf
                  go_wp2
                  exact ⟨⟨y + 1, by omega, by go_num, ⟨G', F', pr', HG2.out, HXk.out, HD.out⟩, HX2, HB2, HW2, HSz2⟩, by simp [intOf]; omega⟩
                · obtain ⟨k1, k2, k3⟩ := find_ge hf
                  have HF := hid hf
                  rw [hf]
                  clear hf
                  obtain ⟨eb, cap, hE, hev⟩ := HG2.out.ed.at_ k1
                  have d1 := HG2.out.c1
                  rw [hev] at d1
                  have HEv := hid hev
                  have HEA := hid hE
                  have l1 := hE.le
                  have l2 := hE.mx
                  unfold maxLen at l2
                  have t2 : w2.cell? ⟨eb, k * 4 + 2, none⟩ = some (.int .i64 (G'.edges[k]?.getD Go.Proofs.YtckallochdegiaaGreat.e0).lev) := hE.c2 k k1
                  have t3 : w2.cell? ⟨eb, k * 4 + 3, none⟩ = some (.bool (G'.edges[k]?.getD Go.Proofs.YtckallochdegiaaGreat.e0).tree) := hE.c3 k k1
                  have fz : ∀ o, w2.frozen? ⟨eb, o, none⟩ = false := by
                    intro o
                    obtain ⟨c, hc, _⟩ := hE.ty
                    simp [World.frozen?, hc]
                  clear hE hev
                  have kl : (k : Int) < (G'.edges.length : Int) := by omega
                  have kn : ¬ (k : Int) < 0 := by omega
                  have HK := hid (And.intro k2 k3)
                  clear k2 k3
                  have HDn : Hid ((G'.edges[k]?.getD Go.Proofs.YtckallochdegiaaGreat.e0).tree = true ∨ (G'.edges[k]?.getD Go.Proofs.YtckallochdegiaaGreat.e0).lev ≠ i → PB G G' s o i t0 t m (y + 1)) := fun q => HPB.out.skip (by rw [← Hx.out]; exact done_one HPB.out.mi.gi HF.out q)
                  obtain ⟨e, he⟩ : ∃ e, e = G'.edges[k]?.getD Go.Proofs.YtckallochdegiaaGreat.e0 := ⟨_, rfl⟩
                  have HSk : Hid (e.tree = true ∨ e.lev ≠ i → seek1 i s y1 (G', pr') y = .inl (G', pr')) := fun q => by rw [he] at q; simp only [seek1]; rw [HF.out, if_neg (by omega), Int.toNat_natCast, if_pos q]
                  rw [← he] at t2 t3 HK HDn
                  have HE := hid he
                  clear he
                  cases htr : e.tree
                  · rw [htr] at t3
                    have HTr := hid htr
                    clear htr
                    by_cases hl : e.lev = i
                    · have HL := hid hl
                      rw [hl] at t2
                      clear hl HDn
                      have ilt' : i < G'.tours.length := by rw [HPB.out.tl]; exact ilt
                      obtain ⟨lb', lcap', f', _, hLv'⟩ := HG2.out.lvl ilt'
                      have HLv' := hid hLv'
                      have nG := HPB.out.n
                      obtain ⟨ky, ty, hky, iy, _, hty, hyt⟩ := L'.out.ix_of (v := (y : Int)) (by omega) (by rw [nG]; omega)
                      have HIY := hid (And.intro iy (And.intro hty hyt))
                      have iss : tourIx (lv G' i) s = ks := by rw [HPB.out.lvi i (Nat.le_refl _)]; exact HIX.out.1
                      have HISS := hid iss
                      clear hLv' iy hty hyt nG iss
                      have z0 : w2.cell? ⟨wo.heap.size, 0, none⟩ = some (.int .i64 y1) := HW2.out 0
                      go_wp2_with fail
                      refine (tour_lv HLv'.out y HIY.out.1).mono ?_
                      rintro e' w3 ⟨rfl, hb3⟩
                      have HB3 := hid hb3
                      clear hb3
                      go_wp2_with fail
                      refine (tour_lv (HLv'.out.below HB3.out) s HISS.out).mono ?_
                      rintro e' w4 ⟨rfl, hb4⟩
                      have HB4 : Hid (Below w2.heap.size w2 w4) := HB3.out.trans (hb4.mono HB3.out.size)
                      have HG4 := hid (HG2.out.below HB4.out)
                      have HE4 := hid (HEA.out.below HB4.out (Nat.le_refl _))
                      have HX4 := hid (HX2.out.below HB4.out (Nat.le_refl _))
                      have HBw4 : Hid (But (Own g tb ev) w w4) := HB2.out.trans (But.of HB4.out) (fun _ _ q => q)
                      have hsz2 := HSz2.out
                      have HW4 : Hid (∀ j, w4.cell? ⟨wo.heap.size, j, none⟩ = #[Value.int .i64 y1, .int .i64 y2][j]?) := fun j => by rw [HB4.out.cell (p := ⟨wo.heap.size, j, none⟩) (by show wo.heap.size < w2.heap.size; omega)]; exact HW2.out j
                      have HSz4 : Hid (wo.heap.size + 1 ≤ w4.heap.size) := Nat.le_trans hsz2 HB4.out.size
                      have y2m : y2 = -1 := by
                        rcases (L'.out.rng t0 (by rw [HPB.out.lvi i (Nat.le_refl _)]; exact HS.out.1) _ HXM.out).2 with q | ⟨f2, hf2, _, _, q⟩
                        · exact q
                        · have bf := HPB.out.mi.gi.ed f2 hf2; simp only at q; rcases q with q | q <;> omega
                      have hy1t : (y1, (-1 : Int)) ∈ t0 := by rw [← y2m]; exact HXM.out
                      have hxs : Same (lv G' i) y1 s := ⟨t0, by rw [HPB.out.lvi i (Nat.le_refl _)]; exact HS.out.1, hy1t, HS.out.2.1⟩
                      have rs := (L'.out.rng t0 (by rw [HPB.out.lvi i (Nat.le_refl _)]; exact HS.out.1) _ HS.out.2.1).1
                      have hsame := L'.out.same_iff (a := (y : Int)) (b := s) (by omega) (by rw [HPB.out.n]; omega) rs.1 rs.2
                      rw [HIY.out.1, HISS.out] at hsame
                      have hxy : (y1 = e.u ∧ (y : Int) = e.v) ∨ (y1 = e.v ∧ (y : Int) = e.u) := by have q1 := HK.out.1; have q2 := HK.out.2; omega
                      have HFacts := hid (And.intro hy1t (And.intro hxs (And.intro hsame hxy)))
                      clear hb4 HB3 d1 t2 t3 fz y2m hy1t hxs rs hsame hxy
                      have z4 : w4.cell? ⟨wo.heap.size, 0, none⟩ = some (.int .i64 y1) := HW4.out 0
                      have HSn : Hid (¬ ((G'.edges[k]?.getD Go.Proofs.YtckallochdegiaaGreat.e0).tree = true ∨ (G'.edges[k]?.getD Go.Proofs.YtckallochdegiaaGreat.e0).lev ≠ i)) := by
                        show ¬ _
                        rw [← HE.out]
                        rintro (q | q)
                        · rw [HTr.out] at q; simp at q
                        · exact q HL.out
                      by_cases hkk : ky = ks
                      · have hkk2 : ((ky : Int) != (ks : Int)) = false := by simp [hkk]
                        obtain ⟨hy1t, hxs, hsame, hxy⟩ := HFacts.out
                        have hyt0 : ((y : Int), (-1 : Int)) ∈ t0 := by
                          obtain ⟨t1, p1, p2, p3⟩ := hsame.2 (by rw [hkk])
                          have hs' : t0 ∈ lv G' i := by rw [HPB.out.lvi i (Nat.le_refl _)]; exact HS.out.1
                          have := L'.out.uniq p1 hs' p3 HS.out.2.1 rfl
                          rw [this] at p2; exact p2
                        have HPN : Hid (PB G (setE G' k { e with lev := e.lev + 1 }) s o i t0 t m (y + 1)) := by
                          refine HPB.out.raise HS.out.1 HS.out.2.1 HS.out.2.2 k1 HE.out.symm HTr.out HL.out ?_ ?_ ?_
                          · rw [← Hx.out]; exact Prod.ext HK.out.1 HK.out.2
                          · rcases hxy with ⟨q1, q2⟩ | ⟨q1, q2⟩
                            · rw [← q1]; exact hy1t
                            · rw [← q2]; exact hyt0
                          · rcases hxy with ⟨q1, q2⟩ | ⟨q1, q2⟩
                            · rw [← q2]; exact hyt0
                            · rw [← q1]; exact hy1t
                        have HXk := hid (HXn.out (setE G' k { e with lev := e.lev + 1 }, wrap64 (pr' + 1)) (by simp only [seek1]; rw [HF.out, if_neg (by omega), Int.toNat_natCast, if_neg HSn.out, if_neg (by rw [HIY.out.1, HISS.out, hkk]; simp), ← HE.out]))
                        clear hkk hy1t hxs hsame hxy hyt0
                        have d1 := HG4.out.c1
                        rw [HEv.out] at d1
                        have t2 : w4.cell? ⟨eb, k * 4 + 2, none⟩ = some (.int .i64 i) := by rw [← HL.out, HE.out]; exact HE4.out.c2 k k1
                        have fz : ∀ o, w4.frozen? ⟨eb, o, none⟩ = false := by
                          intro o
                          obtain ⟨c, hc, _⟩ := HE4.out.ty
                          simp [World.frozen?, hc]
                        have d3 := HG4.out.c3
                        have fg := HG4.out.rg.frozen
                        have glt := HOwn.out g (Or.inl rfl)
                        have elt := HOwn.out eb (Or.inr (Or.inr HEA.out.own))
                        have neg : eb ≠ g := HE4.out.tya.ne (rowIs_ty HG4.out.rg) (by decide)
                        have kf1 := far neg
                        have kf2 := far (show eb ≠ wo.heap.size by omega)
                        have kf3 := far (show g ≠ wo.heap.size by omega)
                        have HR2 := hid (HG4.out.rise2 HE4.out k1 ((i : Int) + 1) (wrap64 (pr' + 1)))
                        go_wp2_with fail
                        obtain ⟨r1, r2⟩ := HR2.out
                        have eE : ({ G'.edges[k]?.getD Go.Proofs.YtckallochdegiaaGreat.e0 with lev := (i : Int) + 1 } : Edg) = { e with lev := e.lev + 1 } := by rw [← HE.out, HL.out]
                        rw [eE] at r1
                        have HW5 : Hid (∀ j, ((w4.setCell ⟨eb, k * 4 + 2, none⟩ (.int .i64 ((i : Int) + 1))).setCell ⟨g, 3, none⟩ (.int .i64 (wrap64 (pr' + 1)))).cell? ⟨wo.heap.size, j, none⟩ = #[Value.int .i64 y1, .int .i64 y2][j]?) := fun j => by
                          have hh : ((w4.setCell ⟨eb, k * 4 + 2, none⟩ (.int .i64 ((i : Int) + 1))).setCell ⟨g, 3, none⟩ (.int .i64 (wrap64 (pr' + 1)))).heap[wo.heap.size]? = w4.heap[wo.heap.size]? := r2.block _ (by have := HSz4.out; omega) (fun q => by have := HOwn.out _ q; omega)
                          rw [World.cell?_of_block (w := w4) (a := ⟨wo.heap.size, j, none⟩) hh]; exact HW4.out j
                        have HSz5 : Hid (wo.heap.size + 1 ≤ ((w4.setCell ⟨eb, k * 4 + 2, none⟩ (.int .i64 ((i : Int) + 1))).setCell ⟨g, 3, none⟩ (.int .i64 (wrap64 (pr' + 1)))).heap.size) := Nat.le_trans HSz4.out r2.size
                        have HX5 : Hid (ItemsAt ((w4.setCell ⟨eb, k * 4 + 2, none⟩ (.int .i64 ((i : Int) + 1))).setCell ⟨g, 3, none⟩ (.int .i64 (wrap64 (pr' + 1)))) (.slice (some ⟨xb, xo, none⟩) t.length xc) t xb xo xc) := by
                          refine HX4.out.block (r2.block xb HX4.out.lt (fun q => ?_))
                          exact (noTour_own HG4.out xb q HX4.out.lt).1 HX4.out.ty
                        exact ⟨⟨y + 1, by omega, by go_num, ⟨_, F', _, r1, HXk.out, HPN.out⟩, HX5, HBw4.out.trans r2 (fun _ _ q => q), HW5, HSz5⟩, by simp [intOf]; omega⟩
                      · have hkk2 : ((ky : Int) != (ks : Int)) = true := by simp; omega
                        obtain ⟨hy1t, hxs, hsame, hxy⟩ := HFacts.out
                        obtain ⟨f1, f2, f3, f4⟩ := HPB.out.mi.found k1 HE.out.symm HTr.out HL.out hxy hxs (fun q => hkk (by have := hsame.1 q; omega))
                        have HFo := hid (And.intro f1 f2)
                        have HF4 := hid f4
                        have HXk := hid (HXf.out _ (show seek1 i s y1 (G', pr') y = .inr (lnks (setE G' k ⟨e.u, e.v, i, true⟩) y1 y (i + 1), pr') by simp only [seek1]; rw [HF.out, if_neg (by omega), Int.toNat_natCast, if_neg HSn.out, if_pos (by rw [HIY.out.1, HISS.out]; omega), ← HE.out]))
                        clear f1 f2 f3 f4 hkk
                        go_wp2_with fail
                        have h4 := HG4.out
                        have hE4 := HE4.out
                        rw [HEv.out] at h4 hE4
                        have eqn : (⟨(G'.edges[k]?.getD Go.Proofs.YtckallochdegiaaGreat.e0).u, (G'.edges[k]?.getD Go.Proofs.YtckallochdegiaaGreat.e0).v, (i : Int), true⟩ : Edg) = ⟨e.u, e.v, i, true⟩ := by rw [← HE.out]
                        have rgE := HPB.out.mi.gi.rngE
                        have re := rgE e (by rw [HE.out, get_eq k1]; exact List.getElem_mem k1)
                        refine (forest_G w4 g tb tcap eb cap k i G' F' pr' y1 y h4 hE4 HF.out ilt' HPB.out.mi.gi.n48 i6 (by rw [eqn]; exact HF4.out) (by
                          rw [eqn]
                          intro f hf
                          rcases mem_set hf with rfl | ⟨j, hj, _, rfl⟩
                          · exact re
                          · exact rgE _ (by rw [get_eq hj]; exact List.getElem_mem hj)) (by rcases hxy with q | q <;> omega) (by rcases hxy with q | q <;> omega) (by omega) (by rcases hxy with q | q <;> omega)).mono ?_
                        rintro e' w5 ⟨rfl, ⟨F5, h5⟩, b5⟩
                        rw [eqn, ← HEv.out] at h5
                        have HR : Hid ((∃ G' F' pr', GRep w5 g G' ev tb tcap F' pr' ∧ searchF i s G.N t (G, pr) = (true, G', pr') ∧ SEnd G s o i true G') ∧ But (Own g tb ev) w w5) := by
                          refine ⟨⟨_, F5, pr', h5, HXk.out, by rw [lnks_N]; exact HPB.out.n, by rw [lnks_len]; exact HPB.out.tl, ?_, fun _ => HFo.out, fun q => by simp at q⟩, HBw4.out.trans b5 (fun j _ q => ?_)⟩
                          · rw [lnks_edges]
                            show (G'.edges.set k _).map key = _
                            rw [key_set k1 (by rw [← HE.out]; rfl)]; exact HPB.out.up
                          · rcases q with q | q
                            · exact Or.inr (Or.inl q)
                            · exact Or.inr (Or.inr (by rw [HEv.out, q]; rfl))
                        clear h5 b5 h4 hE4 eqn rgE re hy1t hxs hsame hxy
                        go_wp2
                        go_ret
                        exact ⟨true, rfl, by rw [← HT.out]; exact HR.out.1, HR.out.2⟩
                    · have HD := hid (HDn.out (Or.inr hl))
                      have HXk := hid (HXn.out _ (HSk.out (Or.inr hl)))
                      have hl2 : (e.lev != (i : Int)) = true := by simpa using hl
                      clear hl
                      go_wp2
                      exact ⟨⟨y + 1, by omega, by go_num, ⟨G', F', pr', HG2.out, HXk.out, HD.out⟩, HX2, HB2, HW2, HSz2⟩, by simp [intOf]; omega⟩
                  · have HD := hid (HDn.out (Or.inl htr))
                    have HXk := hid (HXn.out _ (HSk.out (Or.inl htr)))
                    rw [htr] at t3
                    clear htr
                    go_wp2
                    exact ⟨⟨y + 1, by omega, by go_num, ⟨G', F', pr', HG2.out, HXk.out, HD.out⟩, HX2, HB2, HW2, HSz2⟩, by simp [intOf]; omega⟩
              · have dneg : decide (y2 < 0) = false := by simpa using hneg
                have HXe : Hid (seekT i s G.N t Q (m + 1) = .inl (G', pr')) := by
                  obtain ⟨q2, h1, h2⟩ := HXC.out
                  exact seekT_next h1 Hx.out (by rw [if_neg hneg] at h2 ⊢; exact h2)
                clear dneg
                go_wp2
                exact ⟨⟨m + 1, by omega, by go_num, ⟨G', F', pr', HGr.out, HXe.out, HPB.out.next (fun q => by rw [← Hx.out] at q; exact absurd q hneg)⟩, hX, hB⟩, by simp [intOf]; omega⟩
            · have HXe : Hid (seekT i s G.N t Q (m + 1) = .inl (G', pr')) := by
                obtain ⟨q2, h1, h2⟩ := HXC.out
                rw [show y = G.N by omega] at h2
                exact seekT_next h1 Hx.out h2
              go_wp2
              exact ⟨⟨m + 1, by omega, by go_num, ⟨G', F', pr', HGr.out, HXe.out, HPB.out.next (fun _ => by omega)⟩, hX, hB⟩, by simp [intOf]; omega⟩
        · have hme : m = t.length := by omega
          have HEnd : Hid ((∃ G' F' pr', GRep wo g G' ev tb tcap F' pr' ∧ searchF i s G.N (fromX t0 (leastV t0 s, -1)) (G, pr) = (false, G', pr') ∧ SEnd G s o i false G') ∧ But (Own g tb ev) w wo) := by
            obtain ⟨G', F', pr', hG', hXB, hPB⟩ := hG.out
            rw [hme] at hPB hXB
            rw [HQ.out] at hXB
            exact ⟨⟨G', F', pr', hG', by rw [← HT.out]; simp only [searchF, hXB], hPB.n, hPB.tl, hPB.up, fun q => by simp at q, fun _ => ⟨hPB.mi, hPB.end_ HS.out.1 HS.out.2.1 HRot.out⟩⟩, hB.out⟩
          clear hme hG hX hB
          go_wp2
          go_ret
          exact ⟨false, rfl, HEnd.out.1, HEnd.out.2⟩

end Go.Proofs.YtckallochdegiaaGreat
