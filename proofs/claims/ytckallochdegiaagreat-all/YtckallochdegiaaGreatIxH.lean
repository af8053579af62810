import Derived.Test.YtckallochdegiaaGreatIxF
namespace Go.Proofs.YtckallochdegiaaGreat
set_option linter.unusedVariables false
set_option linter.unusedSimpArgs false
open Go.RowKit

/-- Which half the document searches. -/
theorem step_which {G : Gr} {pr : Int} {i u v : Nat} {a c : Int} {tu tv : List Itm} (hM : MI G a c i) (hu : tu ∈ lv G i) (hut : ((u : Int), (-1 : Int)) ∈ tu) (hv : tv ∈ lv G i) (hvt : ((v : Int), (-1 : Int)) ∈ tv) (hac : a < c) (hor : (a = u ∧ c = v) ∨ (a = v ∧ c = u)) :
    ((sizeV tu < sizeV tv ∨ (sizeV tu = sizeV tv ∧ u < v)) → sizeV tu * 2 ^ (i + 1) ≤ G.N ∧ (∃ o : Int, MI G u o i ∧ (((u : Int) = a ∧ o = c) ∨ ((u : Int) = c ∧ o = a))) ∧ stepF a c i (G, pr) = searchF i u G.N (fromX tu (leastV tu u, -1)) (G, pr)) ∧
    (¬ (sizeV tu < sizeV tv ∨ (sizeV tu = sizeV tv ∧ u < v)) → sizeV tv * 2 ^ (i + 1) ≤ G.N ∧ (∃ o : Int, MI G v o i ∧ (((v : Int) = a ∧ o = c) ∨ ((v : Int) = c ∧ o = a))) ∧ stepF a c i (G, pr) = searchF i v G.N (fromX tv (leastV tv v, -1)) (G, pr)) := by
  have eu := LI.lessT_at hM.gi hM.il hu hut
  have ev := LI.lessT_at hM.gi hM.il hv hvt
  rcases hor with ⟨rfl, rfl⟩ | ⟨rfl, rfl⟩
  · refine ⟨fun q => ⟨lesser_sz hM hu hv hut hvt (by omega), ⟨_, hM, Or.inl ⟨rfl, rfl⟩⟩, ?_⟩, fun q => ⟨lesser_sz hM.swap hv hu hvt hut (by omega), ⟨_, hM.swap, Or.inr ⟨rfl, rfl⟩⟩, ?_⟩⟩
    · simp only [stepF]; rw [eu, ev, if_neg (by omega)]
    · simp only [stepF]; rw [eu, ev, if_pos (by omega)]
  · refine ⟨fun q => ⟨lesser_sz hM.swap hu hv hut hvt (by omega), ⟨_, hM.swap, Or.inr ⟨rfl, rfl⟩⟩, ?_⟩, fun q => ⟨lesser_sz hM hv hu hvt hut (by omega), ⟨_, hM, Or.inl ⟨rfl, rfl⟩⟩, ?_⟩⟩
    · simp only [stepF]; rw [eu, ev, if_pos (by omega)]
    · simp only [stepF]; rw [eu, ev, if_neg (by omega)]

set_option maxRecDepth 100000 in
set_option maxHeartbeats 8000000 in
theorem reconnect_any (w : World) (b : Nat) (G G1 : Gr) (k : Nat) (pr : Int) (u v l : Nat) (a c : Int) (RR : Gr × Int) (h : IdxG w b G1 pr) (hD : DM G k a c G1 (l + 1)) (hR : downF a c (l + 1) (G1, pr) = RR) (hac : a < c) (hor : (a = u ∧ c = v) ∨ (a = v ∧ c = u)) (hu : u < G.N) (hv : v < G.N) (hl : l ≤ 6) :
    Calls Tryz.prog 96 #[ptr b, .int .i64 u, .int .i64 v, .int .i64 l] w fun e w' => e = .returned (.tuple #[]) ∧ (∃ G' pr', IdxG w' b G' pr' ∧ (G', pr') = RR ∧ DEnd G k G') ∧ But (fun q => q = b) w w' := by
  have HG := hid h
  have HD := hid hD
  have HR := hid hR
  clear h hD hR
  go_enter Tryz.func96, Tryz.ntmps96
  go_wp2_with fail
  go_loopw [8] (fun q wr => ∃ m : Nat, m ≤ l + 1 ∧ q = .int .i64 ((m : Int) - 1) ∧ Hid (∃ G' pr', IdxG wr b G' pr' ∧ downF a c m (G', pr') = RR ∧ DM G k a c G' m) ∧ Hid (But (fun q => q = b) w wr)) (fun q _ => (intOf q + 1).toNat)
  case atStart => exact ⟨l + 1, by omega, by rw [show ((l + 1 : Nat) : Int) - 1 = l by omega], ⟨G1, pr, HG.out, HR.out, HD.out⟩, But.refl _ _⟩
  case round =>
    obtain ⟨m, hm, rfl, hX, hB⟩ := hrel
    obtain ⟨G', pr', g1, g2, g3⟩ := hX.out
    have HG1 := hid g1
    have HG2 := hid g2
    have HG3 := hid g3
    clear hX g1 g2 g3
    cases m with
    | zero =>
      have HEnd : Hid (∃ G' pr', IdxG wr b G' pr' ∧ (G', pr') = RR ∧ DEnd G k G') := ⟨G', pr', HG1.out, HG2.out, HG3.out.zero⟩
      go_wp2
      go_end0
      exact ⟨rfl, HEnd.out, hB.out⟩
    | succ i =>
      have hM := HG3.out.p i rfl
      have nG := HG3.out.n
      obtain ⟨ku, tu, _, _, _, u4, u5, u6⟩ := (show ∃ k t, k < (lv G' i).length ∧ tourIx (lv G' i) (u : Int) = k ∧ (lv G' i)[k]?.getD [] = t ∧ t ∈ lv G' i ∧ ((u : Int), (-1 : Int)) ∈ t ∧ t.length ≤ 2352 from by
        rcases hor with ⟨rfl, rfl⟩ | ⟨rfl, rfl⟩
        · exact lv_facts hM (by omega) (by rw [nG]; omega)
        · exact lv_facts hM.swap (by omega) (by rw [nG]; omega))
      obtain ⟨kv, tv, _, _, _, v4, v5, v6⟩ := (show ∃ k t, k < (lv G' i).length ∧ tourIx (lv G' i) (v : Int) = k ∧ (lv G' i)[k]?.getD [] = t ∧ t ∈ lv G' i ∧ ((v : Int), (-1 : Int)) ∈ t ∧ t.length ≤ 2352 from by
        rcases hor with ⟨rfl, rfl⟩ | ⟨rfl, rfl⟩
        · exact lv_facts hM.swap (by omega) (by rw [nG]; omega)
        · exact lv_facts hM (by omega) (by rw [nG]; omega))
      have HW := hid (step_which (pr := pr') hM u4 u5 v4 v5 hac hor)
      have HU := hid (And.intro u4 (And.intro u5 u6))
      have HV := hid (And.intro v4 (And.intro v5 v6))
      have HM := hid hM
      have hii : ((i + 1 : Nat) : Int) - 1 = (i : Int) := by omega
      rw [hii]
      clear hii hM u4 u5 u6 v4 v5 v6 nG
      have hi0 : (0 : Int) ≤ (i : Int) := by omega
      go_wp2_with fail
      refine (lesserHalf_any wr b G' pr' i u v tu tv HG1.out HM.out.gi HM.out.il HU.out.1 HU.out.2.1 HV.out.1 HV.out.2.1).mono ?_
      rintro e w1 ⟨hb1, hc1, hc2⟩
      have key : ∃ (s o : Int) (ts : List Itm) (b1 o1 c1 : Nat), e = .returned (.slice (some ⟨b1, o1, none⟩) (hT ts s).length c1) ∧ PAt w1 (.slice (some ⟨b1, o1, none⟩) (hT ts s).length c1) (hT ts s) b1 o1 c1 ∧ ts ∈ lv G' i ∧ (s, -1) ∈ ts ∧ sizeV ts * 2 ^ (i + 1) ≤ G'.N ∧ MI G' s o i ∧ ((s = a ∧ o = c) ∨ (s = c ∧ o = a)) ∧ stepF a c i (G', pr') = searchF i s G'.N (fromX ts (leastV ts s, -1)) (G', pr') ∧ ts.length ≤ 2352 := by
        by_cases q : sizeV tu < sizeV tv ∨ (sizeV tu = sizeV tv ∧ u < v)
        · obtain ⟨b1, o1, c1, r1, r2⟩ := hc1 q
          obtain ⟨x1, ⟨o, x2, x3⟩, x4⟩ := HW.out.1 q
          exact ⟨u, o, tu, b1, o1, c1, r1, r2, HU.out.1, HU.out.2.1, x1, x2, x3, x4, HU.out.2.2⟩
        · obtain ⟨b1, o1, c1, r1, r2⟩ := hc2 q
          obtain ⟨x1, ⟨o, x2, x3⟩, x4⟩ := HW.out.2 q
          exact ⟨v, o, tv, b1, o1, c1, r1, r2, HV.out.1, HV.out.2.1, x1, x2, x3, x4, HV.out.2.2⟩
      obtain ⟨s, o, ts, b1, o1, c1, rfl, k2, k3, k4, k5, k6, k7, k8, k9⟩ := key
      have HB1 := hid hb1
      have HK2 := hid k2
      have HK := hid (And.intro k3 (And.intro k4 (And.intro k5 (And.intro k6 (And.intro k7 k8)))))
      have HGx := hid (HG1.out.below hb1)
      have HL9 : Hid ((fromX ts (leastV ts s, -1)).length ≤ 3000) := by show _ ≤ _; rw [fromX_length]; omega
      clear hb1 hc1 hc2 k2 k3 k4 k5 k6 k7 k8 k9 HW
      obtain ⟨T, hTe⟩ : ∃ T, T = fromX ts (leastV ts s, -1) := ⟨_, rfl⟩
      have HRot : Hid (Rot ts T) := by show Rot _ _; rw [hTe]; exact fromX_rot' _ _
      simp only [hT] at HK2 ⊢
      rw [← hTe] at HK2 HK HL9 ⊢
      clear hTe
      have HRF := hid (raiseForest_any w1 b G' pr' i b1 o1 c1 s o ts T HGx.out HK.out.2.2.2.1 HK.out.1 HK.out.2.1 HK.out.2.2.1 HRot.out HK2.out)
      have HSH : Hid (∀ W G2 pr2, IdxG W b G2 pr2 → PB G' G2 s o i ts T 0 0 → PAt W (.slice (some ⟨b1, o1, none⟩) (T.map pv).length c1) (T.map pv) b1 o1 c1 → Calls Tryz.prog 118 #[ptr b, .slice (some ⟨b1, o1, none⟩) (T.map pv).length c1, .int .i64 i] W (ShR W b G' s o i T (G2, pr2))) :=
        fun W G2 pr2 q1 q2 q3 => searchHalf_any W b G' G2 pr2 i b1 o1 c1 s o ts T q1 HK.out.1 HK.out.2.1 HK.out.2.2.1 HRot.out q2 q3 HL9.out
      generalize hTP : T.map pv = TP at HK2 HRF HSH ⊢
      clear hTP
      go_wp2_with fail
      refine HRF.out.mono ?_
      rintro e w2 ⟨rfl, ⟨G2, pr2, r1, r2, r3⟩, hb2⟩
      have HB2 := hid hb2
      have HR1 := hid r1
      have HR2 := hid r2
      have HPB : Hid (PB G' G2 s o i ts T 0 0) := r3.begin_ HK.out.1 HK.out.2.1 HK.out.2.2.1 HRot.out
      have HK3 : Hid (PAt w2 (.slice (some ⟨b1, o1, none⟩) TP.length c1) TP b1 o1 c1) := HK2.out.block (hb2.block b1 HK2.out.lt (fun q => HGx.out.noIt b1 q HK2.out.lt HK2.out.ty))
      clear r1 r2 r3 hb2 HRF
      go_wp2_with fail
      refine (HSH.out w2 G2 pr2 HR1.out HPB.out HK3.out).mono ?_
      rintro e w3 ⟨f, rfl, ⟨G3, pr3, s1, s2, s3⟩, hb3⟩
      have HB3 : Hid (But (fun q => q = b) w w3) := ((hB.out.trans (S' := fun q => q = b) (But.of HB1.out) (fun _ _ q => q)).same HB2.out).same hb3
      have HS1 := hid s1
      have HS3 := hid s3
      have HStep : Hid (stepF a c i (G', pr') = (f, G3, pr3)) := by
        show _ = _
        rw [HK.out.2.2.2.2.2]
        simp only [searchF]
        rw [HR2.out]
        rcases s2 with ⟨rfl, q⟩ | ⟨rfl, q⟩
        · rw [q]
        · rw [q]
      clear s1 s2 s3 hb3 HSH
      cases f
      · have HX2 : Hid (∃ G' pr', IdxG w3 b G' pr' ∧ downF a c i (G', pr') = RR ∧ DM G k a c G' i) := ⟨G3, pr3, HS1.out, downF_false HG2.out HStep.out, HG3.out.down HK.out.2.2.2.2.1 HS3.out⟩
        go_wp2
        exact ⟨⟨i, by omega, by go_num, HX2, HB3⟩, by simp [intOf]⟩
      · have HX2 : Hid (∃ G' pr', IdxG w3 b G' pr' ∧ (G', pr') = RR ∧ DEnd G k G') := ⟨G3, pr3, HS1.out, downF_true HG2.out HStep.out, HG3.out.found HS3.out⟩
        go_wp2
        (try simp only [Exit.inBlock, Exit.then]); refine bodyPost_ret (results_none rfl _ _ _) rfl ?_
        exact ⟨rfl, HX2.out, HB3.out⟩

set_option maxHeartbeats 400000 in
/-- Delete, refused: nothing turns. -/
theorem Delete_bad (b n : Nat) (u v : Int) (w : World) (hn : w.cell? ⟨b, 0, none⟩ = some (.int .i64 n)) (h : ends n u v ≠ 0) :
    Calls Tryz.prog 64 #[ptr b, .int .i64 u, .int .i64 v] w fun e w' => e = .returned (.int .i64 (ends n u v)) ∧ w' = w := by
  generalize he : ends n u v = r at h ⊢
  have He : Hid (ends n u v = r) := he
  clear he
  have hr : (r != 0) = true := by simpa using h
  go_enter Tryz.func64, Tryz.ntmps64
  go_wp2_with fail
  refine (checkEnds_any b n u v _ hn).mono ?_
  rintro e w' ⟨rfl, rfl⟩
  rw [He.out]
  go_wp2_with fail
  go_ret
  exact ⟨rfl, rfl⟩

set_option maxHeartbeats 400000 in
/-- Delete of an edge that is not there: nothing turns. -/
theorem Delete_none (b : Nat) (G : Gr) (pr : Int) (u v : Nat) (w : World) (h : IdxG w b G pr) (hI : GI G) (hu : u < G.N) (hv : v < G.N) (huv : u ≠ v) (hf : findIx G.edges (min (u : Int) v) (max (u : Int) v) = -1) :
    Calls Tryz.prog 64 #[ptr b, .int .i64 u, .int .i64 v] w fun e w' => e = .returned (.int .i64 4) ∧ Below w.heap.size w w' := by
  obtain ⟨R, F, h1, h2⟩ := h
  have n48 := hI.n48
  have Hok : Hid (ends G.N u v = 0) := ends_ok (vtx_yes (by omega) (by omega)) (vtx_yes (by omega) (by omega)) (by omega)
  have c0 := h1.c0 u v (by omega) (by omega)
  have c1 := h1.c1 u v (by omega) (by omega)
  have c2 := h1.c2 u v (by omega) (by omega)
  rw [look_no hf] at c0 c1 c2
  have cn := h1.hn
  have hu' : (u : Int) < 48 := by omega
  have hv' : (v : Int) < 48 := by omega
  simp only at c0 c1 c2
  clear h1 h2 hI hf
  go_enter Tryz.func64, Tryz.ntmps64
  go_wp2_with fail
  refine (checkEnds_any b G.N u v _ cn).mono ?_
  rintro e w' ⟨rfl, hw⟩
  replace hw := hw.symm
  subst hw
  rw [Hok.out]
  go_wp2_with fail
  go_ret
  exact ⟨rfl, (Below.refl _ _).alloc (Nat.le_refl _) _⟩

set_option maxRecDepth 100000 in
set_option maxHeartbeats 2000000 in
/-- Delete of an edge that is there. -/
theorem Delete_old (b : Nat) (G : Gr) (pr : Int) (u v k : Nat) (w : World) (h : IdxG w b G pr) (hI : GI G) (hns : NS G) (hu : u < G.N) (hv : v < G.N) (huv : u ≠ v) (hf : findIx G.edges (min (u : Int) v) (max (u : Int) v) = k) :
    Calls Tryz.prog 64 #[ptr b, .int .i64 u, .int .i64 v] w fun e w' => e = .returned (.int .i64 0) ∧ (∃ G' pr', IdxG w' b G' pr' ∧ delF G pr (min (u : Int) v) (max (u : Int) v) k = (G', pr') ∧ DEnd G k G') ∧ But (fun q => q = b) w w' := by
  obtain ⟨R, F, h1, h2⟩ := h
  have n48 := hI.n48
  have l5 := log2_le5 hI.n1 n48
  obtain ⟨k1, k2, k3⟩ := find_ge hf
  have Hok : Hid (ends G.N u v = 0) := ends_ok (vtx_yes (by omega) (by omega)) (vtx_yes (by omega) (by omega)) (by omega)
  have c0 := h1.c0 u v (by omega) (by omega)
  have c1 := h1.c1 u v (by omega) (by omega)
  have c2 := h1.c2 u v (by omega) (by omega)
  rw [look_at hf] at c0 c1 c2
  have cn := h1.hn
  have hu' : (u : Int) < 48 := by omega
  have hv' : (v : Int) < 48 := by omega
  simp only at c0 c1 c2
  obtain ⟨e, he⟩ : ∃ e, e = G.edges[k]?.getD e0 := ⟨_, rfl⟩
  rw [← he] at c1 c2 k2 k3
  have hem : e ∈ G.edges := by rw [he, get_eq k1]; exact List.getElem_mem k1
  have be := hI.ed e hem
  obtain ⟨l, hl⟩ : ∃ l : Nat, e.lev = l := ⟨e.lev.toNat, by omega⟩
  rw [hl] at c2
  have hl5 : l ≤ Nat.log2 G.N := by omega
  have HE := hid he
  have HL := hid hl
  have HK := hid (And.intro k2 k3)
  have H1 := hid h1
  have H2 := hid h2
  have HI := hid hI
  have HN := hid hns
  have HF := hid hf
  have blt := h1.row.lt
  have HA : Hid (∀ j, (w.alloc (.cells #[.bool true, .bool e.tree, .int .i64 l] 95)).cell? ⟨w.heap.size, j, none⟩ = #[Value.bool true, .bool e.tree, .int .i64 l][j]?) := fun j => new_cell _ _ _ j
  have HAs : Hid (w.heap.size < (w.alloc (.cells #[.bool true, .bool e.tree, .int .i64 l] 95)).heap.size) := by show _ < _; simp
  have HAb : Hid (Below w.heap.size w (w.alloc (.cells #[.bool true, .bool e.tree, .int .i64 l] 95))) := (Below.refl _ _).alloc (Nat.le_refl _) _
  clear h1 h2 hI hns hf k2 k3 he hl hem be
  obtain ⟨tr, htr⟩ : ∃ tr, tr = e.tree := ⟨_, rfl⟩
  rw [← htr] at c1 HA HAs HAb
  have HTr := hid htr
  clear htr
  go_enter Tryz.func64, Tryz.ntmps64
  go_wp2_with fail
  refine (checkEnds_any b G.N u v _ cn).mono ?_
  rintro e' w' ⟨rfl, hw⟩
  replace hw := hw.symm
  subst hw
  rw [Hok.out]
  go_wp2_with fail
  generalize w.alloc (.cells #[.bool true, .bool tr, .int .i64 l] 95) = wa at HA HAs HAb ⊢
  clear c0 c1 c2 cn
  refine (setEdge_any wa b G.N (look G.edges) R pr F u v false false 0 (H1.out.below HAb.out) (by omega) (by omega)).mono ?_
  rintro e' w1 ⟨rfl, ⟨F1, hi1⟩, hb1⟩
  have z1 : w1.cell? ⟨w.heap.size, 1, none⟩ = some (.bool tr) := by rw [World.cell?_of_block (w := wa) (a := ⟨w.heap.size, 1, none⟩) (hb1.block w.heap.size HAs.out (fun q : w.heap.size = b => by omega))]; exact HA.out 1
  have z2 : w1.cell? ⟨w.heap.size, 2, none⟩ = some (.int .i64 l) := by rw [World.cell?_of_block (w := wa) (a := ⟨w.heap.size, 2, none⟩) (hb1.block w.heap.size HAs.out (fun q : w.heap.size = b => by omega))]; exact HA.out 2
  have HS1 : Hid (w.heap.size < w1.heap.size) := Nat.lt_of_lt_of_le HAs.out hb1.size
  have HI1 := hid (hi1.congr (E' := look (delE G k).edges) (R' := R) (fun x y _ _ => by
    show _ = look (G.edges.eraseIdx k) x y
    rw [look_del HI.out.nd k1 (u := u) (v := v) (by rw [← HE.out]; exact Prod.ext HK.out.1 HK.out.2)]) (fun _ _ _ _ => rfl))
  have HB1 : Hid (But (fun q => q = b) w w1) := (But.of HAb.out).trans hb1 (fun _ _ q => q)
  clear hi1 hb1 HA HAs HAb
  cases tr
  · have HEnd : Hid (∃ G' pr', IdxG w1 b G' pr' ∧ delF G pr (min (u : Int) v) (max (u : Int) v) k = (G', pr') ∧ DEnd G k G') := by
      refine ⟨delE G k, pr, ⟨R, F1, HI1.out, H2.out.delE k⟩, ?_, rfl, rfl, rfl, HI.out.drop k1 rfl (by rw [← HE.out]; exact HTr.out.symm), HN.out.drop k⟩
      simp only [delF]; rw [if_pos (by rw [← HE.out]; exact HTr.out.symm)]
    go_wp2
    go_ret
    exact ⟨rfl, HEnd.out, HB1.out⟩
  · have hem : e ∈ G.edges := by rw [HE.out, get_eq k1]; exact List.getElem_mem k1
    obtain ⟨m0, _⟩ := HI.out.cutAll HN.out k1 HE.out.symm HTr.out.symm HL.out
    have HM0 := hid m0
    have tlen : l + 1 ≤ G.tours.length := by rw [HI.out.tl]; omega
    have HC : Hid (∀ j, j ≤ l → ∃ A B, ∃ vt va vb : Nat, CutQ (R j) A B vt va vb u v ∧ FR (cutR (R j) A B vt va vb) (cutL (lv G j) e.u e.v)) := by
      intro j hj
      have hjl : j ≤ Nat.log2 G.N := by omega
      obtain ⟨t, t1, t2, t3, _, _⟩ := HI.out.tree_same hjl hem HTr.out.symm (by rw [HL.out]; omega)
      have huv2 : (e.u = u ∧ e.v = v) ∨ (e.u = v ∧ e.v = u) := by have q1 := HK.out.1; have q2 := HK.out.2; omega
      rcases huv2 with ⟨q1, q2⟩ | ⟨q1, q2⟩
      · rw [q1, q2] at t2 ⊢
        obtain ⟨A, B, vt, va, vb, p1, p2, _⟩ := (H2.out.fr j hjl).cut (HI.out.li j hjl) n48 HI.out.edE (u := (u : Int)) (v := (v : Int)) (by omega) (by omega) t1 t2
        exact ⟨A, B, vt, va, vb, p1, p2⟩
      · rw [q1, q2] at t3 ⊢
        obtain ⟨A, B, vt, va, vb, p1, _, p2⟩ := (H2.out.fr j hjl).cut (HI.out.li j hjl) n48 HI.out.edE (u := (u : Int)) (v := (v : Int)) (by omega) (by omega) t1 t3
        exact ⟨A, B, vt, va, vb, p1, p2⟩
    clear m0 hem
    have bne : w.heap.size ≠ b := by omega
    go_wp2_with fail
    refine (cutEdge_any w1 b G.N (look (delE G k).edges) R pr F1 u v l (fun j Q => FR Q (cutL (lv G j) e.u e.v)) HI1.out (by omega) HC.out).mono ?_
    rintro e' w2 ⟨rfl, ⟨R2, F2, r1, r2, r3⟩, hb2⟩
    have z3 : w2.cell? ⟨w.heap.size, 2, none⟩ = some (.int .i64 l) := by rw [World.cell?_of_block (w := w1) (a := ⟨w.heap.size, 2, none⟩) (hb2.block w.heap.size HS1.out (fun q : w.heap.size = b => bne q))]; exact z2
    have HG2 : Hid (IdxG w2 b (cuts (delE G k) e.u e.v (l + 1)) pr) := by
      refine ⟨R2, F2, ?_, (H2.out.delE k).cuts tlen r1 r2 (by show l ≤ Nat.log2 G.N; omega)⟩
      rw [cuts_N, cuts_edges]; exact r3
    have HB2 : Hid (But (fun q => q = b) w w2) := HB1.out.same hb2
    have HDM : Hid (DM G k e.u e.v (cuts (delE G k) e.u e.v (l + 1)) (l + 1)) :=
      ⟨by rw [cuts_N]; rfl, by rw [cuts_len]; rfl, by rw [cuts_edges], fun q => by omega, fun i q => by rw [← show l = i by omega]; exact HM0.out⟩
    have HEu : Hid (e.u = min (u : Int) v ∧ e.v = max (u : Int) v) := HK
    have HDel : Hid (downF (min (u : Int) v) (max (u : Int) v) (l + 1) (cuts (delE G k) (min (u : Int) v) (max (u : Int) v) (l + 1), pr) = delF G pr (min (u : Int) v) (max (u : Int) v) k) := by
      show _ = _
      simp only [delF]
      rw [← HE.out, ← HTr.out, if_neg (by simp), HL.out, Int.toNat_natCast]
    clear r1 r2 r3 hb2 z1 z2 HC
    go_wp2_with fail
    have hg2 := HG2.out
    have hdm := HDM.out
    rw [HEu.out.1, HEu.out.2] at hg2 hdm
    refine (reconnect_any w2 b G _ k pr u v l (min (u : Int) v) (max (u : Int) v) _ hg2 hdm HDel.out (by omega) (by omega) hu hv (by omega)).mono ?_
    rintro e' w3 ⟨rfl, ⟨G3, pr3, s1, s2, s3⟩, hb3⟩
    have HEnd : Hid ((∃ G' pr', IdxG w3 b G' pr' ∧ delF G pr (min (u : Int) v) (max (u : Int) v) k = (G', pr') ∧ DEnd G k G') ∧ But (fun q => q = b) w w3) := ⟨⟨G3, pr3, s1, s2.symm, s3⟩, HB2.out.same hb3⟩
    clear s1 s2 s3 hb3 hg2 hdm
    go_wp2
    go_ret
    exact ⟨rfl, HEnd.out.1, HEnd.out.2⟩

end Go.Proofs.YtckallochdegiaaGreat
namespace Go.Proofs.YtckallochdegiaaGreat
set_option linter.unusedVariables false
set_option linter.unusedSimpArgs false
open Go.RowKit

section
variable {G : Gr} {R : Nat → Nat → List Itm}

/-- Who is in a tree of level 0 is who can be reached. -/
theorem tree_rch (hI : GI G) (hns : NS G) {t : List Itm} (ht : t ∈ lv G 0) {v : Nat} (hv : v < G.N) (hvt : ((v : Int), (-1 : Int)) ∈ t) {x : Nat} (hx : x < G.N) : ((x : Int), (-1 : Int)) ∈ t ↔ Rch G.edges false 0 v x := by
  rw [hI.conn hns (a := (v : Int)) (b := (x : Int)) (by omega) (by omega) (by omega) (by omega)]
  constructor
  · intro q; exact ⟨t, ht, hvt, q⟩
  · rintro ⟨s, s1, s2, s3⟩
    have := (hI.li 0 (by omega)).uniq s1 ht s2 hvt rfl
    rw [this] at s3; exact s3

theorem verts_nodup {t : List Itm} (nd : t.Nodup) (ok : ∀ x, x ∈ t → OkI x) : (verts t).Nodup := by
  rw [verts, List.Nodup, List.pairwise_map]
  refine List.Pairwise.imp_of_mem ?_ (List.Pairwise.filter _ nd)
  intro a b ha hb hab e
  simp only [List.mem_filter, decide_eq_true_eq] at ha hb
  have oa := ok a ha.1
  have ob := ok b hb.1
  have a1 := oa.1
  have b1 := ob.1
  exact hab (Prod.ext (by omega) (by rw [oa.neg.1 ha.2, ob.neg.1 hb.2]))

theorem tree_size (hI : GI G) (hns : NS G) {t : List Itm} (ht : t ∈ lv G 0) {v : Nat} (hv : v < G.N) (hvt : ((v : Int), (-1 : Int)) ∈ t) {x : Itm} {r : Nat → Bool} (hr : ∀ y, y < G.N → (r y = true ↔ Rch G.edges false 0 v y)) : (verts (fromX t x)).length = cnt r G.N := by
  have L := hI.li 0 (by omega)
  have ok := hI.okI (i := 0) (by omega) ht
  have okf : ∀ y, y ∈ fromX t x → OkI y := fun y hy => ok y ((fromX_mem _ _ _).1 hy)
  have nd := (fromX_rot' t x).nodup (L.tr t ht).nd
  rw [nodup_cnt G.N (verts (fromX t x)) (verts_nodup nd okf) (fun y hy => ?_)]
  · refine cnt_congr G.N (fun y hy => ?_)
    have := verts_mem okf (y := y)
    rw [fromX_mem, tree_rch hI hns ht hv hvt hy, ← hr y hy] at this
    cases hry : r y
    · simp only [decide_eq_false_iff_not]; intro q; have := this.1 q; rw [hry] at this; simp at this
    · simp only [decide_eq_true_eq]; exact this.2 hry
  · have m := (verts_mem okf).1 hy
    have := (L.rng t ht _ ((fromX_mem _ _ _).1 m)).1
    simp only at this; omega

theorem cnt_cut {f : Nat → Bool} {n : Nat} : ∀ m, n ≤ m → (∀ z, n ≤ z → z < m → f z = false) → cnt f m = cnt f n := by
  intro m
  induction m with
  | zero => intro h _; have : n = 0 := by omega
            rw [this]
  | succ m ih =>
    intro h hz
    by_cases c : n = m + 1
    · rw [c]
    · rw [cnt_succ, hz m (by omega) (by omega), ih (by omega) (fun z h1 h2 => hz z h1 (by omega))]; simp

theorem trees_count (hI : GI G) (hns : NS G) (hS : Sim G R) {r : Nat → Bool} (hr : ∀ v : Nat, v < G.N → (r v = true ↔ ∀ u : Nat, u < v → ¬ Rch G.edges false 0 v u)) : cnt (fun z => !(R 0 z).isEmpty) 48 = cnt r G.N := by
  have L := hI.li 0 (by omega)
  have F := hS.fr 0 (by omega)
  have n48 := hI.n48
  have lt : ∀ t z, t ∈ lv G 0 → LeastAt t (z : Nat) → z < G.N := fun t z ht hz => by
    have := (L.rng t ht _ hz.1).1; simp only at this; omega
  rw [cnt_cut (n := G.N) 48 n48 (fun z h1 h2 => ?_)]
  · refine cnt_congr G.N (fun z hz => ?_)
    have key : R 0 z ≠ [] ↔ ∀ u : Nat, u < z → ¬ Rch G.edges false 0 z u := by
      constructor
      · intro hne u hu q
        obtain ⟨t, ht, hl⟩ := F.no z (by omega) hne
        have := (tree_rch hI hns ht hz hl.1 (x := u) (by omega)).2 q
        have := hl.2 _ this
        simp only at this; omega
      · intro h
        obtain ⟨t, ht, hzt⟩ := L.all (z : Int) (by omega) (by omega)
        obtain ⟨y, y1, y2⟩ := L.least n48 ht
        have yz : y = z := by
          have := y2.2 _ hzt
          simp only at this
          by_cases c : y = z
          · exact c
          · exact absurd ((tree_rch hI hns ht hz hzt (x := y) y1).1 y2.1) (h y (by omega))
        subst yz
        rw [F.at_ t ht y y2]
        intro e
        have := congrArg List.length e
        rw [List.length_map, fromX_length] at this
        exact L.ne t ht (List.eq_nil_of_length_eq_zero this)
    rw [← hr z hz] at key
    cases hrz : r z
    · have : R 0 z = [] := by
        by_cases c : R 0 z = []
        · exact c
        · have := key.1 c; rw [hrz] at this; simp at this
      rw [this]; rfl
    · have := key.2 hrz
      cases hR : R 0 z with
      | nil => exact absurd hR this
      | cons a l => rfl
  · have : R 0 z = [] := by
      by_cases c : R 0 z = []
      · exact c
      · obtain ⟨t, ht, hl⟩ := F.no z (by omega) c
        have := lt t z ht hl; omega
    rw [this]; rfl

/-- How many edges the rows below m tell. -/
def cE (E : Nat → Nat → E3) : Nat → Nat
  | 0 => 0
  | m + 1 => cE E m + cnt (fun u => (E u m).1) m

def eL (E : Nat → Nat → E3) : Nat → List Itm
  | 0 => []
  | m + 1 => eL E m ++ ((List.range m).filter fun u => (E u m).1).map fun u : Nat => ((u : Int), (m : Int))

theorem cnt_filter (f : Nat → Bool) (m : Nat) : ((List.range m).filter f).length = cnt f m := by
  induction m with
  | zero => rfl
  | succ m ih => rw [List.range_succ, List.filter_append, List.length_append, ih, cnt_succ]; congr 1; cases h : f m <;> simp [h]

theorem eL_length (E : Nat → Nat → E3) (m : Nat) : (eL E m).length = cE E m := by
  induction m with
  | zero => rfl
  | succ m ih => rw [eL, List.length_append, ih, List.length_map, cnt_filter, cE]
theorem eL_mem (E : Nat → Nat → E3) (m : Nat) (x : Itm) : x ∈ eL E m ↔ ∃ u v : Nat, u < v ∧ v < m ∧ (E u v).1 = true ∧ x = ((u : Int), (v : Int)) := by
  induction m with
  | zero => simp [eL]
  | succ m ih =>
    rw [eL, List.mem_append, ih]
    simp only [List.mem_map, List.mem_filter, List.mem_range]
    constructor
    · rintro (⟨u, v, h1, h2, h3, h4⟩ | ⟨u, ⟨h1, h2⟩, h3⟩)
      · exact ⟨u, v, h1, by omega, h3, h4⟩
      · exact ⟨u, m, h1, by omega, h2, h3.symm⟩
    · rintro ⟨u, v, h1, h2, h3, h4⟩
      by_cases c : v = m
      · subst c; exact Or.inr ⟨u, ⟨h1, h3⟩, h4.symm⟩
      · exact Or.inl ⟨u, v, h1, by omega, h3, h4⟩
theorem eL_nodup (E : Nat → Nat → E3) (m : Nat) : (eL E m).Nodup := by
  induction m with
  | zero => simp [eL]
  | succ m ih =>
    rw [eL, List.nodup_append]
    refine ⟨ih, ?_, fun a ha b hb e => ?_⟩
    · rw [List.Nodup, List.pairwise_map]
      refine List.Pairwise.imp ?_ (List.Pairwise.filter _ (List.nodup_range (n := m)))
      intro a b hab e
      have := congrArg Prod.fst e
      simp only at this; omega
    · obtain ⟨u, v, h1, h2, _, h4⟩ := (eL_mem E m a).1 ha
      simp only [List.mem_map] at hb
      obtain ⟨y, _, h5⟩ := hb
      rw [← h5, h4] at e
      have := congrArg Prod.snd e
      simp only at this; omega

theorem edges_count (hI : GI G) : cE (look G.edges) G.N = G.edges.length := by
  rw [← eL_length]
  have sub1 : ∀ x, x ∈ eL (look G.edges) G.N → x ∈ G.edges.map key := by
    intro x hx
    obtain ⟨u, v, h1, h2, h3, rfl⟩ := (eL_mem _ _ _).1 hx
    obtain ⟨k, hk⟩ := look_fst.1 h3
    rw [Int.min_eq_left (by omega), Int.max_eq_right (by omega)] at hk
    obtain ⟨k1, k2, k3⟩ := find_ge hk
    exact List.mem_map.2 ⟨G.edges[k]?.getD e0, by rw [get_eq k1]; exact List.getElem_mem k1, Prod.ext k2 k3⟩
  have sub2 : ∀ x, x ∈ G.edges.map key → x ∈ eL (look G.edges) G.N := by
    intro x hx
    obtain ⟨e, he, rfl⟩ := List.mem_map.1 hx
    have b := hI.ed e he
    obtain ⟨k, k1, k2, k3⟩ := find_mem hI.nd he
    refine (eL_mem _ _ _).2 ⟨e.u.toNat, e.v.toNat, by omega, by omega, look_fst.2 ⟨k, ?_⟩, ?_⟩
    · rw [Int.toNat_of_nonneg (by omega), Int.toNat_of_nonneg (by omega), Int.min_eq_left (by omega), Int.max_eq_right (by omega)]; exact k2
    · rw [Int.toNat_of_nonneg (by omega), Int.toNat_of_nonneg (by omega)]; rfl
  have l1 := nodup_len (eL_nodup (look G.edges) G.N) sub1
  have l2 := nodup_len hI.nd sub2
  rw [List.length_map] at l1 l2
  omega
end

/-- What Connected answers. -/
def ConnR (G : Gr) (u v : Int) (w : World) (e : Ending) (w' : World) : Prop :=
  ((vtx G.N u = false ∨ vtx G.N v = false) ∧ e = .returned (.tuple #[.bool false, .int .i64 1]) ∧ w' = w) ∨
  (vtx G.N u = true ∧ vtx G.N v = true ∧ ∃ c : Bool, e = .returned (.tuple #[.bool c, .int .i64 0]) ∧ (c = true ↔ Rch G.edges false 0 u v) ∧ Below w.heap.size w w')

set_option maxRecDepth 100000 in
set_option maxHeartbeats 1000000 in
theorem iConn_any (w : World) (b : Nat) (G : Gr) (pr : Int) (u v : Int) (h : IdxG w b G pr) (hI : GI G) (hns : NS G) : Calls Tryz.prog 42 #[ptr b, .int .i64 u, .int .i64 v] w (ConnR G u v w) := by
  have HG := hid h
  have cn := h.cn
  clear h
  cases h0 : vtx G.N u
  · have H0 := hid h0
    clear h0
    go_enter Tryz.func42, Tryz.ntmps42
    go_wp2_with fail
    refine (isVertex_any b G.N u _ cn).mono ?_
    rintro e w' ⟨rfl, rfl⟩
    rw [H0.out]
    go_wp2_with fail
    go_ret2
    exact Or.inl ⟨Or.inl H0.out, rfl, rfl⟩
  · have H0 := hid h0
    clear h0
    cases h1 : vtx G.N v
    · have H1 := hid h1
      clear h1
      go_enter Tryz.func42, Tryz.ntmps42
      go_wp2_with fail
      refine (isVertex_any b G.N u _ cn).mono ?_
      rintro e w' ⟨rfl, rfl⟩
      rw [H0.out]
      go_wp2_with fail
      refine (isVertex_any b G.N v _ cn).mono ?_
      rintro e w' ⟨rfl, rfl⟩
      rw [H1.out]
      go_wp2_with fail
      go_ret2
      exact Or.inl ⟨Or.inr H1.out, rfl, rfl⟩
    · have H1 := hid h1
      simp only [vtx, Bool.and_eq_true, decide_eq_true_eq] at h1
      have h2 := H0.out
      simp only [vtx, Bool.and_eq_true, decide_eq_true_eq] at h2
      obtain ⟨x, rfl⟩ : ∃ x : Nat, u = x := ⟨u.toNat, by omega⟩
      obtain ⟨y, rfl⟩ : ∃ y : Nat, v = y := ⟨v.toNat, by omega⟩
      have hxn : x < G.N := by omega
      have hyn : y < G.N := by omega
      have HC := hid (hI.conn hns (a := (x : Int)) (b := (y : Int)) (by omega) (by omega) (by omega) (by omega))
      clear h1 h2
      go_enter Tryz.func42, Tryz.ntmps42
      go_wp2_with fail
      refine (isVertex_any b G.N x _ cn).mono ?_
      rintro e w' ⟨rfl, rfl⟩
      rw [H0.out]
      go_wp2_with fail
      refine (isVertex_any b G.N y _ cn).mono ?_
      rintro e w' ⟨rfl, rfl⟩
      rw [H1.out]
      go_wp2_with fail
      refine (joined_any _ b G pr x y HG.out hI hxn hyn).mono ?_
      rintro e w1 ⟨⟨c, rfl, hc⟩, hB⟩
      have HB := hid hB
      have Hc := hid hc
      clear hB hc
      go_wp2_with fail
      go_ret2
      exact Or.inr ⟨H0.out, H1.out, c, rfl, Hc.out.trans HC.out.symm, HB.out⟩

/-- What Size answers. -/
def SizeR (G : Gr) (v : Int) (w : World) (e : Ending) (w' : World) : Prop :=
  (vtx G.N v = false ∧ e = .returned (.tuple #[.int .i64 0, .int .i64 1]) ∧ w' = w) ∨
  (vtx G.N v = true ∧ ∃ k : Nat, e = .returned (.tuple #[.int .i64 k, .int .i64 0]) ∧ (∀ r : Nat → Bool, (∀ y : Nat, y < G.N → (r y = true ↔ Rch G.edges false 0 v y)) → k = cnt r G.N) ∧ Below w.heap.size w w')

set_option maxRecDepth 100000 in
set_option maxHeartbeats 1000000 in
theorem iSize_any (w : World) (b : Nat) (G : Gr) (pr : Int) (v : Int) (h : IdxG w b G pr) (hI : GI G) (hns : NS G) : Calls Tryz.prog 44 #[ptr b, .int .i64 v] w (SizeR G v w) := by
  have HG := hid h
  have cn := h.cn
  clear h
  cases h0 : vtx G.N v
  · have H0 := hid h0
    clear h0
    go_enter Tryz.func44, Tryz.ntmps44
    go_wp2_with fail
    refine (isVertex_any b G.N v _ cn).mono ?_
    rintro e w' ⟨rfl, rfl⟩
    rw [H0.out]
    go_wp2_with fail
    go_ret2
    exact Or.inl ⟨H0.out, rfl, rfl⟩
  · have H0 := hid h0
    simp only [vtx, Bool.and_eq_true, decide_eq_true_eq] at h0
    obtain ⟨x, rfl⟩ : ∃ x : Nat, v = x := ⟨v.toNat, by omega⟩
    have hxn : x < G.N := by omega
    obtain ⟨t, ht, hxt⟩ := (hI.li 0 (by omega)).all (x : Int) (by omega) (by omega)
    have HTs : Hid (∀ r : Nat → Bool, (∀ y : Nat, y < G.N → (r y = true ↔ Rch G.edges false 0 x y)) → (verts (fromX t (leastV t x, -1))).length = cnt r G.N) := fun r hr => tree_size hI hns ht hxn hxt hr
    have HVx := hid (fun W (q : IdxG W b G pr) => vertices_any W b G pr x t q hI hxn ht hxt)
    have vn : 0 < (verts (fromX t (leastV t x, -1))).length := by
      rw [verts_length, sizeV_rot (fromX_rot' _ _)]
      have := hI.len3 (i := 0) (by omega) ht
      omega
    clear h0 ht hxt
    generalize verts (fromX t (leastV t x, -1)) = L at HTs HVx vn
    go_enter Tryz.func44, Tryz.ntmps44
    go_wp2_with fail
    refine (isVertex_any b G.N x _ cn).mono ?_
    rintro e w' ⟨rfl, rfl⟩
    rw [H0.out]
    go_wp2_with fail
    refine (HVx.out _ HG.out).mono ?_
    rintro e w1 ⟨val, rfl, hN, hB⟩
    obtain ⟨g, c, hv, _, _, hlc, hcm, _, _⟩ := hN.at_ vn
    unfold maxLen at hcm
    subst hv
    have HB := hid hB
    clear hN hB
    go_wp2_with fail
    go_ret2
    exact Or.inr ⟨H0.out, L.length, rfl, HTs.out, HB.out⟩

/-- What Members answers. -/
def MemR (G : Gr) (v : Int) (w : World) (e : Ending) (w' : World) : Prop :=
  (vtx G.N v = false ∧ e = .returned (.tuple #[.slice none 0 0, .int .i64 1]) ∧ w' = w) ∨
  (vtx G.N v = true ∧ ∃ val t, e = .returned (.tuple #[val, .int .i64 0]) ∧ t ∈ lv G 0 ∧ (v, -1) ∈ t ∧ NumsAt w' w.heap.size val (verts (fromX t (leastV t v, -1))) ∧ 0 < (verts (fromX t (leastV t v, -1))).length ∧ Below w.heap.size w w')

set_option maxRecDepth 100000 in
set_option maxHeartbeats 1000000 in
theorem Members_any (w : World) (b : Nat) (G : Gr) (pr : Int) (v : Int) (h : IdxG w b G pr) (hI : GI G) : Calls Tryz.prog 38 #[ptr b, .int .i64 v] w (MemR G v w) := by
  have HG := hid h
  have cn := h.cn
  clear h
  cases h0 : vtx G.N v
  · have H0 := hid h0
    clear h0
    go_enter Tryz.func38, Tryz.ntmps38
    go_wp2_with fail
    refine (isVertex_any b G.N v _ cn).mono ?_
    rintro e w' ⟨rfl, rfl⟩
    rw [H0.out]
    go_wp2_with fail
    go_ret2
    exact Or.inl ⟨H0.out, rfl, rfl⟩
  · have H0 := hid h0
    simp only [vtx, Bool.and_eq_true, decide_eq_true_eq] at h0
    obtain ⟨x, rfl⟩ : ∃ x : Nat, v = x := ⟨v.toNat, by omega⟩
    have hxn : x < G.N := by omega
    obtain ⟨t, ht, hxt⟩ := (hI.li 0 (by omega)).all (x : Int) (by omega) (by omega)
    have HVx := hid (fun W (q : IdxG W b G pr) => vertices_any W b G pr x t q hI hxn ht hxt)
    have vn : 0 < (verts (fromX t (leastV t x, -1))).length := by
      rw [verts_length, sizeV_rot (fromX_rot' _ _)]
      have := hI.len3 (i := 0) (by omega) ht
      omega
    have HVn := hid vn
    have HT := hid (And.intro ht hxt)
    clear h0 ht hxt vn
    go_enter Tryz.func38, Tryz.ntmps38
    go_wp2_with fail
    refine (isVertex_any b G.N x _ cn).mono ?_
    rintro e w' ⟨rfl, rfl⟩
    rw [H0.out]
    go_wp2_with fail
    refine (HVx.out _ HG.out).mono ?_
    rintro e w1 ⟨val, rfl, hN, hB⟩
    have HN := hid hN
    have HB := hid hB
    clear hN hB
    go_wp2_with fail
    go_ret2
    exact Or.inr ⟨H0.out, val, t, rfl, HT.out.1, HT.out.2, HN.out, HVn.out, HB.out⟩

set_option maxRecDepth 100000 in
set_option maxHeartbeats 1000000 in
theorem countEdges_any (w : World) (b n : Nat) (E : Nat → Nat → E3) (R : Nat → Nat → List Itm) (r : Int) (F : Nat → Value) (h : IdxP w b n E R r F) : Calls Tryz.prog 68 #[ptr b] w fun e w' => e = .returned (.int .i64 (cE E n : Nat)) ∧ w' = w := by
  have HI := hid h
  have n48 := h.n1
  have dn := h.hn
  clear h
  have HL : Hid (∀ m, m ≤ 48 → cE E m ≤ m * 48) := by
    intro m
    induction m with
    | zero => intro _; simp [cE]
    | succ m ih => intro hm; have := ih (by omega); have := cnt_le (fun u => (E u m).1) m; simp only [cE]; omega
  go_enter Tryz.func68, Tryz.ntmps68
  go_wp2_with fail
  go_loopw [3, 4] (fun a c wr => ∃ q v : Nat, v ≤ n ∧ a = .int .i64 q ∧ c = .int .i64 v ∧ q ≤ v * 48 ∧ Hid (q = cE E v) ∧ wr = w) (fun _ c _ => n - (intOf c).toNat)
  case atStart => exact ⟨0, 0, by omega, rfl, rfl, by omega, rfl, rfl⟩
  case round =>
    obtain ⟨q, v, hv, rfl, rfl, hq48, hq, hw⟩ := hrel
    replace hw := hw.symm
    subst hw
    by_cases cv : v < n
    · have cv' : (v : Int) < (n : Int) := by omega
      go_wp2_with fail
      go_loopw [3, 5] (fun a c wr => ∃ p u : Nat, u ≤ v ∧ a = .int .i64 p ∧ c = .int .i64 u ∧ p ≤ v * 48 + u ∧ Hid (p = cE E v + cnt (fun u => (E u v).1) u) ∧ wr = w) (fun _ c _ => v - (intOf c).toNat)
      case atStart => exact ⟨q, 0, by omega, rfl, rfl, by omega, by show _ = _; rw [hq.out]; rfl, rfl⟩
      case round =>
        obtain ⟨p, u, hu, rfl, rfl, hp48, hp, hw⟩ := hrel
        replace hw := hw.symm
        subst hw
        by_cases cu : u < v
        · have cu' : (u : Int) < (v : Int) := by omega
          have u48 : (u : Int) < 48 := by omega
          have v48 : (v : Int) < 48 := by omega
          have d := HI.out.c0 u v (by omega) (by omega)
          have HC := hid (cnt_succ (fun u => (E u v).1) u)
          cases hE : (E u v).1
          · rw [hE] at d
            have HE := hid hE
            clear hE
            go_wp2
            exact ⟨⟨p, u + 1, by omega, rfl, by go_num, by omega, by show _ = _; rw [HC.out, HE.out, hp.out]; simp, by trivial⟩, by simp [intOf]; omega⟩
          · rw [hE] at d
            have HE := hid hE
            clear hE
            go_wp2
            exact ⟨⟨p + 1, u + 1, by omega, by go_num, by go_num, by omega, by show _ = _; rw [HC.out, HE.out, hp.out]; simp; omega, by trivial⟩, by simp [intOf]; omega⟩
        · have hue : u = v := by omega
          have HP : Hid (p = cE E (v + 1)) := by show _ = _; rw [hp.out, hue]; rfl
          clear hue
          go_wp2
          exact ⟨⟨p, v + 1, by omega, rfl, by go_num, by omega, HP, by trivial⟩, by simp [intOf]; omega⟩
    · have hve : v = n := by omega
      have HQ : Hid (q = cE E n) := by show _ = _; rw [hq.out, hve]
      clear hve
      go_wp2
      go_ret
      exact ⟨ret_int (by have := HQ.out; omega), rfl⟩

theorem results_tmp4 {fn : Func} {t u v x : Tmp} (h : fn.results = #[.tmp t, .tmp u, .tmp v, .tmp x]) (tmps : Array Value) (P : Program) (w : World) :
    (results fn tmps).run P w = .ok (.tuple #[tmps.getD t undef, tmps.getD u undef, tmps.getD v undef, tmps.getD x undef]) w := by
  simp [results, h]

/-- What Told answers. -/
def ToldR (G : Gr) (pr : Int) (w : World) (e : Ending) (w' : World) : Prop := ∃ c : Nat, e = .returned (.tuple #[.int .i64 G.N, .int .i64 c, .int .i64 G.edges.length, .int .i64 pr]) ∧ (∀ r : Nat → Bool, (∀ v : Nat, v < G.N → (r v = true ↔ ∀ u : Nat, u < v → ¬ Rch G.edges false 0 v u)) → c = cnt r G.N) ∧ Below w.heap.size w w'

set_option maxRecDepth 100000 in
set_option maxHeartbeats 1000000 in
theorem Told_any (w : World) (b : Nat) (G : Gr) (pr : Int) (h : IdxG w b G pr) (hI : GI G) (hns : NS G) : Calls Tryz.prog 35 #[ptr b] w (ToldR G pr w) := by
  obtain ⟨R, F, h1, h2⟩ := h
  have H1 := hid h1
  have dn := h1.hn
  have dr := h1.hr
  have HC : Hid (∀ r : Nat → Bool, (∀ v : Nat, v < G.N → (r v = true ↔ ∀ u : Nat, u < v → ¬ Rch G.edges false 0 v u)) → cnt (fun z => !(R 0 z).isEmpty) 48 = cnt r G.N) := fun r hr => trees_count hI hns h2 hr
  have HE := hid (edges_count hI)
  clear h1 h2
  generalize hc : cnt (fun z => !(R 0 z).isEmpty) 48 = c at HC
  have Hc := hid hc
  clear hc
  go_enter Tryz.func35, Tryz.ntmps35
  go_wp2_with fail
  refine (Trees_any w b 6913 F (R 0) (H1.out.fo (k := 0) (by omega))).mono ?_
  rintro e w1 ⟨rfl, hw⟩
  replace hw := hw.symm
  subst hw
  rw [Hc.out]
  go_wp2_with fail
  refine (countEdges_any w b G.N (look G.edges) R pr F H1.out).mono ?_
  rintro e w2 ⟨rfl, hw⟩
  replace hw := hw.symm
  subst hw
  rw [HE.out]
  go_wp2_with fail
  go_quiet (fail)
  go_wp2
  (try simp only [Exit.inBlock, Exit.then]); refine bodyPost_ret (results_tmp4 rfl _ _ _) rfl ?_
  exact ⟨c, rfl, HC.out, Below.drewN' _ (Below.refl _ _)⟩

end Go.Proofs.YtckallochdegiaaGreat
