import Derived.Test.YtckallochdegiaaGreatSearchW
namespace Go.Proofs.YtckallochdegiaaGreat
set_option linter.unusedVariables false
set_option linter.unusedSimpArgs false
open Go.RowKit

section
variable {w w' : World} {g : Nat} {G : Gr} {ev : Value} {tb tcap : Nat} {F : Nat → Value} {pr : Int} {i : Nat}

theorem edges_of_owns {B n : Nat} {v : Value} {es : List Edg} (h : w.ownsRow B 89 4 v n (eCells es)) (hn : es.length = n) : Edges w v es ∧ ∀ k, v.ownBlock = some k → B ≤ k := by
  subst hn
  by_cases c : es = []
  · subst c
    rcases h.2 with ⟨rfl, _⟩ | ⟨g, cap, cur, hv, hB, hg, hle, hmx, hsz, _⟩
    · exact ⟨Or.inl ⟨rfl, rfl⟩, fun k q => by simp [Value.ownBlock] at q⟩
    · refine ⟨Or.inr ⟨g, cap, hv, hle, hmx, fun i hi => by simp at hi, fun i hi => by simp at hi, fun i hi => by simp at hi, fun i hi => by simp at hi, cur, hg, hsz⟩, fun k q => ?_⟩
      rw [hv] at q; simp [Value.ownBlock] at q; omega
  · obtain ⟨b, cap, hE, hb⟩ := eat_of_owns h c
    exact ⟨Or.inr ⟨b, cap, hE⟩, fun k q => by rw [hE.own] at q; simp at q; omega⟩

theorem eCells_take (es : List Edg) (k : Nat) : eCells (es.take k) = (eCells es).take (k * 4) := by
  induction es generalizing k with
  | nil => simp [eCells]
  | cons a l ih =>
    cases k with
    | zero => simp [eCells]
    | succ k =>
      have e : eCells (a :: l) = a.cells ++ eCells l := by simp [eCells]
      have e2 : eCells (a :: l.take k) = a.cells ++ eCells (l.take k) := by simp [eCells]
      have la : a.cells.length = 4 := rfl
      rw [List.take_succ_cons, e, e2, List.take_append, la, List.take_of_length_le (l := a.cells) (by omega), ih, show (k + 1) * 4 - 4 = k * 4 by omega]
theorem eCells_drop (es : List Edg) (k : Nat) : eCells (es.drop k) = (eCells es).drop (k * 4) := by
  induction es generalizing k with
  | nil => simp [eCells]
  | cons a l ih =>
    cases k with
    | zero => simp
    | succ k =>
      have e : eCells (a :: l) = a.cells ++ eCells l := by simp [eCells]
      have la : a.cells.length = 4 := rfl
      rw [List.drop_succ_cons, e, List.drop_append, la, ih, show (k + 1) * 4 - 4 = k * 4 by omega, show a.cells.drop ((k + 1) * 4) = [] from List.drop_eq_nil_of_le (by omega), List.nil_append]

/-- The cells ahead of place k. -/
theorem EAt.takeC {es : List Edg} {b cap : Nat} (h : EAt w ev es b cap) (k : Nat) (j : Nat) (u : Value) (hj : (eCells (es.take k))[j]? = some u) : w.cell? ((⟨b, 0, none⟩ : Addr).add j) = some u := by
  rw [addr_add, Nat.zero_add]
  refine h.cells j u ?_
  rw [eCells_take, List.getElem?_take] at hj
  split at hj
  · exact hj
  · simp at hj
theorem EAt.dropC {es : List Edg} {b cap : Nat} (h : EAt w ev es b cap) (k : Nat) (o : Nat) (ho : o = k * 4 ∨ es.drop k = []) (j : Nat) (u : Value) (hj : (eCells (es.drop k))[j]? = some u) : w.cell? ((⟨b, o, none⟩ : Addr).add j) = some u := by
  rcases ho with rfl | ho
  · rw [addr_add]
    refine h.cells _ u ?_
    rw [eCells_drop, List.getElem?_drop] at hj
    exact hj
  · rw [ho] at hj; simp [eCells] at hj

theorem EAt.grown {es : List Edg} {b cap : Nat} {row : Option Nat} (h : EAt w ev es b cap) (k : w.grownBy w' row) (hr : some b ≠ row) : EAt w' ev es b cap := h.block (k.block b h.lt hr)

theorem EAt.takeC' {es : List Edg} {b cap : Nat} (h : EAt w ev es b cap) {k : Nat} (j : Nat) (u : Value) (hj : (eCells (es.take k))[j]? = some u) : w.cell? ((⟨b, 0, none⟩ : Addr).add j) = some u := h.takeC k j u hj
theorem del_c1 {w2 : World} {eb n cap : Nat} (h : GRep w g G ev tb tcap F pr) (k : w.grownBy w2 (Value.slice none 0 0).ownBlock) (he : ev = .slice (some ⟨eb, 0, none⟩) n cap) : w2.cell? ⟨g, 1, none⟩ = some (.slice (some ⟨eb, 0, none⟩) n cap) := by
  rw [World.cell?_of_block (w := w) (a := ⟨g, 1, none⟩) (k.block g h.rg.lt (by simp [Value.ownBlock])), h.c1, he]
theorem del_c13 {w3 : World} {eb n cap : Nat} (h : GRep w g G ev tb tcap F pr) (k : Below w.heap.size w w3) (he : ev = .slice (some ⟨eb, 0, none⟩) n cap) : w3.cell? ⟨g, 1, none⟩ = some (.slice (some ⟨eb, 0, none⟩) n cap) := by
  rw [(h.below k).c1, he]
theorem del_below {w2 w3 : World} {o : Obj} {v : Value} {e size n : Nat} {xs : List Value} (h : (w.alloc o).drew.grownBy w2 (Value.slice none 0 0).ownBlock) (ho : w2.ownsRow (w.heap.size + 1) e size v n xs) (k : w2.grownBy w3 v.ownBlock) : Below (w.heap.size + 1) (w.alloc o) w3 := by
  have hs : w.heap.size + 1 ≤ (w.alloc o).drew.heap.size := by show _ ≤ (w.alloc o).heap.size; simp
  exact (((Below.refl _ (w.alloc o)).drew).grown h hs (fun k hk => by simp [Value.ownBlock] at hk)).grown k (Nat.le_trans hs h.size) (fun k hk => (ho.lt k hk).1)
theorem owns_form {B e size n : Nat} {v : Value} {xs : List Value} (h : w.ownsRow B e size v n xs) : ∃ p n' c, v = .slice p n' c := by
  rcases h.2 with ⟨rfl, _⟩ | ⟨g, cap, cur, hv, _⟩
  · exact ⟨_, _, _, rfl⟩
  · exact ⟨_, _, _, hv⟩
theorem below_of_alloc {w3 : World} {o : Obj} (h : Below (w.heap.size + 1) (w.alloc o) w3) : Below w.heap.size w w3 := ((Below.refl _ _).alloc (Nat.le_refl _) o).trans (h.mono (by omega))

/-- The edge that was read out. -/
theorem del_e {w3 : World} {c : Array Value} {t : Nat} {v2 : Value} (hg : g < w.heap.size) (h : Below (w.heap.size + 1) (w.alloc (.cells c t)) w3) (ho : ∀ k, v2.ownBlock = some k → w.heap.size + 1 ≤ k) (x : Value) :
    (∀ j, (w3.setCell ⟨g, 1, none⟩ x).cell? ⟨w.heap.size, j, none⟩ = c[j]?) ∧ w.heap.size < (w3.setCell ⟨g, 1, none⟩ x).heap.size ∧ ¬ v2.ownBlock = some w.heap.size := by
  have s := h.size
  simp at s
  refine ⟨fun j => ?_, by simp [World.setCell]; omega, fun q => by have := ho _ q; omega⟩
  have b := (But.setCell w3 ⟨g, 1, none⟩ x).block w.heap.size (by omega) (by show ¬ w.heap.size = g; omega)
  rw [World.cell?_of_block (w := w3) (a := ⟨w.heap.size, j, none⟩) b, h.cell (p := ⟨w.heap.size, j, none⟩) (by show w.heap.size < w.heap.size + 1; omega), new_cell]

/-- What lies behind the store of the edges without one. -/
theorem del_mem {w1 w3 : World} {v2 : Value} {k n : Nat} (h : GRep w1 g G ev tb tcap F pr) (hk : k < G.edges.length)
    (ho : w3.ownsRow (w1.heap.size + 1) 89 4 v2 n (eCells (G.edges.take k) ++ eCells (G.edges.drop (k + 1)))) (hn : n = G.edges.length - 1) (b : Below w1.heap.size w1 w3) :
    GRep (w3.setCell ⟨g, 1, none⟩ v2) g (delE G k) v2 tb tcap F pr ∧ But (Own g tb ev) w1 (w3.setCell ⟨g, 1, none⟩ v2) ∧ (∀ k, v2.ownBlock = some k → w1.heap.size + 1 ≤ k) := by
  have er : eCells (G.edges.take k) ++ eCells (G.edges.drop (k + 1)) = eCells (delE G k).edges := by
    rw [← eCells_append]; simp [delE, List.eraseIdx_eq_take_drop_succ]
  have len : (delE G k).edges.length = n := by simp [delE, List.length_eraseIdx, hk]; omega
  rw [er] at ho
  obtain ⟨hE, hown⟩ := edges_of_owns ho len
  have h3 := h.below b
  have bs := But.setCell w3 ⟨g, 1, none⟩ v2
  have ntg : NoTour (fun k => k = g) w3 := noTour_one (rowIs_ty h3.rg) (by decide) (by decide)
  have glt := h.rg.lt
  refine ⟨⟨(h3.rg.set 1 v2).congr ?_, hE.but bs (fun j hj q => by have := hown j hj; simp only at q; omega), row_but h3.rt bs h3.gtb.symm, h3.tl, h3.tm, fun j hj => (h3.ti j hj).but bs ntg⟩, (But.of b).trans bs (fun _ _ q => Or.inl q), hown⟩
  intro j hj
  simp only [gf]
  by_cases q : j = 1
  · subst q; simp
  · simp [q, delE]
end

end Go.Proofs.YtckallochdegiaaGreat
namespace Go.Proofs.YtckallochdegiaaGreat
set_option linter.unusedVariables false
set_option linter.unusedSimpArgs false
open Go.RowKit

set_option maxRecDepth 100000 in
set_option maxHeartbeats 8000000 in
theorem Delete_F (w : World) (g tb tcap k : Nat) (G : Gr) (ev : Value) (F : Nat → Value) (pr u v : Int) (h : GRep w g G ev tb tcap F pr) (hI : GI G) (hns : NS G) (hne : u ≠ v)
    (hf : findIx G.edges (min u v) (max u v) = k) :
    Calls Tryz.prog 66 #[ptr g, .int .i64 u, .int .i64 v] w fun e w' => e = .returned (.tuple #[]) ∧ (∃ G' ev' F' pr', GRep w' g G' ev' tb tcap F' pr' ∧ delF G pr (min u v) (max u v) k = (G', pr') ∧ DEnd G k G' ∧ (∀ k, ev'.ownBlock = some k → w.heap.size ≤ k)) ∧ But (Own g tb ev) w w' := by
  have n48 := hI.n48
  have el := hI.elen
  obtain ⟨k1, k2, k3⟩ := find_ge hf
  obtain ⟨a, b, hab, hor⟩ : ∃ a b : Int, a < b ∧ ((a = u ∧ b = v) ∨ (b = u ∧ a = v)) := by
    by_cases c : u < v
    · exact ⟨u, v, c, Or.inl ⟨rfl, rfl⟩⟩
    · exact ⟨v, u, by omega, Or.inr ⟨rfl, rfl⟩⟩
  have hmm : min u v = a ∧ max u v = b := by omega
  have HMm := hid hmm
  rw [hmm.1] at hf k2
  rw [hmm.2] at hf k3
  clear hmm
  have hf' : findIx G.edges (min a b) (max a b) = k := by rw [Int.min_eq_left (by omega), Int.max_eq_right (by omega)]; exact hf
  have hem : G.edges[k]?.getD e0 ∈ G.edges := by rw [get_eq k1]; exact List.getElem_mem k1
  have be := hI.ed _ hem
  obtain ⟨l, hl⟩ : ∃ l : Nat, (G.edges[k]?.getD e0).lev = l := ⟨(G.edges[k]?.getD e0).lev.toNat, by omega⟩
  have hl6 : l + 1 ≤ G.tours.length := by rw [hI.tl]; omega
  have l48 : l ≤ 6 := by
    have : Nat.log2 G.N ≤ 5 := by
      have := Nat.log2_self_le (n := G.N) (by have := hI.n1; omega)
      by_cases c : Nat.log2 G.N ≤ 5
      · exact c
      · have : 2 ^ 6 ≤ 2 ^ Nat.log2 G.N := Nat.pow_le_pow_right (by omega) (by omega)
        omega
    omega
  have rab : 0 ≤ a ∧ a < G.N ∧ 0 ≤ b ∧ b < G.N := by omega
  have HRab := hid rab
  have HG := hid h
  have HI := hid hI
  have HN := hid hns
  have HF := hid hf'
  have HL := hid hl
  have HK := hid (And.intro k2 k3)
  clear h hI hns hf hf' k2 k3 hem be hl rab
  obtain ⟨i93, q0, q1, q2, q3⟩ := info_parts Tryz.info89
  go_enter Tryz.func66, Tryz.ntmps66
  rcases hor with ⟨rfl, rfl⟩ | ⟨rfl, rfl⟩
  all_goals
    have hd2 : ¬ b < a := by omega
    go_wp2_with fail
    refine (Find_any g a b G.edges ev w HG.out.c1 HG.out.ed).mono ?_
    rintro e' w1 ⟨rfl, hb1⟩
    rw [HF.out]
    have HB1 := hid hb1
    have HG1 := hid (HG.out.below hb1)
    clear hb1
    obtain ⟨eb, cap, hE, hev⟩ := HG1.out.ed.at_ k1
    have d1 := HG1.out.c1
    rw [hev] at d1
    have HEv := hid hev
    have HEA := hid hE
    have l1 := hE.le
    have l2 := hE.mx
    unfold maxLen at l2
    have t0 : w1.cell? ⟨eb, k * 4, none⟩ = some (.int .i64 a) := by rw [← HK.out.1]; exact hE.c0 k k1
    have t1 : w1.cell? ⟨eb, k * 4 + 1, none⟩ = some (.int .i64 b) := by rw [← HK.out.2]; exact hE.c1 k k1
    have t2 : w1.cell? ⟨eb, k * 4 + 2, none⟩ = some (.int .i64 l) := by rw [← HL.out]; exact hE.c2 k k1
    have t3 : w1.cell? ⟨eb, k * 4 + 3, none⟩ = some (.bool (G.edges[k]?.getD Go.Proofs.YtckallochdegiaaGreat.e0).tree) := hE.c3 k k1
    clear hE hev
    have kl : (k : Int) < (G.edges.length : Int) := by omega
    obtain ⟨tr, htr⟩ : ∃ tr, tr = (G.edges[k]?.getD Go.Proofs.YtckallochdegiaaGreat.e0).tree := ⟨_, rfl⟩
    rw [← htr] at t3
    have HTr := hid htr
    clear htr
    go_wp2_with fail
    go_cut [7] from 28 to 45 (fun x wc => x = ptr w1.heap.size ∧ ∃ v2, Hid (GRep wc g (delE G k) v2 tb tcap F pr ∧ But (Own g tb ev) w1 wc ∧ (∀ k, v2.ownBlock = some k → w1.heap.size + 1 ≤ k)) ∧ Hid ((∀ j, wc.cell? ⟨w1.heap.size, j, none⟩ = #[Value.int .i64 a, .int .i64 b, .int .i64 l, .bool tr][j]?) ∧ w1.heap.size < wc.heap.size ∧ ¬ v2.ownBlock = some w1.heap.size))
    case first =>
      have HN1 : Hid ((eCells (G.edges.take k)).length = k * 4) := by show _ = _; rw [eCells_length, List.length_take]; omega
      have HN2 : Hid ((eCells (G.edges.drop (k + 1))).length = (G.edges.length - (k + 1)) * 4) := by show _ = _; rw [eCells_length, List.length_drop]
      have HC : Hid (∀ x, EAt (w1.alloc x).drew ev G.edges eb cap) := fun x => HEA.out.below ((Below.refl _ _).alloc (Nat.le_refl _) x).drew (Nat.le_refl _)
      have HGA : Hid (∀ x, GRep (w1.alloc x).drew g G ev tb tcap F pr) := fun x => HG1.out.below ((Below.refl _ _).alloc (Nat.le_refl _) x).drew
      have HM : Hid (∀ m : Nat, m ≤ 20000 → m ≤ maxLen) := fun m hm => by unfold maxLen; omega
      have HS : Hid (∀ x, w1.heap.size + 1 ≤ (w1.alloc x).drew.heap.size) := fun x => by show _ ≤ (w1.alloc x).heap.size; simp
      have dA := fun x => (HGA.out x).c1
      rw [HEv.out] at dA
      have hq2 : k ≤ cap := by omega
      have hq3 : k + 1 ≤ G.edges.length := by omega
      have hq8 : (0 : Int) ≤ (k : Int) + 1 := by omega
      have hq9 : (k : Int) + 1 ≤ (G.edges.length : Int) := by omega
      have hq6 : ((k : Int) + 1).toNat = k + 1 := by omega
      have hq7 : IntKind.i64.wrap ((k : Int) + 1) = (k : Int) + 1 := by rw [IntKind.wrap_i64]; omega
      have hcap0 : ¬ cap = 0 := by omega
      clear t0 t1 t2 t3
      by_cases hcap : cap = k + 1
      · have hdr : G.edges.drop (k + 1) = [] := List.drop_eq_nil_of_le (by omega)
        have HDr := hid hdr
        clear hdr
        subst hcap
        have hqk : (k : Int) ≤ (k : Int) + 1 := by omega
        go_region_law (first
          | (refine step_append_mine rfl (.const (.slice none 0 0)) (.tmp 34) 42 rfl (w1.heap.size + 1) 89 i93 _ 4 32 Tryz.underlying42 q0 q1 q2 q3 rfl (by decide) (.slice none 0 0) 0 [] rfl (World.ownsRow_nil _ _ _ _) ⟨eb, 0, none⟩ k (k + 1) (eCells (G.edges.take k)) (by simp [Act.eval, Act.put]) HN1.out (HC.out _).takeC' (edges_one _) (HM.out _ (by omega)) (by omega) (HS.out _) ?_; intro v1 w2 ho1 hg1; simp only [Nat.zero_add, List.nil_append] at ho1; have c1 : w2.cell? ⟨g, 1, none⟩ = some (.slice (some ⟨eb, 0, none⟩) G.edges.length (k + 1)) := del_c1 (HGA.out _) hg1 HEv.out; have HG2 := hid hg1; have HO1 := hid ho1; clear hg1 ho1)
          | (refine step_append_mine rfl (.tmp 35) (.tmp 42) 42 rfl (w1.heap.size + 1) 89 i93 _ 4 32 Tryz.underlying42 q0 q1 q2 q3 rfl (by decide) v1 k (eCells (G.edges.take k)) (by simp [Act.eval, Act.put]) HO1.out ⟨eb, 0, none⟩ (G.edges.length - (k + 1)) 0 (eCells (G.edges.drop (k + 1))) (by simp [Act.eval, Act.put]; omega) HN2.out (((HC.out _).grown HG2.out (by simp [Value.ownBlock])).dropC (k + 1) _ (Or.inr HDr.out)) (edges_one _) (HM.out _ (by omega)) (by omega) (Nat.le_trans (HS.out _) HG2.out.size) ?_; intro v2 w3 ho2 hg2; have HO2 := hid ho2; have HBA := hid (del_below HG2.out HO1.out hg2); have HB3 := hid (below_of_alloc HBA.out); clear ho2 hg2; have d3 : w3.cell? ⟨g, 1, none⟩ = some (.slice (some ⟨eb, 0, none⟩) G.edges.length (k + 1)) := del_c13 HG1.out HB3.out HEv.out; have fg3 := (HG1.out.below HB3.out).rg.frozen; obtain ⟨p2, n2, cc2, hv2⟩ := owns_form HO2.out; subst hv2))
        all_goals
          have HR3 := hid (del_mem HG1.out k1 HO2.out (by omega) HB3.out)
          have HE3 := hid (del_e HG1.out.rg.lt HBA.out HR3.out.2.2 (.slice p2 n2 cc2))
          go_wp2
          go_meet
          case rel => exact ⟨rfl, _, HR3.out, HE3.out⟩
      · have hcap1 : ¬ cap = 1 + k := by omega
        go_region_law (first
          | (refine step_append_mine rfl (.const (.slice none 0 0)) (.tmp 34) 42 rfl (w1.heap.size + 1) 89 i93 _ 4 32 Tryz.underlying42 q0 q1 q2 q3 rfl (by decide) (.slice none 0 0) 0 [] rfl (World.ownsRow_nil _ _ _ _) ⟨eb, 0, none⟩ k cap (eCells (G.edges.take k)) (by simp [Act.eval, Act.put]) HN1.out (HC.out _).takeC' (edges_one _) (HM.out _ (by omega)) (by omega) (HS.out _) ?_; intro v1 w2 ho1 hg1; simp only [Nat.zero_add, List.nil_append] at ho1; have c1 : w2.cell? ⟨g, 1, none⟩ = some (.slice (some ⟨eb, 0, none⟩) G.edges.length cap) := del_c1 (HGA.out _) hg1 HEv.out; have HG2 := hid hg1; have HO1 := hid ho1; clear hg1 ho1)
          | (refine step_append_mine rfl (.tmp 35) (.tmp 42) 42 rfl (w1.heap.size + 1) 89 i93 _ 4 32 Tryz.underlying42 q0 q1 q2 q3 rfl (by decide) v1 k (eCells (G.edges.take k)) (by simp [Act.eval, Act.put]) HO1.out ⟨eb, (k + 1) * 4, none⟩ (G.edges.length - (k + 1)) (cap - (k + 1)) (eCells (G.edges.drop (k + 1))) (by simp [Act.eval, Act.put]) HN2.out (((HC.out _).grown HG2.out (by simp [Value.ownBlock])).dropC (k + 1) _ (Or.inl rfl)) (edges_one _) (HM.out _ (by omega)) (by omega) (Nat.le_trans (HS.out _) HG2.out.size) ?_; intro v2 w3 ho2 hg2; have HO2 := hid ho2; have HBA := hid (del_below HG2.out HO1.out hg2); have HB3 := hid (below_of_alloc HBA.out); clear ho2 hg2; have d3 : w3.cell? ⟨g, 1, none⟩ = some (.slice (some ⟨eb, 0, none⟩) G.edges.length cap) := del_c13 HG1.out HB3.out HEv.out; have fg3 := (HG1.out.below HB3.out).rg.frozen; obtain ⟨p2, n2, cc2, hv2⟩ := owns_form HO2.out; subst hv2))
        all_goals
          have HR3 := hid (del_mem HG1.out k1 HO2.out (by omega) HB3.out)
          have HE3 := hid (del_e HG1.out.rg.lt HBA.out HR3.out.2.2 (.slice p2 n2 cc2))
          go_wp2
          go_meet
          case rel => exact ⟨rfl, _, HR3.out, HE3.out⟩
    case rest =>
      obtain ⟨rfl, v2, hR, hE⟩ := hcut
      clear t0 t1 t2 t3 d1 k1 kl
      have e2 : wc.cell? ⟨w1.heap.size, 2, none⟩ = some (.int .i64 l) := hE.out.1 2
      have e3 : wc.cell? ⟨w1.heap.size, 3, none⟩ = some (.bool tr) := hE.out.1 3
      have HBc : Hid (But (Own g tb ev) w wc) := (But.of HB1.out).trans hR.out.2.1 (fun _ _ q => q)
      have HV2 : Hid (∀ k, v2.ownBlock = some k → w.heap.size ≤ k) := fun k q => by have := hR.out.2.2 k q; have := HB1.out.size; omega
      cases tr
      · have HR : Hid (GI (delE G k) ∧ NS (delE G k)) := ⟨HI.out.drop (find_ge HF.out).1 rfl HTr.out.symm, HN.out.drop k⟩
        go_wp2
        (try simp only [Exit.inBlock, Exit.then]); refine bodyPost_ret (results_none rfl _ _ _) rfl ?_
        exact ⟨rfl, ⟨delE G k, v2, F, pr, hR.out.1, by rw [HMm.out.1, HMm.out.2]; simp only [delF]; rw [if_pos HTr.out.symm], ⟨rfl, rfl, rfl, HR.out.1, HR.out.2⟩, HV2.out⟩, HBc.out⟩
      · obtain ⟨m0, m1⟩ := HI.out.cutAll HN.out (find_ge HF.out).1 rfl HTr.out.symm HL.out
        rw [HK.out.1, HK.out.2] at m0 m1
        have HM0 := hid m0
        have HM1 := hid m1
        obtain ⟨R, hRr⟩ : ∃ R, R = downF a b (l + 1) (cuts (delE G k) a b (l + 1), pr) := ⟨_, rfl⟩
        have HRr := hid hRr
        clear hRr
        clear m0 m1
        have HOn : Hid (∀ j, Own g tb v2 j → j ≠ w1.heap.size) := by
          intro j hj q
          have gl := HG1.out.rg.lt
          have tl := HG1.out.rt.lt
          rcases hj with rfl | rfl | hj
          · omega
          · omega
          · rw [q] at hj; exact hE.out.2.2 hj
        go_wp2_with fail
        go_loopw [8] (fun q wr => ∃ m : Nat, m ≤ l + 1 ∧ q = .int .i64 m ∧ Hid (∃ F', GRep wr g (cuts (delE G k) a b m) v2 tb tcap F' pr) ∧ Hid (But (fun k => k = tb) wc wr)) (fun q _ => l + 1 - (intOf q).toNat)
        case atStart => exact ⟨0, by omega, rfl, ⟨F, hR.out.1⟩, But.refl _ _⟩
        case round =>
          clear e2 e3
          obtain ⟨m, hm, rfl, hG, hB⟩ := hrel
          have tne : w1.heap.size ≠ tb := fun q => HOn.out tb (Or.inr (Or.inl rfl)) q.symm
          have hbl : wr.heap[w1.heap.size]? = wc.heap[w1.heap.size]? := hB.out.block _ hE.out.2.1 tne
          have e2 : wr.cell? ⟨w1.heap.size, 2, none⟩ = some (.int .i64 l) := by rw [World.cell?_of_block (w := wc) (a := ⟨w1.heap.size, 2, none⟩) hbl]; exact hE.out.1 2
          have HBl := hid hbl
          clear hbl tne
          by_cases hlt : m ≤ l
          · have hlt' : (m : Int) ≤ (l : Int) := by omega
            obtain ⟨F', hG'⟩ := hG.out
            have HGm := hid hG'
            clear hG' hG
            go_wp2_with fail
            obtain ⟨ka, p, t, hcf⟩ := HM1.out m hlt
            have lvm : lv (cuts (delE G k) a b m) m = lv G m := by rw [cuts_lv _ _ _ _ (by show m ≤ G.tours.length; omega), if_neg (Nat.lt_irrefl m)]; rfl
            have n1 : (cuts (delE G k) a b m).N = G.N := by rw [cuts_N]; rfl
            refine (cut_G (es := G.edges) HGm.out (i := m) (by rw [cuts_len]; show m < G.tours.length; omega) (by rw [n1]; exact n48) (by rw [lvm, n1]; exact HI.out.li m (by have := HI.out.tl; omega)) (by rw [n1]; exact HI.out.rngE) hcf).mono ?_
            rintro e' w4 ⟨rfl, hF4, hB4⟩
            have HF4 : Hid (∃ F', GRep w4 g (cuts (delE G k) a b (m + 1)) v2 tb tcap F' pr) := hF4
            have HB5 : Hid (But (fun k => k = tb) wc w4) := hB.out.trans hB4 (fun _ _ q => q)
            clear hF4 hB4 lvm n1 hB HGm hcf e2 HBl
            go_wp2
            exact ⟨⟨m + 1, by omega, by go_num, HF4, HB5⟩, by simp [intOf]; omega⟩
          · have hme : m = l + 1 := by omega
            have HDM : Hid (∃ G' F' pr', GRep wr g G' v2 tb tcap F' pr' ∧ downF a b (l + 1) (G', pr') = R ∧ DM G k a b G' (l + 1)) := by
              obtain ⟨F', hG'⟩ := hG.out
              rw [hme] at hG'
              exact ⟨_, F', pr, hG', HRr.out.symm, by rw [cuts_N]; rfl, by rw [cuts_len]; rfl, by rw [cuts_edges], fun q => by omega, fun i q => by rw [← show l = i by omega]; exact HM0.out⟩
            have HBo : Hid (But (Own g tb v2) wc wr) := hB.out.wide (fun _ _ q => Or.inr (Or.inl q))
            clear hG hB hme HBl
            go_wp2_with fail
            go_loopw [9] (fun q wr => ∃ m : Nat, m ≤ l + 1 ∧ q = .int .i64 ((m : Int) - 1) ∧ Hid (∃ G' F' pr', GRep wr g G' v2 tb tcap F' pr' ∧ downF a b m (G', pr') = R ∧ DM G k a b G' m) ∧ Hid (But (Own g tb v2) wc wr)) (fun q _ => (intOf q + 1).toNat)
            case atStart => exact ⟨l + 1, by omega, by rw [show ((l + 1 : Nat) : Int) - 1 = l by omega], HDM, HBo⟩
            case round =>
              clear HDM HBo e2
              obtain ⟨m, hm2, rfl, hG, hB⟩ := hrel
              obtain ⟨G', F', pr', hG', hXd, hDM⟩ := hG.out
              have HXd := hid hXd
              have HFin : Hid (∀ G2 pr2, (G2, pr2) = R → delF G pr (min a b) (max a b) k = (G2, pr2)) := fun G2 pr2 q => by
                rw [q, HRr.out, Int.min_eq_left (by omega), Int.max_eq_right (by omega)]
                simp only [delF]
                rw [if_neg (by rw [← HTr.out]; simp), HL.out, Int.toNat_natCast]
              clear hXd
              have HGr := hid hG'
              have HDM := hid hDM
              clear hG hG' hDM hm
              have HBw : Hid (∀ w5, But (Own g tb v2) wr w5 → But (Own g tb ev) w w5) := by
                intro w5 h5
                refine HBc.out.trans (hB.out.trans h5 (fun _ _ q => q)) ?_
                intro j hj q
                rcases q with q | q | q
                · exact Or.inl q
                · exact Or.inr (Or.inl q)
                · have := HV2.out j q; omega
              cases m with
              | zero =>
                have hz : ((0 : Nat) : Int) - 1 = -1 := by omega
                rw [hz]
                clear hz
                go_wp2
                go_end0
                exact ⟨rfl, ⟨G', v2, F', pr', HGr.out, (by have q := HFin.out _ _ HXd.out; first | exact q | (rw [Int.min_comm, Int.max_comm] at q; exact q)), HDM.out.zero, HV2.out⟩, HBw.out _ (But.refl _ _)⟩
              | succ i =>
                have hz : ((i + 1 : Nat) : Int) - 1 = (i : Int) := by omega
                rw [hz]
                clear hz
                have hMI := HDM.out.p i rfl
                have n1 := HDM.out.n
                obtain ⟨ka, ta, a1, a2, a3, a4, a5, a6⟩ := lv_facts hMI HRab.out.1 (by rw [n1]; exact HRab.out.2.1)
                obtain ⟨kb, tb', b1, b2, b3, b4, b5, b6⟩ := lv_facts hMI.swap HRab.out.2.2.1 (by rw [n1]; exact HRab.out.2.2.2)
                obtain ⟨it, i6⟩ := i6_of hMI
                obtain ⟨lb, lcap, f, _, hLv⟩ := HGr.out.lvl it
                have HMI := hid hMI
                have HLv := hid hLv
                have HA := hid (And.intro a2 (And.intro a3 (And.intro a4 (And.intro a5 a6))))
                have HBb := hid (And.intro b2 (And.intro b3 (And.intro b4 (And.intro b5 b6))))
                clear hMI hLv a2 a3 a4 a5 a6 b2 b3 b4 b5 b6 n1
                go_wp2_with fail
                refine (size_any g tb tcap G'.tours.length i lb lcap (lv G' i) f a ka ta wr HLv.out HA.out.1 a1 HA.out.2.1 (by have := HA.out.2.2.2.2; omega)).mono ?_
                rintro e' w5 ⟨rfl, hb5⟩
                have HB5 := hid hb5
                clear hb5
                go_wp2_with fail
                refine (size_any g tb tcap G'.tours.length i lb lcap (lv G' i) f b kb tb' w5 (HLv.out.below HB5.out) HBb.out.1 b1 HBb.out.2.1 (by have := HBb.out.2.2.2.2; omega)).mono ?_
                rintro e' w6 ⟨rfl, hb6⟩
                have HB6 : Hid (Below wr.heap.size wr w6) := HB5.out.trans (hb6.mono HB5.out.size)
                have HG6 := hid (HGr.out.below HB6.out)
                clear hb6 HB5
                by_cases hgt : sizeV tb' < sizeV ta
                · have hgt' : (sizeV tb' : Int) < (sizeV ta : Int) := by omega
                  have hsz := hid (lesser_sz HMI.out.swap HBb.out.2.2.1 HA.out.2.2.1 HBb.out.2.2.2.1 HA.out.2.2.2.1 (by omega))
                  go_wp2_with fail
                  refine (search_F w6 g tb tcap i G' v2 F' pr' b a tb' HG6.out HMI.out.swap HBb.out.2.2.1 HBb.out.2.2.2.1 hsz.out).mono ?_
                  rintro e' w7 ⟨fd, rfl, ⟨G2, F2, pr2, h2, hsf, hend⟩, hb7⟩
                  have HG2 := hid h2
                  have HEnd := hid hend
                  have HSf : Hid (stepF a b i (G', pr') = (fd, G2, pr2)) := by show _ = _; simp only [stepF]; rw [lessT_eq HA.out.1 HA.out.2.1, lessT_eq HBb.out.1 HBb.out.2.1]; first | (rw [if_pos hgt]; exact hsf) | (rw [if_neg hgt]; exact hsf)
                  clear hsf
                  have HB7 : Hid (But (Own g tb v2) wr w7) := (But.of HB6.out).trans hb7 (fun _ _ q => q)
                  clear h2 hend hb7
                  cases fd
                  · go_wp2
                    exact ⟨⟨i, by omega, by go_num, ⟨G2, F2, pr2, HG2.out, downF_false HXd.out HSf.out, HDM.out.down (Or.inr ⟨rfl, rfl⟩) HEnd.out⟩, hB.out.trans HB7.out (fun _ _ q => q)⟩, by simp [intOf]⟩
                  · go_wp2
                    (try simp only [Exit.inBlock, Exit.then]); refine bodyPost_ret (results_none rfl _ _ _) rfl ?_
                    exact ⟨rfl, ⟨G2, v2, F2, pr2, HG2.out, (by have q := HFin.out _ _ (downF_true HXd.out HSf.out); first | exact q | (rw [Int.min_comm, Int.max_comm] at q; exact q)), HDM.out.found HEnd.out, HV2.out⟩, HBw.out _ HB7.out⟩
                · have hgt' : ¬ (sizeV tb' : Int) < (sizeV ta : Int) := by omega
                  have hsz := hid (lesser_sz HMI.out HA.out.2.2.1 HBb.out.2.2.1 HA.out.2.2.2.1 HBb.out.2.2.2.1 (by omega))
                  go_wp2_with fail
                  refine (search_F w6 g tb tcap i G' v2 F' pr' a b ta HG6.out HMI.out HA.out.2.2.1 HA.out.2.2.2.1 hsz.out).mono ?_
                  rintro e' w7 ⟨fd, rfl, ⟨G2, F2, pr2, h2, hsf, hend⟩, hb7⟩
                  have HG2 := hid h2
                  have HEnd := hid hend
                  have HSf : Hid (stepF a b i (G', pr') = (fd, G2, pr2)) := by show _ = _; simp only [stepF]; rw [lessT_eq HA.out.1 HA.out.2.1, lessT_eq HBb.out.1 HBb.out.2.1]; first | (rw [if_pos hgt]; exact hsf) | (rw [if_neg hgt]; exact hsf)
                  clear hsf
                  have HB7 : Hid (But (Own g tb v2) wr w7) := (But.of HB6.out).trans hb7 (fun _ _ q => q)
                  clear h2 hend hb7
                  cases fd
                  · go_wp2
                    exact ⟨⟨i, by omega, by go_num, ⟨G2, F2, pr2, HG2.out, downF_false HXd.out HSf.out, HDM.out.down (Or.inl ⟨rfl, rfl⟩) HEnd.out⟩, hB.out.trans HB7.out (fun _ _ q => q)⟩, by simp [intOf]⟩
                  · go_wp2
                    (try simp only [Exit.inBlock, Exit.then]); refine bodyPost_ret (results_none rfl _ _ _) rfl ?_
                    exact ⟨rfl, ⟨G2, v2, F2, pr2, HG2.out, (by have q := HFin.out _ _ (downF_true HXd.out HSf.out); first | exact q | (rw [Int.min_comm, Int.max_comm] at q; exact q)), HDM.out.found HEnd.out, HV2.out⟩, HBw.out _ HB7.out⟩

end Go.Proofs.YtckallochdegiaaGreat
