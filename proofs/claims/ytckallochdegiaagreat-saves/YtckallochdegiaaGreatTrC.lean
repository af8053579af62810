import Derived.Test.YtckallochdegiaaGreatTrA
namespace Go.Proofs.YtckallochdegiaaGreat
set_option linter.unusedVariables false
set_option linter.unusedSimpArgs false
open Go.RowKit

/-- F' is F but for the cells of the forest at o. -/
def Frm (o : Nat) (F F' : Nat → Value) : Prop := ∀ j, ¬ (o ≤ j ∧ j < o + 48) → F' j = F j
theorem Frm.refl (o : Nat) (F : Nat → Value) : Frm o F F := fun _ _ => rfl
theorem Frm.trans {o : Nat} {F F' F'' : Nat → Value} (h : Frm o F F') (k : Frm o F' F'') : Frm o F F'' := fun j hj => (k j hj).trans (h j hj)

section
variable {w w' : World} {b o : Nat} {F : Nat → Value} {R : Nat → List Itm} {S : Nat → Prop}
theorem Fo.noIt (h : Fo w b o F R) : NoIt (fun k => k = b) w := noIt_one (rowIs_ty h.row) (by decide)
theorem Fo.set (h : Fo w b o F R) {v : Nat} (hv : v < 48) {nv : Value} {l : List Itm} (hn : PIt w nv l) :
    Fo (w.setCell ⟨b, o + v, none⟩ nv) b o (fun j => if j = o + v then nv else F j) (fun z => if z = v then l else R z) ∧ Frm o F (fun j => if j = o + v then nv else F j) ∧ But (fun k => k = b) w (w.setCell ⟨b, o + v, none⟩ nv) := by
  have bs := But.setCell w ⟨b, o + v, none⟩ nv
  refine ⟨⟨h.row.set _ _, h.le, fun z hz => ?_⟩, fun j hj => ?_, bs⟩
  · by_cases e : z = v
    · subst e; rw [if_pos rfl, if_pos rfl]; exact hn.but bs h.noIt
    · rw [if_neg (by omega), if_neg e]; exact (h.it z hz).but bs h.noIt
  · show (if j = o + v then nv else F j) = F j
    rw [if_neg (by omega)]
theorem Fo.congr {R' : Nat → List Itm} (h : Fo w b o F R) (e : ∀ z, z < 48 → R z = R' z) : Fo w b o F R' := ⟨h.row, h.le, fun v hv => by rw [← e v hv]; exact h.it v hv⟩
theorem Fo.fz (h : Fo w b o F R) : ∀ p, w.frozen? ⟨b, p, none⟩ = false := h.row.frozen

/-- The slice at a place that has items. -/
theorem Fo.at_ (h : Fo w b o F R) {v : Nat} (hv : v < 48) {x : Itm} (hx : x ∈ R v) : ∃ b1 o1 c1, F (o + v) = .slice (some ⟨b1, o1, none⟩) (R v).length c1 ∧ PAt w (.slice (some ⟨b1, o1, none⟩) (R v).length c1) (R v) b1 o1 c1 := by
  rcases h.it v hv with ⟨_, e⟩ | ⟨b1, o1, c1, k⟩
  · rw [e] at hx; simp at hx
  · have := k.hv
    exact ⟨b1, o1, c1, this, this ▸ k⟩
end

/-- What take answers. -/
def TakeR (w : World) (b o : Nat) (F : Nat → Value) (R : Nat → List Itm) (v : Nat) (x : Itm) (e : Ending) (w' : World) : Prop :=
  ∃ val, e = .returned val ∧ w'.ownsRow w.heap.size 146 2 val (fromX (R v) x).length (itemCells (fromX (R v) x)) ∧ Fo w' b o (fun j => if j = o + v then .slice none 0 0 else F j) (fun z => if z = v then [] else R z) ∧ But (fun k => k = b) w w'

set_option maxRecDepth 100000 in
set_option maxHeartbeats 2000000 in
theorem take_any (w : World) (b o : Nat) (F : Nat → Value) (R : Nat → List Itm) (x1 x2 : Int) (v : Nat) (h : Fo w b o F R) (hv : v < 48) (hm : (x1, x2) ∈ R v) (hno : ∀ z, z < v → (x1, x2) ∉ R z) (hl : (R v).length ≤ 3000) :
    Calls Tryz.prog 124 #[ptrA b o, .agg #[.int .i64 x1, .int .i64 x2]] w (TakeR w b o F R v (x1, x2)) := by
  have HF := hid h
  have blt := h.row.lt
  obtain ⟨b1, o1, c1, e1, hp⟩ := h.at_ hv hm
  have HP := hid hp
  have hHold : holdX R (x1, x2) = v := holdX_some hv hm hno
  have HH := hid hHold
  obtain ⟨k, k1, k2, _, k4⟩ := posX_mem hm
  have HK2 := hid k2
  have HK4 := hid k4
  have hv' : (v : Int) < 48 := by omega
  have HE1 := hid e1
  clear h hm hno hp hHold k2 k4 e1
  go_enter Tryz.func124, Tryz.ntmps124
  go_wp2_with fail
  refine (holder_any _ b o F R x1 x2 (HF.out.below ((Below.refl _ _).alloc (Nat.le_refl _) _))).mono ?_
  rintro e w1 ⟨rfl, hb1⟩
  rw [HH.out]
  have hBx : Below w.heap.size w w1 := ((Below.refl _ _).alloc (Nat.le_refl _) _).trans (hb1.mono (by simp))
  have y0 : w1.cell? ⟨w.heap.size, 0, none⟩ = some (.int .i64 x1) := by
    rw [hb1.cell (p := ⟨w.heap.size, 0, none⟩) (by simp), new_cell]; rfl
  have y1 : w1.cell? ⟨w.heap.size, 1, none⟩ = some (.int .i64 x2) := by
    rw [hb1.cell (p := ⟨w.heap.size, 1, none⟩) (by simp), new_cell]; rfl
  have hs1 := hb1.size
  simp only [World.size_alloc] at hs1
  have HB1 := hid hBx
  have HF1 := hid (HF.out.below hBx)
  have d := HF1.out.cell hv
  rw [HE1.out] at d
  have fz := HF1.out.fz
  clear hb1 hBx
  have St := HF1.out.set hv (nv := .slice none 0 0) (l := []) (Or.inl ⟨rfl, rfl⟩)
  have HSt := hid St
  have bne : b ≠ w.heap.size := by omega
  have z0 : (w1.setCell ⟨b, o + v, none⟩ (.slice none 0 0)).cell? ⟨w.heap.size, 0, none⟩ = some (.int .i64 x1) := by rw [far bne]; exact y0
  have z1 : (w1.setCell ⟨b, o + v, none⟩ (.slice none 0 0)).cell? ⟨w.heap.size, 1, none⟩ = some (.int .i64 x2) := by rw [far bne]; exact y1
  have HP1 : Hid (PAt (w1.setCell ⟨b, o + v, none⟩ (.slice none 0 0)) (.slice (some ⟨b1, o1, none⟩) (R v).length c1) (R v) b1 o1 c1) := by
    have := HP.out.below HB1.out (Nat.le_refl _)
    exact this.block (St.2.2.block b1 this.lt (fun q => HF1.out.noIt b1 q this.lt this.ty))
  have HSz : Hid ((w1.setCell ⟨b, o + v, none⟩ (.slice none 0 0)).heap.size = w1.heap.size) := by show _ = _; simp [World.setCell]
  clear St
  go_wp2_with fail
  obtain ⟨w2, hw2⟩ : ∃ w2, w2 = w1.setCell ⟨b, o + v, none⟩ (.slice none 0 0) := ⟨_, rfl⟩
  rw [← hw2] at HSt z0 z1 HP1 HSz ⊢
  clear hw2 d fz y0 y1
  refine (position_at b1 o1 c1 x1 x2 (R v) _ HP1.out).mono ?_
  rintro e w3 ⟨rfl, hb3⟩
  rw [HK2.out]
  have HB3 := hid hb3
  have HP3 := hid (HP1.out.below hb3 (Nat.le_refl _))
  clear hb3
  go_wp2_with fail
  refine (turned_any w3 b1 o1 c1 (R v) k HP3.out k1 (by omega)).mono ?_
  rintro e w4 ⟨val, zb, zc, rfl, -, -, hz, hb4⟩
  have hB24 : Below w2.heap.size w2 w4 := HB3.out.trans (hb4.mono HB3.out.size)
  have HR : Hid (TakeR w b o F R v (x1, x2) (.returned val) w4) := by
    refine ⟨val, rfl, by rw [HK4.out]; exact owns_mono hz (by have := HB3.out.size; have := HSz.out; omega), HSt.out.1.below hB24, ?_⟩
    exact ((But.of HB1.out).trans HSt.out.2.2 (fun _ _ q => q)).trans (S' := fun k => k = b) (But.of hB24) (fun _ _ q => q)
  clear hz hb4 hB24
  go_wp2_with fail
  go_ret
  exact HR.out

/-- What put leaves. -/
def PutR (w : World) (b o : Nat) (F : Nat → Value) (R : Nat → List Itm) (l : List Itm) (v : Nat) (e : Ending) (w' : World) : Prop :=
  ∃ F', e = .returned (.tuple #[]) ∧ Fo w' b o F' (fun z => if z = v then fromX l (v, v) else R z) ∧ Frm o F F' ∧ But (fun k => k = b) w w'

set_option maxRecDepth 100000 in
set_option maxHeartbeats 2000000 in
theorem put_any (w : World) (b o : Nat) (F : Nat → Value) (R : Nat → List Itm) (lb lo lc : Nat) (l : List Itm) (v : Nat) (h : Fo w b o F R) (hp : PAt w (.slice (some ⟨lb, lo, none⟩) l.length lc) l lb lo lc) (hv : v < 48) (hl : PLeast l v) (hlen : l.length ≤ 9000) :
    Calls Tryz.prog 125 #[ptrA b o, .slice (some ⟨lb, lo, none⟩) l.length lc] w (PutR w b o F R l v) := by
  have HF := hid h
  have HP := hid hp
  have h1 := hp.le
  have h2 := hp.mx
  unfold maxLen at h2
  have hv' : (v : Int) < 48 := by omega
  clear h hp
  go_enter Tryz.func125, Tryz.ntmps125
  go_wp2_with fail
  refine (leastAt_any w lb lo lc l v HP.out hl).mono ?_
  rintro e w1 ⟨⟨k, rfl, k1, k2, k3⟩, hb1⟩
  have HB1 := hid hb1
  have HK3 := hid k3
  have HF1 := hid (HF.out.below hb1)
  have HP1 := hid (HP.out.below hb1 (Nat.le_refl _))
  have hk1 : (k : Int) < (l.length : Int) := by omega
  have d0 : w1.cell? ⟨lb, lo + k * 2, none⟩ = some (.int .i64 v) := by rw [HP1.out.c0 k k1, k2]
  have D0 : Hid (∀ W, Below w1.heap.size w1 W → W.cell? ⟨lb, lo + k * 2, none⟩ = some (.int .i64 v)) := fun W q => by rw [q.cell (p := ⟨lb, lo + k * 2, none⟩) HP1.out.lt]; exact d0
  have HT := fun W (q : Below w1.heap.size w1 W) => turned_any W lb lo lc l k (HP1.out.below q (Nat.le_refl _)) k1 hlen
  obtain ⟨tl, htl⟩ : ∃ tl, tl = l.drop k ++ l.take k := ⟨_, rfl⟩
  rw [← htl] at HT HK3
  have HT' := hid HT
  clear hb1 k2 k3 HT htl
  go_wp2_with fail
  go_region_law (first
    | (refine step_call_mine rfl 128 #[.slice (some ⟨lb, lo, none⟩) l.length lc, .int .i64 k] (by go_simp) (HT'.out _ ((Below.refl _ _).drew)) ?_; rintro e w2 ⟨val, zb, zc, rfl, hz, hzb, -, hb2⟩; refine ⟨val, rfl, ?_⟩; have HB2 := hid (below_drew hb2); have HZ := hid hz; have d2 := D0.out _ HB2.out; have HF2 := hid (HF1.out.below HB2.out); have c2 := HF2.out.cell hv; have fz := HF2.out.fz; have HSt := hid (HF2.out.set hv (Or.inr ⟨zb, 0, zc, HZ.out⟩)); have hzv := hz.hv; clear hz hzb hb2; subst hzv))
  all_goals
    go_end0
    exact ⟨_, rfl, by rw [HK3.out]; exact HSt.out.1, HSt.out.2.1, ((But.of HB1.out).trans (S' := fun k => k = b) (But.of HB2.out) (fun _ _ q => q)).trans HSt.out.2.2 (fun _ _ q => q)⟩

end Go.Proofs.YtckallochdegiaaGreat
namespace Go.Proofs.YtckallochdegiaaGreat
set_option linter.unusedVariables false
set_option linter.unusedSimpArgs false
open Go.RowKit

theorem powns_but {w w' : World} {B n b : Nat} {v : Value} {xs : List Value} {t : Nat} (h : w.ownsRow B 146 2 v n xs) (k : But (fun k => k = b) w w') (hb : TyAt w b t) (ht : t ≠ 146) : w'.ownsRow B 146 2 v n xs := by
  refine ⟨h.1, ?_⟩
  rcases h.2 with q | ⟨g, cap, cur, hv, hB, hg, hle⟩
  · exact Or.inl q
  · exact Or.inr ⟨g, cap, cur, hv, hB, by rw [k.block g (Array.getElem?_eq_some_iff.1 hg).1 (fun q => by subst q; exact hb.ne (⟨cur, hg⟩ : TyAt w g 146) ht rfl)]; exact hg, hle⟩

theorem ppair_cell (w : World) (u v : Int) (j : Nat) (y : Value) (h : (itemCells [(u, v)])[j]? = some y) : (w.alloc (.cells #[.int .i64 u, .int .i64 v] 146)).cell? ((⟨w.heap.size, 0, none⟩ : Addr).add j) = some y := by
  rw [addr_add, Nat.zero_add, new_cell]
  simpa [itemCells] using h

theorem fromX_ne {l : List Itm} {x : Itm} (h : x ∈ l) : fromX l x ≠ [] := by
  obtain ⟨a, b, _, _, e⟩ := fromX_split h
  rw [e]; simp

/-- What Link leaves. -/
def LnkR (w : World) (b o : Nat) (F : Nat → Value) (R' : Nat → List Itm) (e : Ending) (w' : World) : Prop :=
  ∃ F', e = .returned (.tuple #[]) ∧ Fo w' b o F' R' ∧ Frm o F F' ∧ But (fun k => k = b) w w'

set_option maxRecDepth 100000 in
set_option maxHeartbeats 4000000 in
theorem fLink_any (w : World) (b o : Nat) (F : Nat → Value) (R : Nat → List Itm) (u v : Int) (va vb vm : Nat) (h : Fo w b o F R) (hp : LinkP R va vb vm u v) :
    Calls Tryz.prog 114 #[ptrA b o, .int .i64 u, .int .i64 v] w (LnkR w b o F (linkR R va vb vm u v)) := by
  have HF := hid h
  have HP := hid hp
  have HM : Hid (∀ m : Nat, m ≤ 20000 → m ≤ maxLen) := fun m hm => by unfold maxLen; omega
  obtain ⟨i74, q0, q1, q2, q3⟩ := info_parts Tryz.info146
  clear h hp
  go_enter Tryz.func114, Tryz.ntmps114
  go_wp2_with fail
  refine (take_any w b o F R u u va HF.out HP.out.a HP.out.ia HP.out.na HP.out.la).mono ?_
  rintro e w1 ⟨v1, rfl, ho1, hf1, hb1⟩
  have HO1 := hid ho1
  have HF1 := hid hf1
  have HB1 := hid hb1
  clear ho1 hf1 hb1
  go_wp2_with fail
  refine (take_any w1 b o _ _ v v vb HF1.out HP.out.b (by rw [if_neg (fun q => HP.out.ne q.symm)]; exact HP.out.ib) (fun z hz => by by_cases c : z = va <;> simp [c]; exact HP.out.nb z hz) (by rw [if_neg (fun q => HP.out.ne q.symm)]; exact HP.out.lb)).mono ?_
  rintro e w2 ⟨v2, rfl, ho2, hf2, hb2⟩
  simp only [if_neg (show ¬ vb = va from fun q => HP.out.ne q.symm)] at ho2
  have HO1' := hid (powns_but HO1.out hb2 (rowIs_ty HF1.out.row) (by decide))
  have HB2 : Hid (But (fun k => k = b) w w2) := HB1.out.same hb2
  have HF2 := hid hf2
  have la : (fromX (R va) (u, u)).length ≤ 3000 := by rw [fromX_length]; exact HP.out.la
  have lb : (fromX (R vb) (v, v)).length ≤ 3000 := by rw [fromX_length]; exact HP.out.lb
  obtain ⟨yb, yc, hy, hyb⟩ := pat_of_owns ho2 (fromX_ne HP.out.ib)
  have hyv := hy.hv
  have HY := hid hy
  have hs12 := HB1.out.size
  have hs2 := HB2.out.size
  have hyo : Hid (¬ v1.ownBlock = some yb) := fun q => by have := (HO1.out.lt yb q).2; omega
  clear ho2 hf2 hb2 hy HO1 HF1 HB1
  obtain ⟨A, hA⟩ : ∃ A, A = fromX (R va) (u, u) := ⟨_, rfl⟩
  obtain ⟨B, hB⟩ : ∃ B, B = fromX (R vb) (v, v) := ⟨_, rfl⟩
  have HAe := hid hA
  have HBe := hid hB
  rw [← hA] at HO1' la
  rw [← hB] at HY hyv lb
  clear hA hB
  subst hyv
  have HN : Hid (∀ l : List Itm, (itemCells l).length = l.length * 2) := fun l => itemCells_length l
  go_wp2_with (first
    | (at_builtin; refine wpList_append_own _ rfl (.tmp 18) (.tmp 22) 98 rfl w.heap.size 146 i74 _ 2 16 Tryz.underlying98 q0 q1 q2 q3 rfl (by decide) v1 A.length _ rfl (HO1'.out.alloc _) ⟨w2.heap.size, 0, none⟩ 1 1 (itemCells [(u, v)]) rfl rfl (ppair_cell w2 u v) (items_one _) (HM.out _ (by omega)) (by omega) (by simp; omega) ?_; intro v3 w3 ho3 hg3 _; have HO3 := hid ho3; have HG3 := hid hg3; have hs3 := hg3.size; simp only [World.size_alloc] at hs3; clear ho3 hg3)
    | (at_builtin; refine wpList_append_own _ rfl (.tmp 24) (.tmp 25) 98 rfl w.heap.size 146 i74 _ 2 16 Tryz.underlying98 q0 q1 q2 q3 rfl (by decide) v3 (A.length + 1) _ rfl HO3.out ⟨yb, 0, none⟩ B.length yc (itemCells B) rfl (HN.out _) ((HY.out.alloc _).grown HG3.out (fun q => hyo.out q.symm)).cells (items_one _) (HM.out _ (by omega)) (by omega) (by omega) ?_; intro v4 w4 ho4 hg4 _; have HO4 := hid ho4; have HG4 := hid hg4; have hs4 := hg4.size; clear ho4 hg4)
    | (at_builtin; refine wpList_append_own _ rfl (.tmp 27) (.tmp 31) 98 rfl w.heap.size 146 i74 _ 2 16 Tryz.underlying98 q0 q1 q2 q3 rfl (by decide) v4 (A.length + 1 + B.length) _ rfl (HO4.out.alloc _) ⟨w4.heap.size, 0, none⟩ 1 1 (itemCells [(v, u)]) rfl rfl (ppair_cell w4 v u) (items_one _) (HM.out _ (by omega)) (by omega) (by simp; omega) ?_; intro v5 w5 ho5 hg5 _; have HO5 := hid ho5; have HG5 := hid hg5; have hs5 := hg5.size; simp only [World.size_alloc] at hs5; clear ho5 hg5))
  have HJ : Hid (∃ zb zc, PAt w5 v5 (A ++ [(u, v)] ++ (B ++ [(v, u)])) zb 0 zc ∧ w.heap.size ≤ zb) := by
    have h5 := HO5.out
    have hl : (A ++ [(u, v)] ++ (B ++ [(v, u)])).length = A.length + 1 + B.length + 1 := by simp; omega
    have hc : itemCells (A ++ [(u, v)] ++ (B ++ [(v, u)])) = itemCells A ++ itemCells [(u, v)] ++ itemCells B ++ itemCells [(v, u)] := by
      rw [itemCells_append, itemCells_append, itemCells_append]; simp only [List.append_assoc]
    rw [← hl, ← hc] at h5
    exact pat_of_owns h5 (by simp)
  have HG : Hid (But (fun k => k = b) w w5 ∧ Fo w5 b o (fun j => if j = o + vb then .slice none 0 0 else if j = o + va then .slice none 0 0 else F j) (fun z => if z = vb then [] else if z = va then [] else R z)) := by
    have g3 : But (fun k => w.heap.size ≤ k) w2 w5 :=
      (((But.refl _ w2).alloc _).trans (But.grown HG3.out) (fun k _ q => (HO1'.out.lt k q.symm).1)).trans (But.grown HG4.out) (fun k _ q => (HO3.out.lt k q.symm).1) |>.alloc _ |>.trans (But.grown HG5.out) (fun k _ q => (HO4.out.lt k q.symm).1)
    have blt := HF.out.row.lt
    have bw : But (fun k => k = b) w w5 := ⟨g3.os.trans HB2.out.os, g3.tape.trans HB2.out.tape, g3.output.trans HB2.out.output, Nat.le_trans HB2.out.size g3.size, fun k hk hn => by
      rw [g3.block k (Nat.lt_of_lt_of_le hk HB2.out.size) (by show ¬ w.heap.size ≤ k; omega)]
      exact HB2.out.block k hk hn⟩
    refine ⟨bw, HF2.out.row.of_block (g3.block b (by omega) (by show ¬ w.heap.size ≤ b; omega)), HF.out.le, fun z hz => ?_⟩
    by_cases c1 : z = vb
    · subst c1; rw [if_pos rfl, if_pos rfl]; exact Or.inl ⟨rfl, rfl⟩
    · rw [if_neg (by omega), if_neg c1]
      by_cases c2 : z = va
      · subst c2; rw [if_pos rfl, if_pos rfl]; exact Or.inl ⟨rfl, rfl⟩
      · rw [if_neg (by omega), if_neg c2]
        exact (HF.out.it z hz).but bw HF.out.noIt
  obtain ⟨zb, zc, hz, hzb⟩ := HJ.out
  have hzv := hz.hv
  have HZ := hid hz
  clear HJ hz HO1' HO3 HO4 HO5 HG3 HG4 HG5 HY HF2 HB2
  subst hzv
  have HL : Hid ((A ++ [(u, v)] ++ (B ++ [(v, u)])).length ≤ 9000) := by show _ ≤ _; simp; omega
  have HLm : Hid (PLeast (A ++ [(u, v)] ++ (B ++ [(v, u)])) vm) := by show PLeast _ _; rw [HAe.out, HBe.out]; exact HP.out.lm
  have HEq : Hid (∀ z, (if z = vm then fromX (A ++ [(u, v)] ++ (B ++ [(v, u)])) (vm, vm) else if z = vb then [] else if z = va then [] else R z) = linkR R va vb vm u v z) := fun z => by rw [linkR, HAe.out, HBe.out]
  obtain ⟨J, hJ⟩ : ∃ J, J = A ++ [(u, v)] ++ (B ++ [(v, u)]) := ⟨_, rfl⟩
  rw [← hJ] at HZ HL HLm HEq ⊢
  clear hJ
  refine (put_any w5 b o _ _ zb 0 zc J vm HG.out.2 HZ.out HP.out.m HLm.out HL.out).mono ?_
  rintro e w6 ⟨F6, rfl, hf6, hm6, hb6⟩
  have HR : Hid (LnkR w b o F (linkR R va vb vm u v) (.returned (.tuple #[])) w6) := by
    refine ⟨F6, rfl, hf6.congr (fun z _ => HEq.out z), (show Frm o F _ from fun j hj => ?_).trans hm6, HG.out.1.same hb6⟩
    have := HP.out.a
    have := HP.out.b
    show (if j = o + vb then _ else if j = o + va then _ else F j) = F j
    rw [if_neg (by omega), if_neg (by omega)]
  clear hf6 hm6 hb6
  go_wp2_with fail
  go_end0
  exact HR.out

end Go.Proofs.YtckallochdegiaaGreat
namespace Go.Proofs.YtckallochdegiaaGreat
set_option linter.unusedVariables false
set_option linter.unusedSimpArgs false
open Go.RowKit

set_option maxRecDepth 100000 in
set_option maxHeartbeats 4000000 in
theorem fCut_any (w : World) (b o : Nat) (F : Nat → Value) (R : Nat → List Itm) (u v : Int) (A B : List Itm) (vt va vb : Nat) (h : Fo w b o F R) (hq : CutQ R A B vt va vb u v) :
    Calls Tryz.prog 115 #[ptrA b o, .int .i64 u, .int .i64 v] w (LnkR w b o F (cutR R A B vt va vb)) := by
  have HF := hid h
  have HQ := hid hq
  clear h hq
  go_enter Tryz.func115, Tryz.ntmps115
  go_wp2_with fail
  refine (take_any w b o F R u v vt HF.out HQ.out.t HQ.out.it HQ.out.nt HQ.out.lt).mono ?_
  rintro e w1 ⟨v1, rfl, ho1, hf1, hb1⟩
  have HF1 := hid hf1
  have HB1 := hid hb1
  rw [HQ.out.eq] at ho1
  obtain ⟨zb, zc, hz, hzb⟩ := pat_of_owns ho1 (by simp)
  have hzv := hz.hv
  have HZ := hid hz
  have hA : A ≠ [] := fun e => by have := HQ.out.la.1; rw [e] at this; simp at this
  have hB : B ≠ [] := fun e => by have := HQ.out.lb.1; rw [e] at this; simp at this
  have a1 : 1 ≤ A.length := by cases A with | nil => exact absurd rfl hA | cons _ _ => simp
  have b1 : 1 ≤ B.length := by cases B with | nil => exact absurd rfl hB | cons _ _ => simp
  have len : ((u, v) :: (A ++ (v, u) :: B)).length = A.length + B.length + 2 := by simp; omega
  have l3 : A.length + B.length + 2 ≤ 3000 := by rw [← len, ← HQ.out.eq, fromX_length]; exact HQ.out.lt
  have le := hz.le
  have mx := hz.mx
  unfold maxLen at mx
  rw [len] at le hzv
  have hpos : posX ((u, v) :: (A ++ (v, u) :: B)) (v, u) = ((A.length + 1 : Nat) : Int) := by
    refine posX_some (by rw [len]; omega) ?_ (fun j hj => ?_)
    · rw [show (u, v) :: (A ++ (v, u) :: B) = ((u, v) :: A) ++ (v, u) :: B by simp, List.getElem?_append_right (by simp)]; simp
    · rw [show (u, v) :: (A ++ (v, u) :: B) = ((u, v) :: A) ++ (v, u) :: B by simp, List.getElem?_append_left (by simpa using hj), get_eq (by simpa using hj)]
      exact fun q => HQ.out.no _ (List.getElem_mem (by simpa using hj)) q.symm
  have HPos := hid hpos
  have HZA : Hid (PAt w1 (.slice (some ⟨zb, 2, none⟩) A.length (zc - 1)) A zb 2 (zc - 1)) := by
    have := ((HZ.out.drop 1 (by rw [len]; omega)).take A.length (zc - 1) (by simp) (by omega) (Nat.le_refl _))
    have k : PAt w1 (.slice (some ⟨zb, 2, none⟩) A.length (zc - 1)) A zb 2 (zc - 1) := by simpa using this
    exact k
  have HZB : Hid (PAt w1 (.slice (some ⟨zb, (A.length + 2) * 2, none⟩) B.length (zc - (A.length + 2))) B zb ((A.length + 2) * 2) (zc - (A.length + 2))) := by
    have := HZ.out.drop (A.length + 2) (by rw [len]; omega)
    rw [len, show A.length + B.length + 2 - (A.length + 2) = B.length by omega, Nat.zero_add, show ((u, v) :: (A ++ (v, u) :: B)).drop (A.length + 2) = B by rw [show (u, v) :: (A ++ (v, u) :: B) = ((u, v) :: A ++ [(v, u)]) ++ B by simp, List.drop_left' (by simp)]] at this
    exact this
  have HPI : Hid (PIt w1 (.slice (some ⟨zb, 0, none⟩) (A.length + B.length + 2) zc) ((u, v) :: (A ++ (v, u) :: B))) := Or.inr ⟨zb, 0, zc, by have := HZ.out; rw [hzv] at this; exact this⟩
  clear ho1 hf1 hb1 hz hpos len HZ
  subst hzv
  generalize hL : ((u, v) :: (A ++ (v, u) :: B)) = L at HPos HPI
  clear hL
  go_wp2_with fail
  refine (position_any v u _ L _ HPI.out).mono ?_
  rintro e w2 ⟨rfl, hb2⟩
  rw [HPos.out]
  have HB2 := hid hb2
  have HF2 := hid (HF1.out.below hb2)
  have HZA2 := hid (HZA.out.below hb2 (Nat.le_refl _))
  have HZB2 := hid (HZB.out.below hb2 (Nat.le_refl _))
  clear hb2 HF1 HZA HZB HPI HPos
  have c1 : ¬ ((A.length + 1 : Nat) : Int) < 1 := by omega
  have c2 : (1 : Int) ≤ ((A.length + 1 : Nat) : Int) := by omega
  have c3 : A.length + 1 ≤ zc := by omega
  have c4 : ¬ zc = 1 := by omega
  have c5 : ¬ zc = A.length + 2 := by omega
  have c6 : A.length + 1 + 1 ≤ A.length + B.length + 2 := by omega
  have c7 : IntKind.i64.wrap (((A.length + 1 : Nat) : Int) + 1) = ((A.length + 2 : Nat) : Int) := by rw [IntKind.wrap_i64]; omega
  go_wp2_with fail
  refine (put_any w2 b o _ _ zb 2 (zc - 1) A va HF2.out HZA2.out HQ.out.a HQ.out.la (by omega)).mono ?_
  rintro e w3 ⟨F3, rfl, hf3, hm3, hb3⟩
  have HF3 := hid hf3
  have HM3 := hid hm3
  have HB3 := hid hb3
  have HZB3 : Hid (PAt w3 (.slice (some ⟨zb, (A.length + 2) * 2, none⟩) B.length (zc - (A.length + 2))) B zb ((A.length + 2) * 2) (zc - (A.length + 2))) := HZB2.out.block (hb3.block zb HZB2.out.lt (fun q => HF2.out.noIt zb q HZB2.out.lt HZB2.out.ty))
  clear hf3 hm3 hb3 HZA2 HZB2 HF2
  go_wp2_with fail
  refine (put_any w3 b o _ _ zb ((A.length + 2) * 2) (zc - (A.length + 2)) B vb HF3.out HZB3.out HQ.out.b HQ.out.lb (by omega)).mono ?_
  rintro e w4 ⟨F4, rfl, hf4, hm4, hb4⟩
  have HR : Hid (LnkR w b o F (cutR R A B vt va vb) (.returned (.tuple #[])) w4) := by
    refine ⟨F4, rfl, hf4.congr (fun z _ => rfl), ((show Frm o F _ from fun j hj => ?_).trans HM3.out).trans hm4, ((HB1.out.trans (S' := fun k => k = b) (But.of HB2.out) (fun _ _ q => q)).same HB3.out).same hb4⟩
    have := HQ.out.t
    show (if j = o + vt then _ else F j) = F j
    rw [if_neg (by omega)]
  clear hf4 hm4 hb4
  go_wp2_with fail
  go_end0
  exact HR.out

set_option maxRecDepth 100000 in
set_option maxHeartbeats 2000000 in
theorem Least_any (w : World) (b o : Nat) (F : Nat → Value) (R : Nat → List Itm) (v : Int) (h : Fo w b o F R) :
    Calls Tryz.prog 103 #[ptrA b o, .int .i64 v] w fun e w' => e = .returned (.int .i64 (holdX R (v, v))) ∧ Below w.heap.size w w' := by
  have HF := hid h
  clear h
  go_enter Tryz.func103, Tryz.ntmps103
  go_wp2_with fail
  refine (holder_any w b o F R v v HF.out).mono ?_
  rintro e w1 ⟨rfl, hb1⟩
  have HB1 := hid hb1
  clear hb1
  go_wp2_with fail
  go_ret
  exact ⟨rfl, HB1.out⟩

set_option maxRecDepth 100000 in
set_option maxHeartbeats 2000000 in
theorem RoundFrom_fany (w : World) (b o : Nat) (F : Nat → Value) (R : Nat → List Itm) (z : Nat) (h : Fo w b o F R) (hz : z < 48) :
    Calls Tryz.prog 111 #[ptrA b o, .int .i64 z] w fun e w' => e = .returned (F (o + z)) ∧ w' = w := by
  have hz' : (z : Int) < 48 := by omega
  have d := h.cell hz
  clear h
  go_enter Tryz.func111, Tryz.ntmps111
  go_wp2_with fail
  go_ret
  exact ⟨rfl, rfl⟩

set_option maxRecDepth 100000 in
set_option maxHeartbeats 2000000 in
theorem Round_fany (w : World) (b o : Nat) (F : Nat → Value) (R : Nat → List Itm) (v : Int) (z : Nat) (h : Fo w b o F R) (hz : z < 48) (hm : (v, v) ∈ R z) (hno : ∀ y, y < z → (v, v) ∉ R y) :
    Calls Tryz.prog 101 #[ptrA b o, .int .i64 v] w fun e w' => e = .returned (F (o + z)) ∧ Below w.heap.size w w' := by
  have HF := hid h
  have HH := hid (holdX_some hz hm hno)
  have hz' : (z : Int) < 48 := by omega
  clear h hm hno
  go_enter Tryz.func101, Tryz.ntmps101
  go_wp2_with fail
  refine (Least_any w b o F R v HF.out).mono ?_
  rintro e w1 ⟨rfl, hb1⟩
  rw [HH.out]
  have HB1 := hid hb1
  have HF1 := hid (HF.out.below hb1)
  clear hb1
  go_wp2_with fail
  refine (RoundFrom_fany w1 b o F R z HF1.out hz).mono ?_
  rintro e w2 ⟨rfl, hw⟩
  replace hw := hw.symm
  subst hw
  go_wp2_with fail
  go_ret
  exact ⟨rfl, HB1.out⟩

theorem cnt_succ (r : Nat → Bool) (n : Nat) : cnt r (n + 1) = cnt r n + (if r n then 1 else 0) := rfl

set_option maxRecDepth 100000 in
set_option maxHeartbeats 2000000 in
theorem Trees_any (w : World) (b o : Nat) (F : Nat → Value) (R : Nat → List Itm) (h : Fo w b o F R) :
    Calls Tryz.prog 67 #[ptrA b o] w fun e w' => e = .returned (.int .i64 ((cnt (fun z => !(R z).isEmpty) 48 : Nat) : Int)) ∧ w' = w := by
  have HF := hid h
  clear h
  go_enter Tryz.func67, Tryz.ntmps67
  go_wp2_with fail
  go_loopw [3, 5] (fun a i wr => ∃ c k : Nat, k ≤ 48 ∧ c ≤ k ∧ i = .int .i64 k ∧ a = .int .i64 c ∧ Hid (c = cnt (fun z => !(R z).isEmpty) k) ∧ wr = w) (fun _ i _ => 48 - (intOf i).toNat)
  case atStart => exact ⟨0, 0, by omega, by omega, rfl, rfl, rfl, rfl⟩
  case round =>
    obtain ⟨c, k, hk, hc, rfl, rfl, hC, hw⟩ := hrel
    replace hw := hw.symm
    subst hw
    by_cases hlt : k < 48
    · have hlt' : (k : Int) < 48 := by omega
      have d := HF.out.cell hlt
      rcases HF.out.it k hlt with ⟨e1, e2⟩ | ⟨b1, o1, c1, hp⟩
      · rw [e1] at d
        have HE := hid e2
        clear e1 e2
        go_wp2
        exact ⟨⟨c, k + 1, by omega, by omega, by go_num, rfl, by show _ = _; rw [cnt_succ, ← hC.out, HE.out]; rfl, trivial⟩, by simp [intOf]; omega⟩
      · rw [hp.hv] at d
        have mx := hp.mx
        have le := hp.le
        unfold maxLen at mx
        clear hp
        cases hR : R k with
        | nil =>
          rw [hR] at d
          have HE := hid hR
          clear hR
          go_wp2
          exact ⟨⟨c, k + 1, by omega, by omega, by go_num, rfl, by show _ = _; rw [cnt_succ, ← hC.out, HE.out]; rfl, trivial⟩, by simp [intOf]; omega⟩
        | cons x l =>
          rw [hR] at d le
          have HE := hid hR
          have e3 : (0 : Int) < (((x :: l).length : Nat) : Int) := by simp
          generalize (x :: l).length = q at d e3 le
          clear hR
          go_wp2
          exact ⟨⟨c + 1, k + 1, by omega, by omega, by go_num, by go_num, by show _ = _; rw [cnt_succ, ← hC.out, HE.out]; rfl, trivial⟩, by simp [intOf]; omega⟩
    · go_wp2
      go_ret
      have : k = 48 := by omega
      subst this
      exact ⟨ret_int (by have := hC.out; omega), rfl⟩

end Go.Proofs.YtckallochdegiaaGreat
namespace Go.Proofs.YtckallochdegiaaGreat
set_option linter.unusedVariables false
set_option linter.unusedSimpArgs false
open Go.RowKit

/-- The rounds of a forest without edges. -/
def baseR (n : Nat) : Nat → List Itm := fun v => if v < n then [((v : Int), (v : Int))] else []

/-- Planting, k vertices in. -/
structure PlI (w0 w : World) (b o n k : Nat) (F0 F : Nat → Value) : Prop where
  row : w.rowIs b 104 7202 F
  it : ∀ v, v < k → PIt w (F (o + v)) (baseR n v)
  fr : Frm o F0 F
  bt : But (fun q => q = b) w0 w

section
variable {w0 w : World} {b o n k : Nat} {F0 F : Nat → Value}
theorem PlI.noIt (h : PlI w0 w b o n k F0 F) : NoIt (fun q => q = b) w := noIt_one (rowIs_ty h.row) (by decide)
theorem PlI.set (h : PlI w0 w b o n k F0 F) (hk : k < 48) {nv : Value} (hn : PIt w nv (baseR n k)) : PlI w0 (w.setCell ⟨b, o + k, none⟩ nv) b o n (k + 1) F0 (fun j => if j = o + k then nv else F j) := by
  have bs := But.setCell w ⟨b, o + k, none⟩ nv
  refine ⟨h.row.set _ _, fun v hv => ?_, h.fr.trans (fun j hj => ?_), h.bt.same bs⟩
  · by_cases e : v = k
    · subst e; rw [if_pos rfl]; exact hn.but bs h.noIt
    · rw [if_neg (by omega)]; exact (h.it v (by omega)).but bs h.noIt
  · show (if j = o + k then nv else F j) = F j
    rw [if_neg (by omega)]
theorem PlI.nil (h : PlI w0 w b o n k F0 F) (hk : k < 48) : PlI w0 (w.setCell ⟨b, o + k, none⟩ (.slice none 0 0)) b o n k F0 (fun j => if j = o + k then .slice none 0 0 else F j) := by
  have bs := But.setCell w ⟨b, o + k, none⟩ (.slice none 0 0)
  refine ⟨h.row.set _ _, fun v hv => ?_, h.fr.trans (fun j hj => ?_), h.bt.same bs⟩
  · rw [if_neg (by omega)]; exact (h.it v (by omega)).but bs h.noIt
  · show (if j = o + k then _ else F j) = F j
    rw [if_neg (by omega)]
theorem PlI.alloc (h : PlI w0 w b o n k F0 F) (x : Obj) : PlI w0 (w.alloc x) b o n k F0 F :=
  ⟨h.row.alloc x, fun v hv => (h.it v hv).below ((Below.refl _ _).alloc (Nat.le_refl _) x) (Nat.le_refl _), h.fr, h.bt.alloc x⟩
end

theorem one_pit (w : World) (v : Int) : PIt (w.alloc (.cells #[.int .i64 v, .int .i64 v] 146)) (.slice (some ⟨w.heap.size, 0, none⟩) 1 1) [(v, v)] := by
  refine Or.inr ⟨w.heap.size, 0, 1, rfl, by simp, by unfold maxLen; omega, fun i hi => ?_, fun i hi => ?_, ⟨#[.int .i64 v, .int .i64 v], by show (w.heap.push _)[w.heap.size]? = _; simp⟩⟩
  · have : i = 0 := by simpa using hi
    subst this; rw [new_cell]; rfl
  · have : i = 0 := by simpa using hi
    subst this; rw [new_cell]; rfl

set_option maxRecDepth 100000 in
set_option maxHeartbeats 2000000 in
theorem Plant_any (w : World) (b o n : Nat) (F : Nat → Value) (hr : w.rowIs b 104 7202 F) (ho : o + 48 ≤ 7202) (hn : n ≤ 48) :
    Calls Tryz.prog 104 #[ptrA b o, .int .i64 n] w (LnkR w b o F (baseR n)) := by
  have HR := hid hr
  clear hr
  go_enter Tryz.func104, Tryz.ntmps104
  go_wp2_with fail
  go_loopw [5] (fun i wr => ∃ k : Nat, k ≤ 48 ∧ i = .int .i64 k ∧ Hid (∃ F', PlI w wr b o n k F F')) (fun i _ => 48 - (intOf i).toNat)
  case atStart => exact ⟨0, by omega, rfl, ⟨F, HR.out, fun v hv => by omega, Frm.refl _ _, But.refl _ _⟩⟩
  case round =>
    obtain ⟨k, hk, rfl, hP⟩ := hrel
    by_cases hlt : k < 48
    · have hlt' : (k : Int) < 48 := by omega
      obtain ⟨F', hp⟩ := hP.out
      have d := hp.row.cell (i := o + k) (by omega)
      have fz := hp.row.frozen
      have HN := hid (hp.nil hlt)
      have e := HN.out.row.cell (i := o + k) (by omega)
      have fz2 := HN.out.row.frozen
      rw [if_pos rfl] at e
      clear hp
      by_cases hn2 : k < n
      · have hn2' : (k : Int) < (n : Int) := by omega
        obtain ⟨w2, hw2⟩ : ∃ w2, w2 = w.setCell ⟨b, o + k, none⟩ (.slice none 0 0) := ⟨_, rfl⟩
        have HS : Hid ((wr.setCell ⟨b, o + k, none⟩ (.slice none 0 0)).heap.size = wr.heap.size) := by show _ = _; simp [World.setCell]
        have e2 := fun x => ((HN.out.alloc x).row.cell (i := o + k) (by omega))
        have fz3 := fun x => (HN.out.alloc x).row.frozen
        simp only [if_true] at e2
        go_wp2
        have HX := ((HN.out.alloc (.cells #[.int .i64 k, .int .i64 k] 146)).set hlt (nv := .slice (some ⟨wr.heap.size, 0, none⟩) 1 1) (by
          have := one_pit (wr.setCell ⟨b, o + k, none⟩ (.slice none 0 0)) k
          rw [HS.out] at this
          rw [baseR, if_pos hn2]; exact this))
        exact ⟨⟨k + 1, by omega, by go_num, ⟨_, HX⟩⟩, by simp [intOf]; omega⟩
      · have hn2' : ¬ (k : Int) < (n : Int) := by omega
        have HX : Hid (PlI w (wr.setCell ⟨b, o + k, none⟩ (.slice none 0 0)) b o n (k + 1) F (fun j => if j = o + k then .slice none 0 0 else F' j)) := by
          refine ⟨HN.out.row, fun v hv => ?_, HN.out.fr, HN.out.bt⟩
          by_cases c : v = k
          · subst c; rw [if_pos rfl, baseR, if_neg hn2]; exact Or.inl ⟨rfl, rfl⟩
          · exact HN.out.it v (by omega)
        go_wp2
        exact ⟨⟨k + 1, by omega, by go_num, ⟨_, HX.out⟩⟩, by simp [intOf]; omega⟩
    · have hke : k = 48 := by omega
      go_wp2
      go_end0
      obtain ⟨F', hp⟩ := hP.out
      subst hke
      exact ⟨F', rfl, ⟨hp.row, ho, hp.it⟩, hp.fr, hp.bt⟩

/-- The vertices of a round, in its order. -/
def vtxs (l : List Itm) : List Nat := (l.filter fun x => x.1 == x.2).map fun x => x.1.toNat

theorem vtxs_step (l : List Itm) (m : Nat) (hm : m < l.length) : vtxs (l.take (m + 1)) = vtxs (l.take m) ++ if (l[m]?.getD (0, 0)).1 = (l[m]?.getD (0, 0)).2 then [(l[m]?.getD (0, 0)).1.toNat] else [] := by
  rw [get_eq hm, vtxs, List.take_succ_eq_append_getElem hm, List.filter_append, List.map_append, vtxs]
  congr 1
  by_cases h : l[m].1 = l[m].2 <;> simp [h]
theorem vtxs_le (l : List Itm) : (vtxs l).length ≤ l.length := by rw [vtxs, List.length_map]; exact List.length_filter_le _ _

set_option maxRecDepth 100000 in
set_option maxHeartbeats 2000000 in
theorem Vertices_any (w : World) (b o cap : Nat) (l : List Itm) (h : PAt w (.slice (some ⟨b, o, none⟩) l.length cap) l b o cap) (hl : l.length ≤ 3000) (hok : ∀ x, x ∈ l → 0 ≤ x.1 ∧ x.1 < 48) :
    Calls Tryz.prog 102 #[.slice (some ⟨b, o, none⟩) l.length cap] w fun e w' => ∃ val, e = .returned val ∧ NumsAt w' w.heap.size val (vtxs l) ∧ Below w.heap.size w w' := by
  have HI := hid h
  have HOk := hid hok
  have h1 := h.le
  have h2 := h.mx
  unfold maxLen at h2
  obtain ⟨i3, q0, q1, q2, q3⟩ := info_parts Tryz.info3
  clear h hok
  go_enter Tryz.func102, Tryz.ntmps102
  go_wp2_with fail
  go_loopw [3, 9] (fun a c wr => ∃ k : Nat, k ≤ l.length ∧ c = .int .i64 k ∧ Hid (NumsAt wr w.heap.size a (vtxs (l.take k))) ∧ Hid (Below w.heap.size w wr)) (fun _ c _ => l.length - (intOf c).toNat)
  case atStart => exact ⟨0, by omega, rfl, ⟨by
    have := World.ownsRow_lit (base := w.heap.size) (e := 3) (size := 1) w #[] 0 (Nat.le_refl _) (by unfold maxLen; omega) rfl
    simpa [vtxs] using this, fun n hn => by simp [vtxs] at hn⟩, (Below.refl _ _).alloc (Nat.le_refl _) _⟩
  case round =>
    obtain ⟨k, hk, rfl, hN, hB⟩ := hrel
    have hBs := hB.out.size
    by_cases ck : k < l.length
    · have ck' : (k : Int) < (l.length : Int) := by omega
      have hI := HI.out.below hB.out (Nat.le_refl _)
      have y0 := hI.c0 k ck
      have y1 := hI.c1 k ck
      have hx0 := HOk.out (l[k]?.getD (0, 0)) (by rw [get_eq ck]; exact List.getElem_mem ck)
      clear hI
      have HV := hid (vtxs_step l k ck)
      have HVl : Hid ((vtxs (l.take k)).length ≤ 3000) := by
        have h1 := vtxs_le (l.take k)
        have h2 := List.length_take_le k l
        show _ ≤ _
        omega
      obtain ⟨x, hx⟩ : ∃ x, x = l[k]?.getD (0, 0) := ⟨_, rfl⟩
      rw [← hx] at y0 y1 hx0
      have HV2 : Hid (vtxs (l.take (k + 1)) = vtxs (l.take k) ++ if x.1 = x.2 then [x.1.toNat] else []) := by show _ = _; rw [hx]; exact HV.out
      clear hx HV
      obtain ⟨xa, xe⟩ := x
      simp only at y0 y1 hx0
      have HBx : Hid (∀ ob, Below w.heap.size w (wr.alloc ob)) := fun ob => hB.out.alloc hBs ob
      have HNx : Hid (∀ ob, NumsAt (wr.alloc ob) w.heap.size u3 (vtxs (l.take k))) := fun ob => ⟨hN.out.1.alloc ob, hN.out.2⟩
      by_cases cx : xa = xe
      · subst cx
        have HVe : Hid (vtxs (l.take (k + 1)) = vtxs (l.take k) ++ [xa.toNat]) := by show _ = _; rw [HV2.out]; simp
        clear HV2
        obtain ⟨L, hL⟩ : ∃ L, L = vtxs (l.take k) := ⟨_, rfl⟩
        rw [← hL] at HNx HVe HVl
        clear hL
        obtain ⟨xn, rfl⟩ : ∃ xn : Nat, xa = xn := ⟨xa.toNat, by omega⟩
        have hxn : xn < 48 := by omega
        have HM : Hid (L.length + 1 ≤ maxLen) := by have := HVl.out; show _ ≤ _; unfold maxLen; omega
        have hL3 := HVl.out
        clear hN
        go_wp2_with (at_builtin; refine wpList_append_own _ rfl (.tmp 18) (.tmp 21) 25 rfl w.heap.size 3 i3 _ 1 8 Tryz.underlying25 q0 q1 q2 q3 rfl (by decide) _ L.length _ rfl (((HNx.out _).1).alloc _) ⟨wr.heap.size + 1, 0, none⟩ 1 1 [.int .i64 xn] rfl rfl (by rw [show wr.heap.size + 1 = (wr.alloc (.cells #[.int .i64 xn, .int .i64 xn] 146)).heap.size by simp]; exact one_cell _ _ _) (fun y hy => by simp at hy; subst hy; rfl) HM.out (by omega) (by simp; omega) ?_; intro v' w3 ho hg _)
        have R1 : NumsAt w3 w.heap.size v' (L ++ [xn]) := by
          refine ⟨by rw [List.length_append, List.map_append]; exact ho, fun z hz => ?_⟩
          rcases List.mem_append.1 hz with q | q
          · exact (HNx.out (.cells #[] 0)).2 z q
          · simp at q; omega
        have R2 : Below w.heap.size w w3 := ((HBx.out _).alloc (by simp; omega) _).grown hg (by simp; omega) (fun k hk => ((HNx.out (.cells #[] 0)).1.lt k hk).1)
        exact ⟨⟨k + 1, by omega, by go_num, by rw [HVe.out, Int.toNat_natCast]; exact R1, R2⟩, by simp [intOf]; omega⟩
      · have cx' : (xa == xe) = false := by simpa using cx
        have HVe : Hid (vtxs (l.take (k + 1)) = vtxs (l.take k)) := by show _ = _; rw [HV2.out]; simp [cx]
        clear HV2
        go_wp2
        exact ⟨⟨k + 1, by omega, by go_num, by rw [HVe.out]; exact HNx.out _, HBx.out _⟩, by simp [intOf]; omega⟩
    · go_wp2
      go_ret
      have : k = l.length := by omega
      subst this
      exact ⟨_, rfl, by have := hN.out; rwa [List.take_length] at this, hB.out⟩

end Go.Proofs.YtckallochdegiaaGreat
