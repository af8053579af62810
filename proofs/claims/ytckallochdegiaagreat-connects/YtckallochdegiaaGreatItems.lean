import Derived.Test.YtckallochdegiaaGreatRep
import Derived.Test.YtckallochdegiaaGreatComp
namespace Go.Proofs.YtckallochdegiaaGreat
set_option linter.unusedVariables false
set_option linter.unusedSimpArgs false
open Go.RowKit

def itemCells (l : List Itm) : List Value := l.flatMap fun x => [.int .i64 x.1, .int .i64 x.2]

theorem itemCells_length (l : List Itm) : (itemCells l).length = l.length * 2 := by
  induction l with
  | nil => rfl
  | cons a l ih => simp only [itemCells, List.flatMap_cons, List.length_append, List.length_cons, List.length_nil] at *; omega

theorem itemCells_append (l m : List Itm) : itemCells (l ++ m) = itemCells l ++ itemCells m := by simp [itemCells]

theorem itemCells_get (l : List Itm) (i : Nat) (hi : i < l.length) : (itemCells l)[i * 2]? = some (.int .i64 (l[i]?.getD (0, 0)).1) ∧ (itemCells l)[i * 2 + 1]? = some (.int .i64 (l[i]?.getD (0, 0)).2) := by
  induction l generalizing i with
  | nil => simp at hi
  | cons a l ih =>
    have e : itemCells (a :: l) = [.int .i64 a.1, .int .i64 a.2] ++ itemCells l := by simp [itemCells]
    rw [e]
    cases i with
    | zero => simp
    | succ i =>
      have := ih i (by simpa using hi)
      rw [List.getElem?_append_right (by simp; omega), List.getElem?_append_right (by simp; omega)]
      simp only [List.length_cons, List.length_nil, List.getElem?_cons_succ]
      rw [show (i + 1) * 2 - (0 + 1 + 1) = i * 2 by omega, show (i + 1) * 2 + 1 - (0 + 1 + 1) = i * 2 + 1 by omega]
      exact this

theorem addr_add (b o j : Nat) : (⟨b, o, none⟩ : Addr).add j = ⟨b, o + j, none⟩ := by
  simp only [Addr.add]
  by_cases h : j = 0
  · subst h; simp
  · simp [h]

theorem items_one (l : List Itm) (u : Value) (h : u ∈ itemCells l) : u.oneCell' = true := by
  simp only [itemCells, List.mem_flatMap] at h
  obtain ⟨x, _, hx⟩ := h
  simp only [List.mem_cons, List.not_mem_nil, or_false] at hx
  rcases hx with rfl | rfl <;> rfl

section
variable {w w' : World} {v : Value} {l : List Itm} {b o cap : Nat}

theorem ItemsAt.cells (h : ItemsAt w v l b o cap) (j : Nat) (u : Value) (hj : (itemCells l)[j]? = some u) : w.cell? ((⟨b, o, none⟩ : Addr).add j) = some u := by
  rw [addr_add]
  have hlt : j < l.length * 2 := by
    have := (List.getElem?_eq_some_iff.1 hj).1
    rw [itemCells_length] at this; exact this
  obtain ⟨i, r, rfl, hr⟩ : ∃ i r, j = i * 2 + r ∧ (r = 0 ∨ r = 1) := ⟨j / 2, j % 2, by omega, by omega⟩
  have hi : i < l.length := by omega
  have k := itemCells_get l i hi
  rcases hr with rfl | rfl
  · rw [Nat.add_zero] at hj ⊢
    rw [k.1] at hj; rw [h.c0 i hi]; exact hj
  · rw [k.2] at hj; rw [← Nat.add_assoc, h.c1 i hi]; exact hj

theorem ItemsAt.drop (h : ItemsAt w v l b o cap) (k : Nat) (hk : k ≤ l.length) : ItemsAt w (.slice (some ⟨b, o + k * 2, none⟩) (l.length - k) (cap - k)) (l.drop k) b (o + k * 2) (cap - k) := by
  have hl : (l.drop k).length = l.length - k := List.length_drop
  refine ⟨by rw [hl], by have := h.le; omega, by have := h.mx; omega, fun i hi => ?_, fun i hi => ?_, h.ty⟩
  · rw [List.getElem?_drop, show o + k * 2 + i * 2 = o + (k + i) * 2 by omega]; exact h.c0 (k + i) (by omega)
  · rw [List.getElem?_drop, show o + k * 2 + i * 2 + 1 = o + (k + i) * 2 + 1 by omega]; exact h.c1 (k + i) (by omega)

theorem ItemsAt.take (h : ItemsAt w v l b o cap) (k c : Nat) (hk : k ≤ l.length) (hc : k ≤ c) (hm : c ≤ cap) : ItemsAt w (.slice (some ⟨b, o, none⟩) k c) (l.take k) b o c := by
  have hl : (l.take k).length = k := by rw [List.length_take]; omega
  refine ⟨by rw [hl], by omega, by have := h.mx; omega, fun i hi => ?_, fun i hi => ?_, h.ty⟩
  · rw [List.getElem?_take, if_pos (by omega)]; exact h.c0 i (by omega)
  · rw [List.getElem?_take, if_pos (by omega)]; exact h.c1 i (by omega)

theorem ItemsAt.lt (h : ItemsAt w v l b o cap) : b < w.heap.size := by
  obtain ⟨c, hc⟩ := h.ty
  exact (Array.getElem?_eq_some_iff.1 hc).1

theorem ItemsAt.block (h : ItemsAt w v l b o cap) (e : w'.heap[b]? = w.heap[b]?) : ItemsAt w' v l b o cap := by
  have k : ∀ o, w'.cell? ⟨b, o, none⟩ = w.cell? ⟨b, o, none⟩ := fun o => World.cell?_of_block (w := w) (a := ⟨b, o, none⟩) e
  exact ⟨h.hv, h.le, h.mx, fun i hi => by rw [k]; exact h.c0 i hi, fun i hi => by rw [k]; exact h.c1 i hi, by rw [e]; exact h.ty⟩

theorem ItemsAt.below {B : Nat} (h : ItemsAt w v l b o cap) (hb : Below B w w') (hB : w.heap.size ≤ B) : ItemsAt w' v l b o cap :=
  h.block (hb.block b (by have := h.lt; omega))

theorem items_of_owns {B : Nat} (h : w.ownsRow B 71 2 v l.length (itemCells l)) (hne : l ≠ []) : ∃ b cap, ItemsAt w v l b 0 cap ∧ B ≤ b := by
  have hc := fun g hg => h.cells (g := g) hg
  rcases h.2 with ⟨_, h0⟩ | ⟨g, cap, cur, hv, hB, hg, hle, hmx, _⟩
  · exact absurd (List.eq_nil_of_length_eq_zero h0) hne
  · refine ⟨g, cap, ⟨hv, hle, hmx, fun i hi => ?_, fun i hi => ?_, cur, hg⟩, hB⟩
    · have := hc g (by rw [hv]; rfl) (i * 2) _ (itemCells_get l i hi).1
      rw [addr_add] at this; exact this
    · have := hc g (by rw [hv]; rfl) (i * 2 + 1) _ (itemCells_get l i hi).2
      rw [addr_add] at this; exact this
end

/-- 'append' to a row that the call owns, as one step of a region that draws its order. -/
theorem step_append_mine {P : Program} {ops : Array Oper} {o : Oper} {a : Act} {w : World} {K : Act → World → Prop} {Q : Exit → Act → World → Prop} {E : Prop}
    (hg : o.guard = none) (s x : Operand) (t : TypeId) (hop : o.op = Op.call { callee := Callee.builtin Builtin.append, args := #[s, x], argTypes := #[t, t] })
    (base : Nat) (e : TypeId) (i : TypeInfo) (z : Value) (size bytes : Nat) (h1 : P.underlying t = some (.slice e)) (h2 : P.info? e = some i) (h3 : i.zero = some z) (h4 : i.size = size) (h5 : i.bytes = bytes) (h6 : z.cells.size = size) (h7 : 0 < size)
    (v : Value) (n : Nat) (xs : List Value) (hs : a.eval s = v) (hown : w.ownsRow base e size v n xs)
    (ad : Addr) (m c : Nat) (news : List Value) (hx : a.eval x = .slice (some ad) m c) (hn : news.length = m * size) (hc : ∀ j u, news[j]? = some u → w.cell? (ad.add j) = some u) (h1c : ∀ u ∈ news, u.oneCell' = true)
    (b1 : n + m ≤ maxLen) (b2 : (n + m) * bytes ≤ 140737488355328) (hbase : base ≤ w.heap.size)
    (hK : ∀ v' w', w'.ownsRow base e size v' (n + m) (xs ++ news) → w.grownBy w' v.ownBlock → K (a.put o.dst v') w') :
    if Region.wanted o (yielded ops a.tmps) = true then Oper.wp P o a w K Q else E := by
  have hw : Region.wanted o (yielded ops a.tmps) = true := by simp [Region.wanted, hg]
  rw [if_pos hw]
  obtain ⟨v', w', hrun, r1, r2, _⟩ := run_append_own (P := P) w base t o.type e i z size bytes h1 h2 h3 h4 h5 h6 h7 v n xs hown ad m c news hn hc h1c b1 b2 hbase
  unfold Oper.wp
  simp [execOp, hop, resolve, invoke, builtin, hs, hx, hrun, Result.andThen]
  exact hK v' w' r1 r2

end Go.Proofs.YtckallochdegiaaGreat
namespace Go.Proofs.YtckallochdegiaaGreat
set_option linter.unusedVariables false
set_option linter.unusedSimpArgs false
open Go.RowKit

theorem Tryz.info71 : (Tryz.prog.info? 71).map (fun i => (i.zero, i.size, i.bytes)) = some (some (.agg #[.int .i64 0, .int .i64 0]), 2, 16) := by kernel_rfl

theorem new_cell (w : World) (c : Array Value) (t i : Nat) : (w.alloc (.cells c t)).cell? ⟨w.heap.size, i, none⟩ = c[i]? := by
  have : (w.alloc (.cells c t)).heap[w.heap.size]? = some (.cells c t) := by show (w.heap.push _)[w.heap.size]? = _; simp
  simp only [World.cell?, this]; simp

theorem items_grown {w w' : World} {v : Value} {l : List Itm} {b o cap : Nat} {row : Option Nat} (h : ItemsAt w v l b o cap) (g : w.grownBy w' row) (hne : some b ≠ row) : ItemsAt w' v l b o cap := h.block (g.block b h.lt hne)
theorem items_alloc {w : World} {v : Value} {l : List Itm} {b o cap : Nat} (h : ItemsAt w v l b o cap) (x : Obj) : ItemsAt (w.alloc x) v l b o cap := h.block (Below.heap_alloc _ _ _ h.lt)
theorem items_drew {w : World} {v : Value} {l : List Itm} {b o cap : Nat} (h : ItemsAt w v l b o cap) : ItemsAt w.drew v l b o cap := h.block rfl

theorem from_done {w : World} {v : Value} {l : List Itm} {k B : Nat} {x : Itm} (h : w.ownsRow B 71 2 v (l.length - k + k) (itemCells (l.drop k) ++ itemCells (l.take k))) (hk : k < l.length) (hx : l[k]?.getD (0, 0) = x) (hno : ∀ j, j < k → ¬ x = l[j]?.getD (0, 0)) : Items w v (fromX l x) := by
  rw [fromX_some hk hx hno]
  rw [← itemCells_append] at h
  have hl : (l.drop k ++ l.take k).length = l.length - k + k := by rw [List.length_append, List.length_drop, List.length_take]; omega
  rw [← hl] at h
  obtain ⟨b, cap, h2, _⟩ := items_of_owns h (by intro e; have := congrArg List.length e; rw [hl] at this; simp at this; omega)
  exact ⟨b, 0, cap, h2⟩

set_option maxRecDepth 100000 in
set_option maxHeartbeats 2000000 in
theorem From_any (b o cap : Nat) (x1 x2 : Int) (l : List Itm) (w : World) (hI : ItemsAt w (.slice (some ⟨b, o, none⟩) l.length cap) l b o cap) (hs : l.length ≤ 3000) :
    Calls Tryz.prog 76 #[.slice (some ⟨b, o, none⟩) l.length cap, .agg #[.int .i64 x1, .int .i64 x2]] w fun e w' => ∃ v', e = .returned v' ∧ Items w' v' (fromX l (x1, x2)) ∧ Below w.heap.size w w' := by
  have HI : Hid (ItemsAt w (.slice (some ⟨b, o, none⟩) l.length cap) l b o cap) := hI
  have h1 := hI.le
  have h2 := hI.mx
  unfold maxLen at h2
  clear hI
  obtain ⟨i74, q0, q1, q2, q3⟩ := info_parts Tryz.info71
  go_enter Tryz.func76, Tryz.ntmps76
  go_wp2_with fail
  go_loopw [9] (fun i wr => ∃ k : Nat, k ≤ l.length ∧ i = .int .i64 k ∧ Hid (∀ j, j < k → ¬ (x1, x2) = l[j]?.getD (0, 0)) ∧ Hid (Below (w.heap.size + 1) (w.alloc (.cells #[.int .i64 x1, .int .i64 x2] 71)) wr)) (fun i _ => l.length - (intOf i).toNat)
  case atStart => exact ⟨0, by omega, rfl, fun j hj => by omega, Below.refl _ _⟩
  case round =>
    obtain ⟨k, hk, rfl, hno, hL0⟩ := hrel
    have hL1 := hL0.out
    have hL : Below w.heap.size w wr := ((Below.refl _ _).alloc (Nat.le_refl _) _).trans (hL1.mono (by omega))
    have hB := hL.size
    have hBx : w.heap.size < wr.heap.size := by have := hL1.size; simp at this; omega
    by_cases hlt : k < l.length
    · have hlt' : (k : Int) < (l.length : Int) := by omega
      have I2 := HI.out.below hL (Nat.le_refl _)
      have d0 := I2.c0 k hlt
      have d1 := I2.c1 k hlt
      have y0 : wr.cell? ⟨w.heap.size, 0, none⟩ = some (.int .i64 x1) := by
        rw [hL1.cell (p := ⟨w.heap.size, 0, none⟩) (by simp), new_cell]; rfl
      have y1 : wr.cell? ⟨w.heap.size, 1, none⟩ = some (.int .i64 x2) := by
        rw [hL1.cell (p := ⟨w.heap.size, 1, none⟩) (by simp), new_cell]; rfl
      obtain ⟨x, hx⟩ : ∃ x, x = l[k]?.getD (0, 0) := ⟨_, rfl⟩
      rw [← hx] at d0 d1
      have Hx : Hid (x = l[k]?.getD (0, 0)) := hx
      clear hx
      have HI2 := hid I2
      have HL := hid hL
      have HL1 := hid hL1
      clear I2 hL0 hL hL1
      obtain ⟨z1, z2⟩ := x
      by_cases e1 : x1 = z1
      · by_cases e2 : x2 = z2
        · subst e1 e2
          have hcap : ¬ cap = k := by omega
          have hkc : k ≤ cap := by omega
          go_wp2_with fail
          go_cut [4] from 9 to 25 (fun v wc => Hid (Items wc v (fromX l (x1, x2))) ∧ Hid (Below w.heap.size w wc))
          case first =>
            have HN1 : Hid ((itemCells (l.drop k)).length = (l.length - k) * 2) := by show _ = _; rw [itemCells_length, List.length_drop]
            have HN2 : Hid ((itemCells (l.take k)).length = k * 2) := by show _ = _; rw [itemCells_length, List.length_take]; omega
            have HC1 : Hid (∀ x, ItemsAt (wr.alloc x).drew (.slice (some ⟨b, o + k * 2, none⟩) (l.length - k) (cap - k)) (l.drop k) b (o + k * 2) (cap - k)) := fun x => items_drew (items_alloc (HI2.out.drop k hk) x)
            have HC2 : Hid (∀ x, ItemsAt (wr.alloc x).drew (.slice (some ⟨b, o, none⟩) k cap) (l.take k) b o cap) := fun x => items_drew (items_alloc (HI2.out.take k cap hk (by omega) (Nat.le_refl _)) x)
            have HM1 : Hid (0 + (l.length - k) ≤ maxLen) := by show _ ≤ _; unfold maxLen; omega
            have HM2 : Hid (l.length - k + k ≤ maxLen) := by show _ ≤ _; unfold maxLen; omega
            have HS : Hid (∀ x, w.heap.size ≤ (wr.alloc x).drew.heap.size) := fun x => by show _ ≤ (wr.alloc x).heap.size; simp; omega
            clear y0 y1 d0 d1
            go_region_law (first
              | (refine step_append_mine rfl (.const (.slice none 0 0)) (.tmp 19) 68 rfl w.heap.size 71 i74 _ 2 16 Tryz.underlying68 q0 q1 q2 q3 rfl (by decide) (.slice none 0 0) 0 [] rfl (World.ownsRow_nil _ _ _ _) ⟨b, o + k * 2, none⟩ (l.length - k) (cap - k) (itemCells (l.drop k)) (by simp [Act.eval, Act.put]) HN1.out (HC1.out _).cells (items_one _) HM1.out (by omega) (HS.out _) ?_; intro v1 w1 ho1 hg1; simp only [Nat.zero_add, List.nil_append] at ho1)
              | (refine step_append_mine rfl (.tmp 20) (.tmp 23) 68 rfl w.heap.size 71 i74 _ 2 16 Tryz.underlying68 q0 q1 q2 q3 rfl (by decide) v1 (l.length - k) (itemCells (l.drop k)) (by simp [Act.eval, Act.put]) ho1 ⟨b, o, none⟩ k cap (itemCells (l.take k)) (by simp [Act.eval, Act.put]) HN2.out (items_grown (HC2.out _) hg1 (by simp [Value.ownBlock])).cells (items_one _) HM2.out (by omega) (Nat.le_trans (HS.out _) hg1.size) ?_; intro v2 w2 ho2 hg2))
            all_goals
              have R1 : Hid (Items w2 v2 (fromX l (x1, x2))) := from_done ho2 hlt Hx.out.symm hno.out
              have R2 : Hid (Below w.heap.size w w2) := ((((HL.out.alloc hB _).drew).grown hg1 (HS.out _) (fun k hk => by simp [Value.ownBlock] at hk)).grown hg2 (Nat.le_trans (HS.out _) hg1.size) (fun k hk => (ho1.lt k hk).1))
              clear ho1 hg1 ho2 hg2
              go_wp2
              go_meet
              case rel => exact ⟨R1, R2⟩
          case rest =>
            obtain ⟨hA, hB2⟩ := hcut
            go_wp2
            go_ret
            exact ⟨_, rfl, hA.out, hB2.out⟩
        · have e3 : (x2 == z2) = false := by simpa using e2
          go_wp2
          exact ⟨⟨k + 1, by omega, by go_num, fun j hj => by
            by_cases e : j = k
            · subst e; rw [← Hx.out]; intro q; simp at q; exact e2 q.2
            · exact hno.out j (by omega), HL1.out.alloc (by omega) _⟩, by simp [intOf]; omega⟩
      · have e3 : (x1 == z1) = false := by simpa using e1
        go_wp2
        exact ⟨⟨k + 1, by omega, by go_num, fun j hj => by
          by_cases e : j = k
          · subst e; rw [← Hx.out]; intro q; simp at q; exact e1 q.1
          · exact hno.out j (by omega), HL1.out.alloc (by omega) _⟩, by simp [intOf]; omega⟩
    · go_wp2
      go_ret
      exact ⟨_, rfl, ⟨b, o, cap, by rw [fromX_none (fun j hj => hno.out j (by omega))]; exact HI.out.below hL (Nat.le_refl _)⟩, hL⟩

end Go.Proofs.YtckallochdegiaaGreat
