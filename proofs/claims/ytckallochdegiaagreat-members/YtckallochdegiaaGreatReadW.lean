import Derived.Test.YtckallochdegiaaGreatWeak
import Derived.Deep.RegionHeld
import Derived.Deep.Light
import Derived.Test.YtckallochdegiaaGreatLaw
import Derived.Test.YtckallochdegiaaGreatToursX
import Derived.Test.YtckallochdegiaaGreatFirX
namespace Go.Proofs.YtckallochdegiaaGreat
set_option linter.unusedVariables false
set_option linter.unusedSimpArgs false
open Go.RowKit

theorem TextsAt.at_ {w : World} {B m : Nat} {v : Value} {l : List ByteArray} (h : TextsAt w B v l m) (hl : l.length = 3) : ∃ g c t0 t1 t2, v = .slice (some ⟨g, 0, none⟩) 3 c ∧ g < w.heap.size ∧ 3 ≤ c ∧ c ≤ maxLen ∧ (w.cell? ⟨g, 0, none⟩ = some (.string t0) ∧ w.cell? ⟨g, 1, none⟩ = some (.string t1) ∧ w.cell? ⟨g, 2, none⟩ = some (.string t2)) ∧ t0.size ≤ m ∧ t1.size ≤ m ∧ t2.size ≤ m := by
  obtain ⟨t0, t1, t2, rfl⟩ : ∃ a b c, l = [a, b, c] := by
    match l, hl with
    | [a, b, c], _ => exact ⟨a, b, c, rfl⟩
  rcases h.1.2 with ⟨_, h2⟩ | ⟨g, cap, cur, h1, hB, h3, h4, h5, _, h7⟩
  · simp at h2
  · have cell : ∀ j (y : Value), ([t0, t1, t2].map Value.string)[j]? = some y → w.cell? ⟨g, j, none⟩ = some y := fun j y hy => by
      have := h.1.cells (g := g) (by rw [h1]; rfl) j y hy
      rw [addr_add, Nat.zero_add] at this
      exact this
    exact ⟨g, cap, t0, t1, t2, h1, (Array.getElem?_eq_some_iff.1 h3).1, h4, h5, ⟨cell 0 _ rfl, cell 1 _ rfl, cell 2 _ rfl⟩, h.2 t0 (by simp), h.2 t1 (by simp), h.2 t2 (by simp)⟩

/-- What Read answers: some graph, some error; nothing that was there has turned. -/
def ReadR (w : World) (e : Ending) (w' : World) : Prop := ∃ (p : Option Addr) (n : Int), e = .returned (.tuple #[.pointer p, .int .i64 n]) ∧ Below w.heap.size w w'

/-- The slice of numbers, as Read sees it. -/
theorem nums_form {w : World} {B : Nat} {v : Value} {l : List Nat} (h : NumsAt w B v l) : ∃ p c, v = .slice p l.length c ∧ (0 < l.length → ∃ g, p = some ⟨g, 0, none⟩ ∧ l.length ≤ c ∧ c ≤ maxLen ∧ g < w.heap.size ∧ ∀ j, j < l.length → w.cell? ⟨g, j, none⟩ = some (.int .i64 ((l[j]?.getD 0 : Nat) : Int))) := by
  by_cases hl : 0 < l.length
  · obtain ⟨g, c, h1, h2, _, h4, h5, _, h7⟩ := h.at_ hl
    exact ⟨_, _, h1, fun _ => ⟨g, rfl, h4, h5, h2, h7⟩⟩
  · rcases h.1.2 with ⟨q, q2⟩ | ⟨gb, cap, cur, q, _⟩
    · exact ⟨none, 0, by rw [q, q2], fun q => absurd q hl⟩
    · exact ⟨_, _, q, fun q => absurd q hl⟩

theorem butR {w wx w3 : World} {row : Option Nat} (b : Below w.heap.size w wx) (g : wx.grownBy w3 row) : But (fun k => some k = row) w w3 := (But.of b).trans (But.grown g) (fun _ _ q => q)

theorem edge_cells4 (w : World) (a b l : Int) (t : Bool) (j : Nat) (y : Value) (h : (eCells [⟨a, b, l, t⟩])[j]? = some y) : (w.alloc (.cells #[.int .i64 a, .int .i64 b, .int .i64 l, .bool t] 89)).cell? ((⟨w.heap.size, 0, none⟩ : Addr).add j) = some y := by
  rw [addr_add, Nat.zero_add, new_cell]
  simpa [eCells, Edg.cells] using h

theorem edge_drew (w : World) (a b l : Int) (t : Bool) (j : Nat) (y : Value) (h : (eCells [⟨a, b, l, t⟩])[j]? = some y) : (w.alloc (.cells #[.int .i64 a, .int .i64 b, .int .i64 l, .bool t] 89)).drew.cell? ((⟨w.heap.size, 0, none⟩ : Addr).add j) = some y := edge_cells4 w a b l t j y h

/-- An edge more, in a graph of which the tours are not known. -/
theorem GW.app {w w2 : World} {g N : Nat} {es : List Edg} {ev v2 : Value} {tb nt tcap B : Nat} {pr : Int} {e : Edg} (h : GW w g N es ev tb nt tcap pr) (hb : But (fun k => ev.ownBlock = some k) w w2)
    (ho : w2.ownsRow B 89 4 v2 (es.length + 1) (eCells es ++ eCells [e])) (he : (0 ≤ e.u ∧ e.u < N) ∧ (0 ≤ e.v ∧ e.v < N)) :
    GW (w2.setCell ⟨g, 1, none⟩ v2) g N (es ++ [e]) v2 tb nt tcap pr ∧ (w2.setCell ⟨g, 1, none⟩ v2).ownsRow B 89 4 v2 (es ++ [e]).length (eCells (es ++ [e])) := by
  obtain ⟨F, hF⟩ := h.rt
  have n1 := fun k (hk : ev.ownBlock = some k) => h.ed.notIn (rowIs_ty h.rg) (by decide) k hk
  have n2 := fun k (hk : ev.ownBlock = some k) => h.ed.notIn (rowIs_ty hF) (by decide) k hk
  have r2 := row_but h.rg hb (fun q => n1 g q rfl)
  have t2 := row_but hF hb (fun q => n2 tb q rfl)
  have bs := But.setCell w2 ⟨g, 1, none⟩ v2
  have ho2 : (w2.setCell ⟨g, 1, none⟩ v2).ownsRow B 89 4 v2 (es ++ [e]).length (eCells (es ++ [e])) := by
    rw [List.length_append, eCells_append]
    exact owns_set_other ho (rowIs_ty r2) (by decide) _ _
  refine ⟨⟨(r2.set 1 v2).congr ?_, (edges_of_owns ho2 rfl).1, ⟨F, row_but t2 bs (fun q => h.gtb q.symm)⟩, h.tl, h.tm, h.n1, h.n48, fun f hf => ?_, h.nt6⟩, ho2⟩
  · intro i hi
    simp only [gf]
    by_cases q : i = 1
    · subst q; simp
    · simp [q]
  · rcases List.mem_append.1 hf with q | q
    · exact h.inr f q
    · simp at q; subst q; exact he

end Go.Proofs.YtckallochdegiaaGreat
namespace Go.Proofs.YtckallochdegiaaGreat
set_option linter.unusedVariables false
set_option linter.unusedSimpArgs false
open Go.RowKit

theorem TextsAt.at3 {w : World} {B m : Nat} {v : Value} {t0 t1 t2 : ByteArray} (h : TextsAt w B v [t0, t1, t2] m) : ∃ g c, v = .slice (some ⟨g, 0, none⟩) 3 c ∧ g < w.heap.size ∧ 3 ≤ c ∧ c ≤ maxLen ∧ (w.cell? ⟨g, 0, none⟩ = some (.string t0) ∧ w.cell? ⟨g, 1, none⟩ = some (.string t1) ∧ w.cell? ⟨g, 2, none⟩ = some (.string t2)) ∧ t0.size ≤ m ∧ t1.size ≤ m ∧ t2.size ≤ m := by
  rcases h.1.2 with ⟨_, h2⟩ | ⟨g, cap, cur, h1, hB, h3, h4, h5, _, h7⟩
  · simp at h2
  · have cell : ∀ j (y : Value), ([t0, t1, t2].map Value.string)[j]? = some y → w.cell? ⟨g, j, none⟩ = some y := fun j y hy => by
      have := h.1.cells (g := g) (by rw [h1]; rfl) j y hy
      rw [addr_add, Nat.zero_add] at this
      exact this
    exact ⟨g, cap, h1, (Array.getElem?_eq_some_iff.1 h3).1, h4, h5, ⟨cell 0 _ rfl, cell 1 _ rfl, cell 2 _ rfl⟩, h.2 t0 (by simp), h.2 t1 (by simp), h.2 t2 (by simp)⟩

/-- What numbers answers, in one form. -/
def NumsY (s : ByteArray) (w : World) (e : Ending) (w' : World) : Prop := ∃ (v : Value) (ok : Bool), e = .returned (.tuple #[v, .bool ok]) ∧ ((ok = false ∧ v = .slice none 0 0 ∧ numbersF s = none) ∨ (ok = true ∧ ∃ l, NumsAt w' w.heap.size v l ∧ l.length ≤ s.size ∧ numbersF s = some l)) ∧ Below w.heap.size w w'
theorem numbers_Y (w : World) (s : ByteArray) (hs : s.size ≤ 2 ^ 40) : Calls Tryz.prog 54 #[.string s] w (NumsY s w) := by
  refine (numbers_F w s hs).mono ?_
  rintro e w' ⟨h, hb⟩
  rcases h with ⟨h1, h2⟩ | ⟨v, l, h1, h2, h3, h4⟩
  · exact ⟨_, _, h2, Or.inl ⟨rfl, rfl, h1⟩, hb⟩
  · exact ⟨_, _, h2, Or.inr ⟨rfl, l, h3, h4, h1⟩, hb⟩

/-- What is behind the edges. -/
def readH (n : Nat) (es : List Edg) (t2 : ByteArray) : Nat × Option Gr := match numbersF t2 with
  | none => (9, none)
  | some t => match toursF n es t with
    | none => (9, none)
    | some T => if levelF n es = true then (0, some ⟨n, es, T⟩) else (10, none)
section
variable {s t0 t1 t2 : ByteArray} {ns ms t : List Nat} {es : List Edg}
theorem readF_5 (h : 32768 < s.size) : readF s = (5, none) := by rw [readF, if_pos h]
theorem readF_6 (h : ¬ 32768 < s.size) (k : ¬ (4 ≤ s.size ∧ s.extract 0 4 = ⟨#[72, 68, 84, 49]⟩)) : readF s = (6, none) := by rw [readF, if_neg h, if_pos k]
theorem readF_7 (h : ¬ 32768 < s.size) (k : 4 ≤ s.size ∧ s.extract 0 4 = ⟨#[72, 68, 84, 49]⟩) (p : partsF (s.extract 4 s.size) = none) : readF s = (7, none) := by
  rw [readF, if_neg h, if_neg (fun q => q k), p]
theorem readF_8a (h : ¬ 32768 < s.size) (k : 4 ≤ s.size ∧ s.extract 0 4 = ⟨#[72, 68, 84, 49]⟩) (p : partsF (s.extract 4 s.size) = some [t0, t1, t2]) (q : numbersF t0 = none) : readF s = (8, none) := by
  rw [readF, if_neg h, if_neg (fun q => q k), p]
  simp [q]
theorem readF_8b (h : ¬ 32768 < s.size) (k : 4 ≤ s.size ∧ s.extract 0 4 = ⟨#[72, 68, 84, 49]⟩) (p : partsF (s.extract 4 s.size) = some [t0, t1, t2]) (q : numbersF t1 = none) : readF s = (8, none) := by
  rw [readF, if_neg h, if_neg (fun q => q k), p]
  simp [q]
theorem readF_n (h : ¬ 32768 < s.size) (k : 4 ≤ s.size ∧ s.extract 0 4 = ⟨#[72, 68, 84, 49]⟩) (p : partsF (s.extract 4 s.size) = some [t0, t1, t2]) (q0 : numbersF t0 = some ns) (q1 : numbersF t1 = some ms) :
    readF s = if ns.length = 1 ∧ 1 ≤ ns[0]?.getD 0 ∧ ns[0]?.getD 0 ≤ 48 ∧ 0 < ms.length ∧ ms.length = 1 + 3 * ms[0]?.getD 0 then (match recF (ns[0]?.getD 0) (-1) (ms.drop 1) with | none => (8, none) | some es => readH (ns[0]?.getD 0) es t2) else (8, none) := by
  rw [readF, if_neg h, if_neg (fun q => q k), p]
  simp only [List.getElem?_cons_zero, List.getElem?_cons_succ, Option.getD_some, q0, q1]
  split
  · cases recF (ns[0]?.getD 0) (-1) (ms.drop 1) <;> rfl
  · rfl
end

/-- How far the edges have come. -/
def RP (n : Nat) (ms : List Nat) (kk : Nat) (z : Int) (es : List Edg) : Prop := recF n (-1) (ms.drop 1) = match recF n z (ms.drop kk) with | none => none | some r => some (es ++ r)
section
variable {n kk : Nat} {ms : List Nat} {z : Int} {es : List Edg}
theorem RP.start : RP n ms 1 (-1) [] := by
  rw [RP]
  cases recF n (-1) (ms.drop 1) <;> rfl
theorem drop3 (h : kk + 2 < ms.length) : ms.drop kk = ms[kk]?.getD 0 :: ms[kk + 1]?.getD 0 :: ms[kk + 2]?.getD 0 :: ms.drop (kk + 3) := by
  rw [get_eq (show kk < ms.length by omega), get_eq (show kk + 1 < ms.length by omega), get_eq h, List.drop_eq_getElem_cons (show kk < ms.length by omega), List.drop_eq_getElem_cons (show kk + 1 < ms.length by omega), List.drop_eq_getElem_cons h]
theorem RP.fail (h : RP n ms kk z es) (hk : kk + 2 < ms.length) (hb : ms[kk + 1]?.getD 0 ≤ ms[kk]?.getD 0 ∨ n ≤ ms[kk + 1]?.getD 0 ∨ ((ms[kk]?.getD 0 * n + ms[kk + 1]?.getD 0 : Nat) : Int) ≤ z ∨ Nat.log2 n < ms[kk + 2]?.getD 0 / 2) : recF n (-1) (ms.drop 1) = none := by
  rw [RP, drop3 hk, recF, if_pos hb] at h
  exact h
theorem RP.step (h : RP n ms kk z es) (hk : kk + 2 < ms.length) (hb : ¬ (ms[kk + 1]?.getD 0 ≤ ms[kk]?.getD 0 ∨ n ≤ ms[kk + 1]?.getD 0 ∨ ((ms[kk]?.getD 0 * n + ms[kk + 1]?.getD 0 : Nat) : Int) ≤ z ∨ Nat.log2 n < ms[kk + 2]?.getD 0 / 2)) :
    RP n ms (kk + 3) ((ms[kk]?.getD 0 * n + ms[kk + 1]?.getD 0 : Nat) : Int) (es ++ [(⟨((ms[kk]?.getD 0 : Nat) : Int), ((ms[kk + 1]?.getD 0 : Nat) : Int), ((ms[kk + 2]?.getD 0 / 2 : Nat) : Int), ms[kk + 2]?.getD 0 % 2 == 1⟩ : Edg)]) := by
  rw [RP, drop3 hk, recF, if_neg hb] at h
  rw [RP, h]
  cases recF n ((ms[kk]?.getD 0 * n + ms[kk + 1]?.getD 0 : Nat) : Int) (ms.drop (kk + 3)) <;> simp
theorem RP.end_ (h : RP n ms kk z es) (hk : ms.length ≤ kk) : recF n (-1) (ms.drop 1) = some es := by
  rw [RP, List.drop_eq_nil_of_le hk, recF] at h
  rw [h]; simp
end

/-- What Read answers. -/
def ReadX (s : ByteArray) (w : World) (e : Ending) (w' : World) : Prop := ∃ (p : Option Addr), e = .returned (.tuple #[.pointer p, .int .i64 ((readF s).1 : Int)]) ∧ Below w.heap.size w w' ∧ ((readF s).2 = none → p = none) ∧ ∀ G, (readF s).2 = some G → ∃ g ev tb tcap F, p = some ⟨g, 0, none⟩ ∧ w.heap.size ≤ g ∧ w.heap.size ≤ tb ∧ (∀ k, ev.ownBlock = some k → w.heap.size ≤ k) ∧ GRep w' g G ev tb tcap F 0
theorem readX_no {s : ByteArray} {w w' : World} {n : Nat} (h : readF s = (n, none)) (b : Below w.heap.size w w') : ReadX s w (.returned (.tuple #[.pointer none, .int .i64 (n : Int)])) w' :=
  ⟨none, by rw [h], b, fun _ => rfl, fun G q => by rw [h] at q; simp at q⟩
theorem toursG_len {N : Nat} {es : List Edg} : ∀ (c i : Nat) {t : List Nat} {y : List (List (List Itm)) × List Nat}, toursG N es c i t = some y → y.1.length = c := by
  intro c
  induction c with
  | zero => intro i t y h; rw [toursG] at h; injection h with h; rw [← h]; rfl
  | succ c ih =>
    intro i t y h
    rw [toursG] at h
    cases d : lvlF N es i t with
    | none => rw [d] at h; simp at h
    | some x =>
      rw [d] at h
      simp only at h
      cases f : toursG N es c (i + 1) x.2 with
      | none => rw [f] at h; simp at h
      | some z =>
        rw [f] at h
        simp only at h
        injection h with h
        rw [← h]
        simp [ih (i + 1) f]
theorem toursF_len {N : Nat} {es : List Edg} {t : List Nat} {T : List (List (List Itm))} (h : toursF N es t = some T) : T.length = Nat.log2 N + 1 := by
  rw [toursF] at h
  cases d : toursG N es (Nat.log2 N + 1) 0 t with
  | none => rw [d] at h; simp at h
  | some x =>
    rw [d] at h
    simp only at h
    split at h
    · injection h with h
      rw [← h]; exact toursG_len _ _ d
    · simp at h
theorem grep_of {w : World} {g N : Nat} {es : List Edg} {ev : Value} {tb nt tcap : Nat} {pr : Int} {T : List (List (List Itm))} (hG : GW w g N es ev tb nt tcap pr) (hL : Laid w tb tcap T) (hl : T.length = nt) : ∃ F, GRep w g ⟨N, es, T⟩ ev tb tcap F pr := by
  obtain ⟨F, h1, h2⟩ := hL
  refine ⟨F, ?_, hG.ed, h1, by show T.length ≤ tcap; rw [hl]; exact hG.tl, hG.tm, fun i hi => h2 i hi⟩
  show w.rowIs g 45 4 (gf N ev tb T.length tcap pr)
  rw [hl]; exact hG.rg
theorem rd_lev {x : Nat} (h : x < 2 ^ 28) : IntKind.i64.wrap ((x : Int) / 2) = ((x / 2 : Nat) : Int) := by rw [IntKind.wrap_i64]; omega
theorem rd_tr (x : Nat) : ((x : Int).tmod 2 == 1) = (x % 2 == 1) := by
  rw [Int.tmod_eq_emod_of_nonneg (by omega), Bool.eq_iff_iff, beq_iff_eq, beq_iff_eq]
  omega
theorem magic_list {s : ByteArray} : ((!s.toList == [72, 68, 84, 49]) = false) ↔ s = ⟨#[72, 68, 84, 49]⟩ := by
  have e : (⟨#[72, 68, 84, 49]⟩ : ByteArray).toList = [72, 68, 84, 49] := by rw [ByteArray.toList_eq]
  rw [← toList_iff, e]
  simp

set_option maxRecDepth 100000 in
set_option maxHeartbeats 16000000 in
theorem Read_F (w : World) (s : ByteArray) (hs : s.size ≤ 2 ^ 40) : Calls Tryz.prog 28 #[.string s] w (ReadX s w) := by
  obtain ⟨i93, p0, p1, p2, p3⟩ := info_parts Tryz.info89
  go_enter Tryz.func28, Tryz.ntmps28
  by_cases c1 : (32768 : Int) < (s.size : Int)
  · have HF := hid (readF_5 (s := s) (by omega))
    go_wp2
    go_ret2
    exact readX_no HF.out (Below.refl _ _)
  · have HC1 : Hid (¬ 32768 < s.size) := by show ¬ _; omega
    by_cases c2 : (s.size : Int) < 4
    · have HF : Hid (readF s = (6, none)) := readF_6 HC1.out (fun q => by have := q.1; omega)
      go_wp2
      go_ret2
      exact readX_no HF.out (Below.refl _ _)
    · have c3 : (4 : Int) ≤ (s.size : Int) := by omega
      cases c4 : (!(s.extract 0 4).toList == [72, 68, 84, 49])
      · have HC2 : Hid (4 ≤ s.size ∧ s.extract 0 4 = ⟨#[72, 68, 84, 49]⟩) := ⟨by omega, magic_list.1 c4⟩
        have HSz : Hid ((s.extract 4 s.size).size ≤ 2 ^ 16) := by show _ ≤ _; rw [ByteArray.size_extract]; omega
        go_wp2_with fail
        refine (parts_F w (s.extract 4 s.size) (by have := HSz.out; omega)).mono ?_
        rintro e w1 ⟨v, rfl, hl, hb1⟩
        have HB1 := hid hb1
        clear hb1 c4
        cases hpf : partsF (s.extract 4 s.size) with
        | none =>
          have HF := hid (readF_7 HC1.out HC2.out hpf)
          clear hl hpf
          simp only [Option.isSome_none]
          go_wp2
          go_ret2
          exact readX_no HF.out HB1.out
        | some l =>
          obtain ⟨hl, hl3⟩ := hl l hpf
          obtain ⟨t0, t1, t2, hl4⟩ : ∃ a b c, l = [a, b, c] := by
            match l, hl3 with
            | [a, b, c], _ => exact ⟨a, b, c, rfl⟩
          subst hl4
          have HPf := hid hpf
          obtain ⟨lg, lc, hlv, hlg, hlc, hlm, ⟨d0, d1, d2⟩, z0, z1, z2⟩ := hl.at3
          subst hlv
          clear hpf
          simp only [Option.isSome_some]
          unfold maxLen at hlm
          have HZ0 : Hid (t0.size ≤ 2 ^ 16) := Nat.le_trans z0 HSz.out
          have HZ1 : Hid (t1.size ≤ 2 ^ 16) := Nat.le_trans z1 HSz.out
          have HZ2 : Hid (t2.size ≤ 2 ^ 16) := Nat.le_trans z2 HSz.out
          have HD := hid (And.intro d0 (And.intro d1 d2))
          clear hl hl3 z0 z1 z2 d1 d2
          go_wp2_with fail
          refine (numbers_Y w1 t0 (by have := HZ0.out; omega)).mono ?_
          rintro e w2 ⟨v0, ok0, rfl, h0, hb2⟩
          have HB2 : Hid (Below w1.heap.size w1 w2) := hb2
          have d1 : w2.cell? ⟨lg, 1, none⟩ = some (.string t1) := (hb2.cell (p := ⟨lg, 1, none⟩) hlg).trans HD.out.2.1
          have HR0 := hid h0
          have hs2 := hb2.size
          clear h0 hb2 d0
          go_wp2_with fail
          refine (numbers_Y w2 t1 (by have := HZ1.out; omega)).mono ?_
          rintro e w3 ⟨v1, ok1, rfl, h1, hb3⟩
          have HB3 : Hid (Below w1.heap.size w1 w3) := HB2.out.trans (hb3.mono hs2)
          have HBw3 : Hid (Below w.heap.size w w3) := HB1.out.trans (HB3.out.mono HB1.out.size)
          cases ok0
          · have hv0 : v0 = .slice none 0 0 ∧ numbersF t0 = none := by
              rcases HR0.out with q | q
              · exact q.2
              · exact absurd q.1 (by simp)
            have HF := hid (readF_8a HC1.out HC2.out HPf.out hv0.2)
            replace hv0 := hv0.1
            subst hv0
            clear h1 hb3 d1
            go_wp2
            go_ret2
            exact readX_no HF.out HBw3.out
          · cases ok1
            · have HF : Hid (readF s = (8, none)) := by
                rcases h1 with q | q
                · exact readF_8b HC1.out HC2.out HPf.out q.2.2
                · exact absurd q.1 (by simp)
              clear h1 hb3 d1
              go_wp2
              go_ret2
              exact readX_no HF.out HBw3.out
            · obtain ⟨ns, hn0, _, hnf⟩ : ∃ l, NumsAt w2 w1.heap.size v0 l ∧ l.length ≤ t0.size ∧ numbersF t0 = some l := by
                rcases HR0.out with q | q
                · exact absurd q.1 (by simp)
                · exact q.2
              obtain ⟨ms, hm0, hml, hmf⟩ : ∃ l, NumsAt w3 w2.heap.size v1 l ∧ l.length ≤ t1.size ∧ numbersF t1 = some l := by
                rcases h1 with q | q
                · exact absurd q.1 (by simp)
                · exact q.2
              have HRf := hid (readF_n HC1.out HC2.out HPf.out hnf hmf)
              clear hnf hmf
              have hml2 : ms.length ≤ 2 ^ 16 := Nat.le_trans hml HZ1.out
              have hn1 := hn0.below hb3 (Nat.le_refl _)
              have HMb := hid hm0.2
              have HNb := hid hn1.2
              obtain ⟨np, nc, hnv, hnc⟩ := nums_form hn1
              obtain ⟨mp, mc, hmv, hmc⟩ := nums_form hm0
              subst hnv hmv
              have HNc := hid hnc
              have HMc := hid hmc
              clear hn0 hm0 hn1 hnc hmc h1 hb3 d1 hml HR0
              obtain ⟨x0, hx0⟩ : ∃ x0, x0 = ns[0]?.getD 0 := ⟨_, rfl⟩
              obtain ⟨y0, hy0⟩ : ∃ y0, y0 = ms[0]?.getD 0 := ⟨_, rfl⟩
              have HX0 := hid hx0
              have HY0 := hid hy0
              rw [← hx0, ← hy0] at HRf
              clear hx0 hy0
              have HNs : Hid (0 < ns.length → ∃ ng, np = some ⟨ng, 0, none⟩ ∧ ns.length ≤ nc ∧ nc ≤ maxLen ∧ w3.cell? ⟨ng, 0, none⟩ = some (.int .i64 (x0 : Int)) ∧ x0 < 2 ^ 28) := fun q => by
                obtain ⟨ng, e1, e2, e3, _, e4⟩ := HNc.out q
                exact ⟨ng, e1, e2, e3, by rw [HX0.out]; exact e4 0 q, by rw [HX0.out]; exact HNb.out _ (by rw [get_eq q]; exact List.getElem_mem _)⟩
              have HMs : Hid (0 < ms.length → ∃ mg, mp = some ⟨mg, 0, none⟩ ∧ ms.length ≤ mc ∧ mc ≤ maxLen ∧ mg < w3.heap.size ∧ w3.cell? ⟨mg, 0, none⟩ = some (.int .i64 (y0 : Int)) ∧ y0 < 2 ^ 28 ∧ ∀ j, j < ms.length → w3.cell? ⟨mg, j, none⟩ = some (.int .i64 ((ms[j]?.getD 0 : Nat) : Int))) := fun q => by
                obtain ⟨mg, e1, e2, e3, e5, e4⟩ := HMc.out q
                exact ⟨mg, e1, e2, e3, e5, by rw [HY0.out]; exact e4 0 q, by rw [HY0.out]; exact HMb.out _ (by rw [get_eq q]; exact List.getElem_mem _), e4⟩
              clear HNc HMc
              go_upto_region 10 with fail
              go_cut [85] from 15 (fun x wx => ∃ bd : Bool, x = .bool bd ∧ (bd = false → ns.length = 1 ∧ 1 ≤ x0 ∧ x0 ≤ 48 ∧ 0 < ms.length ∧ ms.length = 1 + 3 * y0) ∧ Hid (bd = true → readF s = (8, none)) ∧ wx = w3)
              case first =>
                by_cases k1 : (ns.length : Int) = 1
                · have k1' : ((ns.length : Int) != 1) = false := by simpa using k1
                  have HK1 : Hid (ns.length = 1) := by show _ = _; omega
                  have ln1 : 0 < ns.length := by omega
                  obtain ⟨ng, hnp, n1, n2, e0, eb⟩ := HNs.out ln1
                  subst hnp
                  unfold maxLen at n2
                  clear k1
                  by_cases k2 : (x0 : Int) < 1
                  · have HF : Hid (readF s = (8, none)) := by show _ = _; rw [HRf.out, if_neg (fun q => by have := q.2.1; omega)]
                    clear HRf
                    go_wp2
                    go_meet
                    case rel => exact ⟨true, rfl, fun q => by simp at q, fun _ => HF.out, rfl⟩
                  · by_cases k3 : (48 : Int) < (x0 : Int)
                    · have HF : Hid (readF s = (8, none)) := by show _ = _; rw [HRf.out, if_neg (fun q => by have := q.2.2.1; omega)]
                      clear HRf
                      go_wp2
                      go_meet
                      case rel => exact ⟨true, rfl, fun q => by simp at q, fun _ => HF.out, rfl⟩
                    · by_cases k4 : (ms.length : Int) = 0
                      · have k4' : ((ms.length : Int) == 0) = true := by simpa using k4
                        have HF : Hid (readF s = (8, none)) := by show _ = _; rw [HRf.out, if_neg (fun q => by have := q.2.2.2.1; omega)]
                        clear k4 HRf
                        go_wp2
                        go_meet
                        case rel => exact ⟨true, rfl, fun q => by simp at q, fun _ => HF.out, rfl⟩
                      · have k4' : ((ms.length : Int) == 0) = false := by simpa using k4
                        have lm1 : 0 < ms.length := by omega
                        obtain ⟨mg, hmp, m1, m2, m3, f0, fb, _⟩ := HMs.out lm1
                        subst hmp
                        unfold maxLen at m2
                        clear k4
                        by_cases k5 : (ms.length : Int) = 1 + 3 * (y0 : Int)
                        · have k5' : ((ms.length : Int) != 1 + 3 * (y0 : Int)) = false := by simpa using k5
                          have HK5 : Hid (ms.length = 1 + 3 * y0) := by show _ = _; omega
                          clear k5
                          go_wp2
                          go_meet
                          case rel => exact ⟨false, rfl, fun _ => ⟨HK1.out, by omega, by omega, lm1, HK5.out⟩, fun q => by simp at q, rfl⟩
                        · have k5' : ((ms.length : Int) != 1 + 3 * (y0 : Int)) = true := by simpa using k5
                          have HF : Hid (readF s = (8, none)) := by show _ = _; rw [HRf.out, if_neg (fun q => by have := q.2.2.2.2; omega)]
                          clear k5 HRf
                          go_wp2
                          go_meet
                          case rel => exact ⟨true, rfl, fun q => by simp at q, fun _ => HF.out, rfl⟩
                · have k1' : ((ns.length : Int) != 1) = true := by simpa using k1
                  have HF : Hid (readF s = (8, none)) := by show _ = _; rw [HRf.out, if_neg (fun q => by have := q.1; omega)]
                  clear k1 HRf
                  go_wp2
                  go_meet
                  case rel => exact ⟨true, rfl, fun q => by simp at q, fun _ => HF.out, rfl⟩
              case rest =>
                obtain ⟨bd, rfl, hbd, HBd8, hw⟩ := hcut
                replace hw := hw.symm
                subst hw
                cases bd
                · obtain ⟨z1, z2, z3, z4, z5⟩ := hbd rfl
                  have HRh : Hid (readF s = match recF x0 (-1) (ms.drop 1) with | none => (8, none) | some es => readH x0 es t2) := by show _ = _; rw [HRf.out, if_pos ⟨z1, z2, z3, z4, z5⟩]
                  clear HRf HBd8
                  have ln1 : 0 < ns.length := by omega
                  obtain ⟨ng, hnp, n1, n2, e0, eb⟩ := HNs.out ln1
                  obtain ⟨mg, hmp, m1, m2, m3, f0, fb, m4⟩ := HMs.out z4
                  subst hnp hmp
                  unfold maxLen at n2 m2
                  have K5 : Hid ((ms.length : Int) = 1 + 3 * (y0 : Int)) := by show _ = _; omega
                  have HM4 := hid m4
                  clear z1 z5 m4 hbd
                  go_wp2_with fail
                  refine (New_any w3 x0 (by omega) (by omega)).mono ?_
                  rintro e w4 ⟨g, tb, tcap, F, rfl, hg1, hg2, hG, hb4⟩
                  obtain ⟨nt, hnt⟩ : ∃ nt, nt = (newG x0).tours.length := ⟨_, rfl⟩
                  have HG4 : Hid (GW w4 g x0 [] (.slice none 0 0) tb nt tcap 0) := by
                    have := hG.weak (newG_ok (n := x0) (by omega) (by omega)).1
                    rw [hnt]; exact this
                  have HNt : Hid (nt = Nat.log2 x0 + 1) := by show _ = _; rw [hnt]; simp [newG]
                  have HB4 : Hid (Below w3.heap.size w3 w4) := hb4
                  have HMw : Hid (∀ w', Below w3.heap.size w3 w' → ∀ j, j < ms.length → w'.cell? ⟨mg, j, none⟩ = some (.int .i64 ((ms[j]?.getD 0 : Nat) : Int))) := fun w' hb j hj => by rw [hb.cell (p := ⟨mg, j, none⟩) m3]; exact HM4.out j hj
                  have HDw : Hid (∀ w', Below w3.heap.size w3 w' → w'.cell? ⟨lg, 2, none⟩ = some (.string t2)) := fun w' hb => by
                    have hs3 := HB3.out.size
                    rw [hb.cell (p := ⟨lg, 2, none⟩) (by show lg < _; omega), HB3.out.cell (p := ⟨lg, 2, none⟩) hlg]; exact HD.out.2.2
                  clear hG hb4 hnt e0 f0
                  go_wp2_with fail
                  go_loopw [11, 12] (fun a c wr => ∃ (z : Int) (kk : Nat) (es : List Edg) (ev : Value), a = .int .i64 z ∧ c = .int .i64 kk ∧ kk ≤ ms.length ∧ Hid (∃ j, kk = 1 + 3 * j ∧ es.length ≤ j) ∧ Hid (RP x0 ms kk z es) ∧ -1 ≤ z ∧ z < 2 ^ 40 ∧ Hid (∀ e, e ∈ es → 0 ≤ e.lev) ∧ Hid (GW wr g x0 es ev tb nt tcap 0) ∧ Hid (wr.ownsRow w3.heap.size 89 4 ev es.length (eCells es)) ∧ Hid (Below w3.heap.size w3 wr)) (fun _ c _ => ms.length - (intOf c).toNat)
                  case atStart => exact ⟨-1, 1, [], .slice none 0 0, rfl, rfl, by omega, ⟨0, rfl, by simp⟩, RP.start, by omega, by omega, fun e he => by simp at he, HG4, World.ownsRow_nil _ _ _ _, HB4⟩
                  case round =>
                    clear HG4 HB4
                    obtain ⟨z, kk, es, ev, rfl, rfl, hkk, hJ, HRP, hz1, hz2, HLv, hG, hEo, hB⟩ := hrel
                    have hBs := hB.out.size
                    by_cases ck : kk < ms.length
                    · have ck' : (kk : Int) < (ms.length : Int) := by omega
                      have hk2 : kk + 2 < ms.length := by
                        obtain ⟨j, hj, _⟩ := hJ.out
                        have := K5.out
                        omega
                      have a0 := HMw.out wr hB.out kk ck
                      have a1 := HMw.out wr hB.out (kk + 1) (by omega)
                      have a2 := HMw.out wr hB.out (kk + 2) hk2
                      have b0 := HMb.out (ms[kk]?.getD 0) (by rw [get_eq ck]; exact List.getElem_mem _)
                      have b1 := HMb.out (ms[kk + 1]?.getD 0) (by rw [get_eq (show kk + 1 < ms.length by omega)]; exact List.getElem_mem _)
                      have b2 := HMb.out (ms[kk + 2]?.getD 0) (by rw [get_eq hk2]; exact List.getElem_mem _)
                      have HRf1 : Hid ((ms[kk + 1]?.getD 0 ≤ ms[kk]?.getD 0 ∨ x0 ≤ ms[kk + 1]?.getD 0 ∨ ((ms[kk]?.getD 0 * x0 + ms[kk + 1]?.getD 0 : Nat) : Int) ≤ z ∨ Nat.log2 x0 < ms[kk + 2]?.getD 0 / 2) → readF s = (8, none)) := fun q => by rw [HRh.out, HRP.out.fail hk2 q]
                      have HRs1 : Hid (¬ (ms[kk + 1]?.getD 0 ≤ ms[kk]?.getD 0 ∨ x0 ≤ ms[kk + 1]?.getD 0 ∨ ((ms[kk]?.getD 0 * x0 + ms[kk + 1]?.getD 0 : Nat) : Int) ≤ z ∨ Nat.log2 x0 < ms[kk + 2]?.getD 0 / 2) → RP x0 ms (kk + 3) ((ms[kk]?.getD 0 * x0 + ms[kk + 1]?.getD 0 : Nat) : Int) (es ++ [(⟨((ms[kk]?.getD 0 : Nat) : Int), ((ms[kk + 1]?.getD 0 : Nat) : Int), ((ms[kk + 2]?.getD 0 / 2 : Nat) : Int), ms[kk + 2]?.getD 0 % 2 == 1⟩ : Edg)])) := fun q => HRP.out.step hk2 q
                      clear HRP
                      generalize ms[kk]?.getD 0 = xu at a0 b0 HRf1 HRs1
                      generalize ms[kk + 1]?.getD 0 = xv at a1 b1 HRf1 HRs1
                      generalize ms[kk + 2]?.getD 0 = xl at a2 b2 HRf1 HRs1
                      obtain ⟨yl, hyl⟩ : ∃ y : Nat, y = xl / 2 := ⟨_, rfl⟩
                      obtain ⟨yt, hyt⟩ : ∃ y : Bool, y = (xl % 2 == 1) := ⟨_, rfl⟩
                      rw [← hyl] at HRf1 HRs1
                      rw [← hyt] at HRs1
                      have HYl := hid (And.intro hyl hyt)
                      have hyb : yl < 2 ^ 28 := by omega
                      have HXl : Hid (xl < 2 ^ 28) := b2
                      clear hyl hyt
                      have i1 : (kk : Int) + 1 < (ms.length : Int) := by omega
                      have i2 : (kk : Int) + 2 < (ms.length : Int) := by omega
                      have j1 : ((kk : Int) + 1).toNat = kk + 1 := by omega
                      have j2 : ((kk : Int) + 2).toNat = kk + 2 := by omega
                      have l1 : (0 : Int) ≤ (kk : Int) + 1 := by omega
                      have l2 : (0 : Int) ≤ (kk : Int) + 2 := by omega
                      obtain ⟨wo, hwo⟩ : ∃ wo : World, wo = wr := ⟨_, rfl⟩
                      rw [← hwo] at hG hB hBs hEo a0 a1 a2 ⊢
                      clear hwo wr
                      have hmgo : mg < wo.heap.size := by omega
                      have A0 : ∀ o, (wo.alloc o).cell? ⟨mg, kk, none⟩ = some (.int .i64 xu) := fun o => by rw [((Below.refl wo.heap.size wo).alloc (Nat.le_refl _) o).cell (p := ⟨mg, kk, none⟩) hmgo]; exact a0
                      have A1 : ∀ o, (wo.alloc o).cell? ⟨mg, kk + 1, none⟩ = some (.int .i64 xv) := fun o => by rw [((Below.refl wo.heap.size wo).alloc (Nat.le_refl _) o).cell (p := ⟨mg, kk + 1, none⟩) hmgo]; exact a1
                      have A2 : ∀ o, (wo.alloc o).cell? ⟨mg, kk + 2, none⟩ = some (.int .i64 xl) := fun o => by rw [((Below.refl wo.heap.size wo).alloc (Nat.le_refl _) o).cell (p := ⟨mg, kk + 2, none⟩) hmgo]; exact a2
                      have W1 : IntKind.i64.wrap ((kk : Int) + 1) = (kk : Int) + 1 := by rw [IntKind.wrap_i64]; omega
                      have W2 : IntKind.i64.wrap ((kk : Int) + 2) = (kk : Int) + 2 := by rw [IntKind.wrap_i64]; omega
                      have HJ1 : Hid (∃ j, kk + 3 = 1 + 3 * j ∧ es.length + 1 ≤ j) := by
                        obtain ⟨j, hj, hl⟩ := hJ.out
                        exact ⟨j + 1, by omega, by omega⟩
                      have hesl : es.length ≤ 100000 := by
                        obtain ⟨j, hj, hl⟩ := hJ.out
                        omega
                      have HWo : Hid (w3.heap.size ≤ wo.heap.size) := hBs
                      go_wp2_with fail
                      go_cut [13] from 96 to 118 (fun x wx => ∃ (eb : Nat), x = ptr eb ∧ w3.heap.size ≤ eb ∧ eb < wx.heap.size ∧ Hid (∀ j, wx.cell? ⟨eb, j, none⟩ = #[Value.int .i64 xu, .int .i64 xv, .int .i64 yl, .bool yt][j]?) ∧ Hid (Below wo.heap.size wo wx))
                      case first =>
                        rename_i hmet
                        revert hmet
                        go_light
                        intro hmet
                        go_region_held (fun w' => w'.cell? ⟨mg, kk, none⟩ = some (.int .i64 xu) ∧ w'.cell? ⟨mg, kk + 1, none⟩ = some (.int .i64 xv) ∧ w'.cell? ⟨mg, kk + 2, none⟩ = some (.int .i64 xl)) (first | exact ⟨a0, a1, a2⟩ | exact ⟨A0 _, A1 _, A2 _⟩ | exact ⟨by assumption, by assumption, by assumption⟩) (fail)
                        all_goals
                          go_wp2
                          go_meet
                          case rel =>
                            refine ⟨wo.heap.size, rfl, HWo.out, by show _ < (wo.alloc _).heap.size; simp, fun j => ?_, ((Below.refl _ _).alloc (Nat.le_refl _) _).drew⟩
                            refine (new_cell wo _ _ j).trans ?_
                            rw [HYl.out.1, HYl.out.2]
                            rw [rd_lev HXl.out, rd_tr]
                      case rest =>
                      obtain ⟨eb, rfl, hebg, hebl, HC, HB8⟩ := hcut
                      obtain ⟨w8, hw8⟩ : ∃ w8 : World, w8 = wc := ⟨_, rfl⟩
                      rw [← hw8] at HC HB8 hebl ⊢
                      clear hw8 wc
                      have HG8 := hid (hG.out.below HB8.out)
                      have HO8 := hid (owns_below hEo.out HB8.out (Nat.le_refl _))
                      have HB38 : Hid (Below w3.heap.size w3 w8) := hB.out.trans (HB8.out.mono hBs)
                      have hBs8 := HB38.out.size
                      clear A0 A1 A2 W1 W2 a0 a1 a2 b2 i1 i2 j1 j2 l1 l2 hG hEo hmgo
                      have d0 := HG8.out.c0
                      have z0 := HC.out 0
                      have z1 := HC.out 1
                      have z2 := HC.out 2
                      have z3 := HC.out 3
                      simp only [List.getElem?_toArray, List.getElem?_cons_zero, List.getElem?_cons_succ] at z0 z1 z2 z3
                      go_wp2_with fail
                      go_cut [156] from 90 to 156 (fun x wx => ∃ bd : Bool, x = .bool bd ∧ Hid (bd = true ↔ (xv ≤ xu ∨ x0 ≤ xv ∨ ((xu * x0 + xv : Nat) : Int) ≤ z ∨ Nat.log2 x0 < yl)) ∧ Hid (Below w8.heap.size w8 wx))
                      case first =>
                        rename_i hmet
                        revert hmet
                        go_light
                        intro hmet
                        by_cases e1 : xv ≤ xu
                        · have HD1 : Hid (xv ≤ xu ∨ x0 ≤ xv ∨ ((xu * x0 + xv : Nat) : Int) ≤ z ∨ Nat.log2 x0 < yl) := Or.inl e1
                          have e1a : decide (xv ≤ xu) = true := by simpa using e1
                          have e1b : decide ((xv : Int) ≤ (xu : Int)) = true := by simpa using e1
                          go_quiet (fail)
                          go_wp2
                          go_meet
                          case rel => exact ⟨true, rfl, ⟨fun _ => HD1.out, fun _ => rfl⟩, Below.drewN' _ (Below.refl _ _)⟩
                        · have e1a : decide (xv ≤ xu) = false := by simpa using e1
                          have e1b : decide ((xv : Int) ≤ (xu : Int)) = false := by simpa using e1
                          by_cases e2 : x0 ≤ xv
                          · have HD1 : Hid (xv ≤ xu ∨ x0 ≤ xv ∨ ((xu * x0 + xv : Nat) : Int) ≤ z ∨ Nat.log2 x0 < yl) := Or.inr (Or.inl e2)
                            have e2a : decide (x0 ≤ xv) = true := by simpa using e2
                            have e2b : decide ((x0 : Int) ≤ (xv : Int)) = true := by simpa using e2
                            go_quiet (fail)
                            go_wp2
                            go_meet
                            case rel => exact ⟨true, rfl, ⟨fun _ => HD1.out, fun _ => rfl⟩, Below.drewN' _ (Below.refl _ _)⟩
                          · have e2a : decide (x0 ≤ xv) = false := by simpa using e2
                            have e2b : decide ((x0 : Int) ≤ (xv : Int)) = false := by simpa using e2
                            have HE : Hid (xu < xv ∧ xv < x0) := by show _ ∧ _; omega
                            have mb : (xu : Int) * (x0 : Int) < 2 ^ 40 := by
                              have q1 : xu * x0 ≤ 48 * 48 := Nat.mul_le_mul (by omega) (by omega)
                              have q2 : ((xu * x0 : Nat) : Int) ≤ 48 * 48 := by omega
                              rw [Int.natCast_mul] at q2
                              omega
                            have mb0 : (0 : Int) ≤ (xu : Int) * (x0 : Int) := by
                              have q2 : (0 : Int) ≤ ((xu * x0 : Nat) : Int) := by omega
                              rw [Int.natCast_mul] at q2
                              exact q2
                            by_cases e3 : (xu : Int) * (x0 : Int) + (xv : Int) ≤ z
                            · have HD1 : Hid (xv ≤ xu ∨ x0 ≤ xv ∨ ((xu * x0 + xv : Nat) : Int) ≤ z ∨ Nat.log2 x0 < yl) := Or.inr (Or.inr (Or.inl (by rw [Int.natCast_add, Int.natCast_mul]; exact e3)))
                              have e3b : decide ((xu : Int) * (x0 : Int) + (xv : Int) ≤ z) = true := by simpa using e3
                              go_quiet (fail)
                              go_wp2
                              go_meet
                              case rel => exact ⟨true, rfl, ⟨fun _ => HD1.out, fun _ => rfl⟩, Below.drewN' _ (Below.refl _ _)⟩
                            · have e3b : decide ((xu : Int) * (x0 : Int) + (xv : Int) ≤ z) = false := by simpa using e3
                              have HE3 : Hid (¬ ((xu * x0 + xv : Nat) : Int) ≤ z) := by show ¬ _; rw [Int.natCast_add, Int.natCast_mul]; exact e3
                              by_cases e4 : Nat.log2 x0 < yl
                              · have HD1 : Hid (xv ≤ xu ∨ x0 ≤ xv ∨ ((xu * x0 + xv : Nat) : Int) ≤ z ∨ Nat.log2 x0 < yl) := Or.inr (Or.inr (Or.inr e4))
                                have e4b : decide (((Nat.log2 x0 : Nat) : Int) < (yl : Int)) = true := by simpa using e4
                                go_quiet (first | (go_at_call 56; refine Calls.quiet_of_same (Top_any _ x0 (by omega) (by omega))))
                                go_wp2
                                go_meet
                                case rel => exact ⟨true, rfl, ⟨fun _ => HD1.out, fun _ => rfl⟩, Below.drewN' _ (Below.refl _ _)⟩
                              · have HD1 : Hid (¬ (xv ≤ xu ∨ x0 ≤ xv ∨ ((xu * x0 + xv : Nat) : Int) ≤ z ∨ Nat.log2 x0 < yl)) := fun q => by
                                  rcases q with q | q | q | q
                                  · exact e1 q
                                  · exact e2 q
                                  · exact HE3.out q
                                  · exact e4 q
                                have e4b : decide (((Nat.log2 x0 : Nat) : Int) < (yl : Int)) = false := by simpa using e4
                                go_quiet (first | (go_at_call 56; refine Calls.quiet_of_same (Top_any _ x0 (by omega) (by omega))))
                                go_wp2
                                go_meet
                                case rel => exact ⟨false, rfl, ⟨fun q => by simp at q, fun q => absurd q HD1.out⟩, Below.drewN' _ (Below.refl _ _)⟩
                      case rest =>
                        obtain ⟨bd, rfl, hbd, hB9⟩ := hcut
                        have HB39 : Hid (Below w3.heap.size w3 wc) := HB38.out.trans (hB9.out.mono hBs8)
                        have HBw9 : Hid (Below w.heap.size w wc) := HBw3.out.trans (HB39.out.mono HBw3.out.size)
                        cases bd
                        · have HNo : Hid (¬ (xv ≤ xu ∨ x0 ≤ xv ∨ ((xu * x0 + xv : Nat) : Int) ≤ z ∨ Nat.log2 x0 < yl)) := fun q => by have := hbd.out.2 q; simp at this
                          have HE : Hid (xu < xv ∧ xv < x0) := by have := HNo.out; show _ ∧ _; constructor <;> (apply Classical.byContradiction; intro q; exact this (by first | exact Or.inl (by omega) | exact Or.inr (Or.inl (by omega))))
                          have HRs2 := hid (HRs1.out HNo.out)
                          clear HNo HRf1 HRs1
                          have HG9 := hid (HG8.out.below hB9.out)
                          have HO9 := hid (owns_below HO8.out hB9.out (Nat.le_refl _))
                          have y0 : wc.cell? ⟨eb, 0, none⟩ = some (.int .i64 xu) := (hB9.out.cell (p := ⟨eb, 0, none⟩) hebl).trans (HC.out 0)
                          have y1 : wc.cell? ⟨eb, 1, none⟩ = some (.int .i64 xv) := (hB9.out.cell (p := ⟨eb, 1, none⟩) hebl).trans (HC.out 1)
                          have y2 : wc.cell? ⟨eb, 2, none⟩ = some (.int .i64 yl) := (hB9.out.cell (p := ⟨eb, 2, none⟩) hebl).trans (HC.out 2)
                          have y3 : wc.cell? ⟨eb, 3, none⟩ = some (.bool yt) := (hB9.out.cell (p := ⟨eb, 3, none⟩) hebl).trans (HC.out 3)
                          have f0 := HG9.out.c0
                          clear hbd z0 z1 z2 z3 d0 HG8 HO8
                          obtain ⟨w9, hw9⟩ : ∃ w9 : World, w9 = wc := ⟨_, rfl⟩
                          rw [← hw9] at hB9 HB39 HBw9 HG9 HO9 y0 y1 y2 y3 f0 ⊢
                          clear hw9 wc
                          have mb : (xu : Int) * (x0 : Int) < 2 ^ 40 := by
                            have q1 : xu * x0 ≤ 48 * 48 := Nat.mul_le_mul (by have := HE.out; omega) (by omega)
                            have q2 : ((xu * x0 : Nat) : Int) ≤ 48 * 48 := by omega
                            rw [Int.natCast_mul] at q2
                            omega
                          have mb0 : (0 : Int) ≤ (xu : Int) * (x0 : Int) := by
                            have q2 : (0 : Int) ≤ ((xu * x0 : Nat) : Int) := by omega
                            rw [Int.natCast_mul] at q2
                            exact q2
                          go_wp2_with fail
                          go_cut [11] from 157 to 166 (fun x wx => x = .int .i64 ((xu * x0 + xv : Nat) : Int) ∧ Hid (Below w9.heap.size w9 wx))
                          case first =>
                            rename_i hmet
                            revert hmet
                            go_light
                            intro hmet
                            go_quiet (fail)
                            go_wp2
                            go_meet
                            case rel => exact ⟨by rw [Int.natCast_add, Int.natCast_mul], Below.drewN' _ (Below.refl _ _)⟩
                          case rest =>
                            obtain ⟨rfl, hB10⟩ := hcut
                            have HZb : Hid (((xu * x0 + xv : Nat) : Int) < 2 ^ 40 ∧ -1 ≤ ((xu * x0 + xv : Nat) : Int)) := by
                              have q1 : xu * x0 ≤ 48 * 48 := Nat.mul_le_mul (by have := HE.out; omega) (by omega)
                              have q2 := HE.out
                              constructor <;> omega
                            have HLv2 : Hid (∀ e, e ∈ es ++ [(⟨xu, xv, yl, yt⟩ : Edg)] → 0 ≤ e.lev) := fun e he => by
                              rcases List.mem_append.1 he with q | q
                              · exact HLv.out e q
                              · simp at q; rw [q]; show (0 : Int) ≤ (yl : Int); omega
                            have HG10 := hid (HG9.out.below hB10.out)
                            have HO10 := hid (owns_below HO9.out hB10.out (Nat.le_refl _))
                            have HB10 : Hid (Below w3.heap.size w3 wc) := HB39.out.trans (hB10.out.mono HB39.out.size)
                            have hs10 := HB10.out.size
                            have heb9 : eb < w9.heap.size := Nat.lt_of_lt_of_le hebl hB9.out.size
                            have x0c : wc.cell? ⟨eb, 0, none⟩ = some (.int .i64 xu) := (hB10.out.cell (p := ⟨eb, 0, none⟩) heb9).trans y0
                            have x1c : wc.cell? ⟨eb, 1, none⟩ = some (.int .i64 xv) := (hB10.out.cell (p := ⟨eb, 1, none⟩) heb9).trans y1
                            have x2c : wc.cell? ⟨eb, 2, none⟩ = some (.int .i64 yl) := (hB10.out.cell (p := ⟨eb, 2, none⟩) heb9).trans y2
                            have x3c : wc.cell? ⟨eb, 3, none⟩ = some (.bool yt) := (hB10.out.cell (p := ⟨eb, 3, none⟩) heb9).trans y3
                            have g1 := HG10.out.c1
                            have G1 := fun o => (HG10.out.below ((Below.refl _ _).alloc (Nat.le_refl _) o)).c1
                            have HBx : Hid (∀ o, Below wc.heap.size wc (wc.alloc o).drew) := fun o => ((Below.refl _ _).alloc (Nat.le_refl _) o).drew
                            have HS : Hid (∀ o, w3.heap.size ≤ (wc.alloc o).drew.heap.size) := fun o => Nat.le_trans hs10 (HBx.out o).size
                            have HM : Hid (es.length + 1 ≤ maxLen) := by show _ ≤ _; unfold maxLen; omega
                            have HEr : Hid ((0 ≤ (xu : Int) ∧ (xu : Int) < x0) ∧ (0 ≤ (xv : Int) ∧ (xv : Int) < x0)) := by have := HE.out; show _ ∧ _; omega
                            have HDn : Hid (∀ wx w11 v', Below wc.heap.size wc wx → w11.ownsRow w3.heap.size 89 4 v' (es.length + 1) (eCells es ++ eCells [(⟨xu, xv, yl, yt⟩ : Edg)]) → wx.grownBy w11 ev.ownBlock → (GW (w11.setCell ⟨g, 1, none⟩ v') g x0 (es ++ [(⟨xu, xv, yl, yt⟩ : Edg)]) v' tb nt tcap 0 ∧ (w11.setCell ⟨g, 1, none⟩ v').ownsRow w3.heap.size 89 4 v' (es ++ [(⟨xu, xv, yl, yt⟩ : Edg)]).length (eCells (es ++ [(⟨xu, xv, yl, yt⟩ : Edg)]))) ∧ Below w3.heap.size w3 (w11.setCell ⟨g, 1, none⟩ v') ∧ w11.rowIs g 45 4 (gf x0 ev tb nt tcap 0)) := by
                              intro wx w11 v' hbx ho hg
                              have bt := (butR hbx hg).wide (S' := fun k => ev.ownBlock = some k) (fun _ _ q => q.symm)
                              refine ⟨HG10.out.app bt ho HEr.out, ?_, row_but HG10.out.rg bt (fun q => HG10.out.ed.notIn (rowIs_ty HG10.out.rg) (by decide) g q rfl)⟩
                              exact HB10.out.trans ((bt.below (fun k hk => (HO10.out.lt k hk).1) hs10).setCell (show w3.heap.size ≤ g by omega) v')
                            clear y0 y1 y2 y3 f0 hB9 HB39 HG9 HO9 hB10
                            go_wp2_with fail
                            go_region_law (first
                              | (refine step_append_mine rfl (.tmp 171) (.tmp 173) 42 rfl w3.heap.size 89 i93 _ 4 32 Tryz.underlying42 p0 p1 p2 p3 rfl (by decide) ev es.length (eCells es) (by simp [Act.eval, Act.put]) (HO10.out.alloc _).drew ⟨wc.heap.size, 0, none⟩ 1 1 (eCells [(⟨xu, xv, yl, yt⟩ : Edg)]) (by simp [Act.eval, Act.put]) rfl (edge_drew wc _ _ _ _) (edges_one _) HM.out (by omega) (HS.out _) ?_; intro v' w11 ho hg; have HO := hid ho; have HR := hid (HDn.out _ w11 v' (HBx.out _) ho hg); have c1 := HR.out.2.2.cell (i := 1) (by omega); have fz := HR.out.2.2.frozen; clear ho hg; obtain ⟨p2, n2, cc2, hv2⟩ := owns_form HO.out; subst hv2))
                            all_goals
                              go_wp2
                              exact ⟨⟨((xu * x0 + xv : Nat) : Int), kk + 3, es ++ [(⟨xu, xv, yl, yt⟩ : Edg)], _, rfl, by go_num, by omega, by rw [List.length_append]; exact HJ1, HRs2, HZb.out.2, HZb.out.1, HLv2, HR.out.1.1, HR.out.1.2, HR.out.2.1⟩, by simp [intOf]; omega⟩
                        · have HF := hid (HRf1.out (hbd.out.1 rfl))
                          clear hbd z0 z1 z2 z3 d0 HRf1 HRs1
                          go_wp2
                          go_ret2
                          exact readX_no HF.out HBw9.out
                    · have ck' : ¬ (kk : Int) < (ms.length : Int) := by omega
                      have dT := HDw.out wr hB.out
                      have HRe : Hid (readF s = readH x0 es t2) := by show _ = _; rw [HRh.out, HRP.out.end_ (by omega)]
                      have HEo := hid (fun k hk => (hEo.out.lt k hk).1)
                      clear HRP
                      have hesl : es.length ≤ 2 ^ 20 := by
                        obtain ⟨j, hj, hl⟩ := hJ.out
                        omega
                      have HEs := hid hesl
                      clear hesl
                      go_wp2_with fail
                      refine (numbers_Y wr t2 (by have := HZ2.out; omega)).mono ?_
                      rintro e w5 ⟨v2, ok2, rfl, h2, hb5⟩
                      have HB5 : Hid (Below w3.heap.size w3 w5) := hB.out.trans (hb5.mono hBs)
                      have HBw5 : Hid (Below w.heap.size w w5) := HBw3.out.trans (HB5.out.mono HBw3.out.size)
                      have HG5 := hid (hG.out.below hb5)
                      have HX2 := hid h2
                      clear hb5 dT h2
                      cases ok2
                      · have hv2 : v2 = .slice none 0 0 ∧ numbersF t2 = none := by
                          rcases HX2.out with q | q
                          · exact q.2
                          · exact absurd q.1 (by simp)
                        have HF : Hid (readF s = (9, none)) := by show _ = _; rw [HRe.out, readH, hv2.2]
                        replace hv2 := hv2.1
                        subst hv2
                        go_wp2
                        go_ret2
                        exact readX_no HF.out HBw5.out
                      · obtain ⟨l2, hl2, hn2⟩ : ∃ l2, Lf w5 v2 l2 ∧ numbersF t2 = some l2 := by
                          rcases HX2.out with q | q
                          · exact absurd q.1 (by simp)
                          · obtain ⟨l2, q2, _, q3⟩ := q.2
                            exact ⟨l2, ⟨q2.ints, q2.2⟩, q3⟩
                        have HLf := hid hl2
                        have HRt : Hid (readF s = match toursF x0 es l2 with | none => (9, none) | some T => if levelF x0 es = true then (0, some ⟨x0, es, T⟩) else (10, none)) := by
                          show _ = _
                          rw [HRe.out, readH, hn2]
                        clear hl2 hn2 HX2
                        go_wp2_with fail
                        refine (tours_F w5 g x0 es ev tb nt tcap 0 HG5.out v2 l2 HLf.out HEs.out HNt.out).mono ?_
                        rintro e w6 ⟨rfl, hG6, hb6, hT6⟩
                        have HBw6 : Hid (Below w.heap.size w w6) := HBw5.out.trans (hb6.below (B := w.heap.size) (fun k hk => by have q := HBw3.out.size; rw [hk]; omega) HBw5.out.size)
                        have HG6 := hid hG6
                        clear hG6 hb6
                        cases htf : toursF x0 es l2 with
                        | none =>
                          have HF : Hid (readF s = (9, none)) := by show _ = _; rw [HRt.out, htf]
                          clear hT6 htf HRt
                          simp only [Option.isSome_none]
                          go_wp2
                          go_ret2
                          exact readX_no HF.out HBw6.out
                        | some T =>
                          have HLd := hid (hT6 T htf)
                          have HTl : Hid (T.length = nt) := by show _ = _; rw [HNt.out]; exact toursF_len htf
                          have HRl : Hid (readF s = if levelF x0 es = true then (0, some ⟨x0, es, T⟩) else (10, none)) := by show _ = _; rw [HRt.out, htf]
                          clear hT6 htf HRt
                          simp only [Option.isSome_some]
                          go_wp2_with fail
                          refine (level_F w6 g x0 es ev tb nt tcap 0 HG6.out HNt.out HLv.out).mono ?_
                          rintro e w7 ⟨rfl, hb7⟩
                          have HBw7 : Hid (Below w.heap.size w w7) := HBw6.out.trans (hb7.mono HBw6.out.size)
                          have HGr : Hid (∃ F, GRep w7 g ⟨x0, es, T⟩ ev tb tcap F 0) := by
                            obtain ⟨F, hF⟩ := grep_of HG6.out HLd.out HTl.out
                            exact ⟨F, hF.below hb7⟩
                          clear hb7
                          generalize levelF x0 es = lb at HRl
                          cases lb
                          · have HF : Hid (readF s = (10, none)) := by show _ = _; rw [HRl.out, if_neg (by simp)]
                            clear HRl
                            go_wp2
                            go_ret2
                            exact readX_no HF.out HBw7.out
                          · have HF : Hid (readF s = (0, some ⟨x0, es, T⟩)) := by show _ = _; rw [HRl.out, if_pos rfl]
                            clear HRl
                            go_wp2
                            go_ret2
                            obtain ⟨F, hF⟩ := HGr.out
                            have hsz := HBw3.out.size
                            exact ⟨some ⟨g, 0, none⟩, by rw [HF.out]; rfl, HBw7.out, fun q => by rw [HF.out] at q; simp at q, fun G q => by rw [HF.out] at q; simp at q; subst q; exact ⟨g, ev, tb, tcap, F, rfl, Nat.le_trans hsz hg1, Nat.le_trans hsz hg2, fun k hk => Nat.le_trans hsz (HEo.out k hk), hF⟩⟩
                · have HF := hid (HBd8.out rfl)
                  clear hbd
                  go_wp2
                  go_ret2
                  exact readX_no HF.out HBw3.out
      · have HF : Hid (readF s = (6, none)) := readF_6 HC1.out (fun q => by rw [magic_list.2 q.2] at c4; simp at c4)
        go_wp2
        go_ret2
        exact readX_no HF.out (Below.refl _ _)

end Go.Proofs.YtckallochdegiaaGreat
