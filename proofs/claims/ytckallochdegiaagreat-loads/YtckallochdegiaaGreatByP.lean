import Derived.Test.YtckallochdegiaaGreatPgP
import Derived.Laws.BytesArg
import Derived.Laws.IdiomStrings
namespace Go.Proofs.YtckallochdegiaaGreat
set_option linter.unusedVariables false
set_option linter.unusedSimpArgs false

theorem nums_size (xs : List Int) : (strOfNums xs).size = xs.length := by
  simp [strOfNums, ByteArray.size]

/-- A number as bytes, the last seven bits last; k is fuel. -/
def numB : Nat → Nat → ByteArray
  | 0, n => strOfNums [(n : Int)]
  | k + 1, n => if n < 128 then strOfNums [(n : Int)] else strOfNums [IntKind.u8.wrap (128 + ((n % 128 : Nat) : Int))] ++ numB k (n / 128)

theorem numB_size (k : Nat) : ∀ n, (numB k n).size ≤ k + 1 := by
  induction k with
  | zero => intro n; rw [numB, nums_size]; simp
  | succ k ih =>
    intro n
    rw [numB]
    split
    · rw [nums_size]; simp
    · have := ih (n / 128)
      rw [ByteArray.size_append, nums_size]; simp; omega

/-- One bit of a byte c, the k-th, goes into the rest. -/
def crcBit (c k r : Nat) : Nat := if ((c / 2 ^ k % 2) ^^^ (r % 2)) = 1 then (r / 2) ^^^ 3988292384 else r / 2
/-- The lowest k bits of a byte. -/
def crcByte (c : Nat) : Nat → Nat → Nat
  | 0, r => r
  | k + 1, r => crcBit c k (crcByte c k r)
def byteAt (s : ByteArray) (i : Nat) : Nat := if h : i < s.size then s[i].toNat else 0
/-- The first i bytes. -/
def crcS (s : ByteArray) : Nat → Nat
  | 0 => 4294967295
  | i + 1 => crcByte (byteAt s i) 8 (crcS s i)
/-- A number below 2^32 in four bytes, the lowest first. -/
def le4 (r : Nat) : ByteArray := strOfNums [((r % 256 : Nat) : Int), ((r / 256 % 256 : Nat) : Int), ((r / 65536 % 256 : Nat) : Int), ((r / 16777216 % 256 : Nat) : Int)]
/-- The sum of a text. -/
def sumB (s : ByteArray) : ByteArray := le4 (4294967295 - crcS s s.size)

theorem crcBit_lt (c k : Nat) {r : Nat} (h : r < 4294967296) : crcBit c k r < 4294967296 := by
  unfold crcBit
  split
  · exact Nat.xor_lt_two_pow (n := 32) (by omega) (by omega)
  · omega
theorem sumB_size (s : ByteArray) : (sumB s).size = 4 := nums_size _

/-- A frame. -/
def frameB (s : ByteArray) : ByteArray := numB 40 s.size ++ s ++ sumB s
theorem frameB_size (s : ByteArray) : (frameB s).size ≤ s.size + 50 := by
  have h1 := numB_size 40 s.size
  have h2 := sumB_size s
  rw [frameB, ByteArray.size_append, ByteArray.size_append]; omega
/-- A number's bytes. -/
def nB (n : Nat) : ByteArray := numB 40 n
theorem nB_size (n : Nat) : (nB n).size ≤ 41 := numB_size 40 n
/-- The items of a round, as bytes. -/
def rS (l : List Itm) : ByteArray := l.foldl (fun s x => s ++ nB (x.2 + 1).toNat) ⟨#[]⟩
theorem rS_snoc (l : List Itm) (x : Itm) : rS (l ++ [x]) = rS l ++ nB (x.2 + 1).toNat := by simp [rS]
/-- A round, as bytes: how many vertices; what is behind the first. -/
def roundB (l : List Itm) : ByteArray := nB (sizeV l) ++ rS (l.drop 1)

theorem rS_step {l : List Itm} {m : Nat} (hm : m < l.length) (h0 : 0 < m) : rS ((l.take (m + 1)).drop 1) = rS ((l.take m).drop 1) ++ nB ((l[m]?.getD (0, 0)).2 + 1).toNat := by
  rw [List.take_succ_eq_append_getElem hm, List.drop_append_of_le_length (by simp; omega), rS_snoc, get_eq hm]
theorem rS_one {l : List Itm} : rS ((l.take 1).drop 1) = ⟨#[]⟩ := by
  cases l <;> simp [rS]
theorem sizeV_more {l : List Itm} {m : Nat} (hm : m < l.length) : sizeV (l.take (m + 1)) = sizeV (l.take m) + (if (l[m]?.getD (0, 0)).2 < 0 then 1 else 0) := by
  rw [List.take_succ_eq_append_getElem hm, get_eq hm]
  simp only [sizeV, List.filter_append, List.length_append]
  by_cases c : (l[m]).2 < 0 <;> simp [c]

/-- a stands ahead of b. -/
def ltE (a b : Edg) : Bool := decide (a.u < b.u) || (a.u == b.u && decide (a.v < b.v))
def insE (out : List Edg) (e : Edg) : List Edg := out.takeWhile (fun a => ltE a e) ++ ([e] ++ out.dropWhile (fun a => ltE a e))
/-- The edges, rising. -/
def sortE (es : List Edg) : List Edg := es.foldl insE []

theorem sortE_snoc (es : List Edg) (e : Edg) : sortE (es ++ [e]) = insE (sortE es) e := by simp [sortE]
theorem sortE_more {es : List Edg} {m : Nat} (hm : m < es.length) : sortE (es.take (m + 1)) = insE (sortE (es.take m)) (es[m]?.getD e0) := by
  rw [List.take_succ_eq_append_getElem hm, sortE_snoc, get_eq hm]
theorem take_while {out : List Edg} {p : Edg → Bool} : ∀ {k : Nat}, k ≤ out.length → (∀ j, j < k → p (out[j]?.getD e0) = true) → (k < out.length → p (out[k]?.getD e0) = false) → out.takeWhile p = out.take k ∧ out.dropWhile p = out.drop k := by
  induction out with
  | nil => intro k hk _ _; simp
  | cons a out ih =>
    intro k hk h1 h2
    cases k with
    | zero =>
      have := h2 (by simp)
      simp at this
      simp [List.takeWhile, List.dropWhile, this]
    | succ k =>
      have a1 := h1 0 (by omega)
      simp at a1
      obtain ⟨e1, e2⟩ := ih (k := k) (by simpa using hk) (fun j hj => by have := h1 (j + 1) (by omega); simpa using this) (fun q => by have := h2 (by simp; omega); simpa using this)
      simp [List.takeWhile, List.dropWhile, a1, e1, e2]
theorem insE_at {out : List Edg} {e : Edg} {k : Nat} (hk : k ≤ out.length) (h1 : ∀ j, j < k → ltE (out[j]?.getD e0) e = true) (h2 : k < out.length → ltE (out[k]?.getD e0) e = false) : insE out e = out.take k ++ ([e] ++ out.drop k) := by
  obtain ⟨a, b⟩ := take_while (p := fun a => ltE a e) hk h1 h2
  rw [insE, a, b]

/-- An edge, as bytes. -/
def edgeB (e : Edg) : ByteArray := nB e.u.toNat ++ nB e.v.toNat ++ nB (2 * e.lev.toNat + if e.tree then 1 else 0)
/-- The first m edges of a list, as bytes. -/
def edgesB (l : List Edg) (m : Nat) : ByteArray := (l.take m).foldl (fun s e => s ++ edgeB e) (nB l.length)
theorem edgesB_step {l : List Edg} {m : Nat} (hm : m < l.length) : edgesB l (m + 1) = edgesB l m ++ edgeB (l[m]?.getD e0) := by
  rw [edgesB, edgesB, List.take_succ_eq_append_getElem hm, List.foldl_append, get_eq hm]; rfl
/-- v's tour in F(i), from its least vertex on. -/
def tourAt (G : Gr) (i v : Nat) : List Itm := fromX (lessT G i v) (leastV (lessT G i v) v, -1)
/-- The trees of F(i) whose least vertices are below m: how many, and their bytes. -/
def lvF (G : Gr) (i : Nat) : Nat → Nat × ByteArray
  | 0 => (0, ⟨#[]⟩)
  | v + 1 => if ((tourAt G i v)[0]?.getD (0, 0)).1 = (v : Int) ∧ 1 < (tourAt G i v).length then ((lvF G i v).1 + 1, (lvF G i v).2 ++ (nB v ++ roundB (tourAt G i v))) else lvF G i v
/-- The first i levels. -/
def toursB (G : Gr) : Nat → ByteArray
  | 0 => ⟨#[]⟩
  | i + 1 => toursB G i ++ (nB (lvF G i G.N).1 ++ (lvF G i G.N).2)
/-- The state, as bytes. -/
def bytesB (G : Gr) : ByteArray := ⟨#[72, 68, 84, 49]⟩ ++ frameB (nB G.N) ++ frameB (edgesB (sortE G.edges) G.edges.length) ++ frameB (toursB G G.tours.length)

end Go.Proofs.YtckallochdegiaaGreat
namespace Go.Proofs.YtckallochdegiaaGreat
set_option linter.unusedVariables false
set_option linter.unusedSimpArgs false

theorem ltE_iff {a b : Edg} : ltE a b = true ↔ a.u < b.u ∨ (a.u = b.u ∧ a.v < b.v) := by simp [ltE]
theorem ltE_trans {a b c : Edg} (h : ltE a b = true) (k : ltE b c = true) : ltE a c = true := by
  rw [ltE_iff] at *; omega
theorem ltE_irr (a : Edg) : ltE a a = false := by simp [ltE]
theorem ltE_tri {a b : Edg} (h : ltE a b = false) (hk : key a ≠ key b) : ltE b a = true := by
  have h1 : ¬ (a.u < b.u ∨ (a.u = b.u ∧ a.v < b.v)) := by rw [← ltE_iff, h]; simp
  have h2 : ¬ (a.u = b.u ∧ a.v = b.v) := fun q => hk (by rw [key, key, q.1, q.2])
  rw [ltE_iff]; omega

theorem insE_mem (out : List Edg) (e x : Edg) : x ∈ insE out e ↔ x = e ∨ x ∈ out := by
  have h : x ∈ out ↔ x ∈ out.takeWhile (fun a => ltE a e) ∨ x ∈ out.dropWhile (fun a => ltE a e) := by
    rw [← List.mem_append, List.takeWhile_append_dropWhile]
  rw [insE, List.mem_append, List.mem_append, List.mem_singleton, h]
  constructor
  · rintro (q | q | q)
    · exact Or.inr (Or.inl q)
    · exact Or.inl q
    · exact Or.inr (Or.inr q)
  · rintro (q | q | q)
    · exact Or.inr (Or.inl q)
    · exact Or.inl q
    · exact Or.inr (Or.inr q)

theorem sortE_mem (es : List Edg) (x : Edg) : x ∈ sortE es ↔ x ∈ es := by
  have go : ∀ (es out : List Edg), x ∈ es.foldl insE out ↔ x ∈ es ∨ x ∈ out := by
    intro es
    induction es with
    | nil => intro out; simp
    | cons e es ih =>
      intro out
      rw [List.foldl_cons, ih, insE_mem, List.mem_cons]
      constructor
      · rintro (q | q | q)
        · exact Or.inl (Or.inr q)
        · exact Or.inl (Or.inl q)
        · exact Or.inr q
      · rintro ((q | q) | q)
        · exact Or.inr (Or.inl q)
        · exact Or.inl q
        · exact Or.inr (Or.inr q)
  rw [sortE, go]; simp

/-- Rising. -/
def Ris (l : List Edg) : Prop := l.Pairwise (fun a b => ltE a b = true)

theorem insE_ris {out : List Edg} {e : Edg} (h : Ris out) (hk : ∀ x, x ∈ out → key x ≠ key e) : Ris (insE out e) := by
  induction out with
  | nil => simp [insE, Ris]
  | cons a out ih =>
    obtain ⟨h1, h2⟩ := List.pairwise_cons.1 h
    cases c : ltE a e
    · have e1 : insE (a :: out) e = e :: a :: out := by simp [insE, List.takeWhile, List.dropWhile, c]
      rw [e1, Ris, List.pairwise_cons]
      refine ⟨fun x hx => ?_, h⟩
      have ea := ltE_tri c (hk a (by simp))
      rcases List.mem_cons.1 hx with rfl | q
      · exact ea
      · exact ltE_trans ea (h1 x q)
    · have e1 : insE (a :: out) e = a :: insE out e := by simp [insE, List.takeWhile, List.dropWhile, c]
      rw [e1, Ris, List.pairwise_cons]
      refine ⟨fun x hx => ?_, ih h2 (fun x hx => hk x (by simp [hx]))⟩
      rcases (insE_mem out e x).1 hx with rfl | q
      · exact c
      · exact h1 x q

theorem sortE_ris {es : List Edg} (nd : (es.map key).Nodup) : Ris (sortE es) := by
  have go : ∀ (es out : List Edg), (es.map key).Nodup → Ris out → (∀ x, x ∈ out → ∀ y, y ∈ es → key x ≠ key y) → Ris (es.foldl insE out) := by
    intro es
    induction es with
    | nil => intro out _ h _; exact h
    | cons e es ih =>
      intro out nd h hk
      rw [List.map_cons, List.nodup_cons] at nd
      rw [List.foldl_cons]
      refine ih _ nd.2 (insE_ris h (fun x hx => hk x hx e (by simp))) (fun x hx y hy => ?_)
      rcases (insE_mem out e x).1 hx with rfl | q
      · intro q; exact nd.1 (List.mem_map.2 ⟨y, hy, q.symm⟩)
      · exact hk x q y (by simp [hy])
  exact go es [] nd (by simp [Ris]) (fun x hx => by simp at hx)

/-- Two rising lists of the same edges are one. -/
theorem ris_uniq {l m : List Edg} (hl : Ris l) (hm : Ris m) (h : ∀ x, x ∈ l ↔ x ∈ m) : l = m := by
  induction l generalizing m with
  | nil =>
    cases m with
    | nil => rfl
    | cons b m => exact absurd ((h b).2 (by simp)) (by simp)
  | cons a l ih =>
    obtain ⟨l1, l2⟩ := List.pairwise_cons.1 hl
    cases m with
    | nil => exact absurd ((h a).1 (by simp)) (by simp)
    | cons b m =>
      obtain ⟨m1, m2⟩ := List.pairwise_cons.1 hm
      have e : a = b := by
        rcases List.mem_cons.1 ((h a).1 (by simp)) with q | q
        · exact q
        · rcases List.mem_cons.1 ((h b).2 (by simp)) with r | r
          · exact r.symm
          · have x1 := ltE_trans (l1 b r) (m1 a q)
            rw [ltE_irr] at x1; simp at x1
      subst e
      congr 1
      refine ih l2 m2 (fun x => ⟨fun hx => ?_, fun hx => ?_⟩)
      · rcases List.mem_cons.1 ((h x).1 (by simp [hx])) with q | q
        · subst q; have := l1 x hx; rw [ltE_irr] at this; simp at this
        · exact q
      · rcases List.mem_cons.1 ((h x).2 (by simp [hx])) with q | q
        · subst q; have := m1 x hx; rw [ltE_irr] at this; simp at this
        · exact q

theorem sortE_eq {es m : List Edg} (nd : (es.map key).Nodup) (hm : Ris m) (h : ∀ x, x ∈ m ↔ x ∈ es) : sortE es = m :=
  ris_uniq (sortE_ris nd) hm (fun x => by rw [sortE_mem, h])

theorem sortE_length {es : List Edg} (nd : (es.map key).Nodup) : (sortE es).length = es.length := by
  have go : ∀ (es out : List Edg), (es.foldl insE out).length = es.length + out.length := by
    intro es
    induction es with
    | nil => intro out; simp
    | cons e es ih =>
      intro out
      rw [List.foldl_cons, ih]
      have : (insE out e).length = out.length + 1 := by
        have h := congrArg List.length (List.takeWhile_append_dropWhile (p := fun a => ltE a e) (l := out))
        rw [List.length_append] at h
        rw [insE, List.length_append, List.length_append]
        simp only [List.length_cons, List.length_nil]; omega
      rw [this, List.length_cons]; omega
  have := go es []
  simpa [sortE] using this

section
variable {G : Gr} {R : Nat → Nat → List Itm} {i v : Nat}
/-- How the program's rounds tell a vertex's tour: it holds the round where the vertex is the least of its tree, and nothing elsewhere. -/
theorem tourAt_R (hI : GI G) (hS : Sim G R) (hi : i ≤ Nat.log2 G.N) (hv : v < G.N) :
    (R i v = (tourAt G i v).map pv ∧ ((tourAt G i v)[0]?.getD (0, 0)) = ((v : Int), (-1 : Int)) ∧ 0 < (tourAt G i v).length) ∨ (R i v = [] ∧ ((tourAt G i v)[0]?.getD (0, 0)).1 ≠ (v : Int)) := by
  have L := hI.li i hi
  obtain ⟨t, ht, hvt⟩ := L.all (v : Int) (by omega) (by omega)
  have et : lessT G i v = t := LI.lessT_at hI hi ht hvt
  have ok := hI.okI hi ht
  have la := leastV_at (L.tr t ht) ok hvt
  obtain ⟨s, hs, _⟩ := fromX_head la.1
  have n48 := hI.n48
  by_cases c : leastV t (v : Int) = v
  · left
    have e : tourAt G i v = fromX t ((v : Int), -1) := by rw [tourAt, et, c]
    rw [c] at la hs
    refine ⟨by rw [e]; exact (hS.fr i hi).at_ t ht v la, by rw [e, hs]; rfl, by rw [e, hs]; simp⟩
  · right
    have e : tourAt G i v = (leastV t (v : Int), -1) :: s := by rw [tourAt, et, hs]
    refine ⟨?_, by rw [e]; exact c⟩
    by_cases q : R i v = []
    · exact q
    · obtain ⟨t2, h1, h2⟩ := (hS.fr i hi).no v (by omega) q
      have : t2 = t := L.uniq h1 ht h2.1 hvt rfl
      rw [this] at h2
      exact absurd (la.uniq h2) c
end

end Go.Proofs.YtckallochdegiaaGreat
namespace Go.Proofs.YtckallochdegiaaGreat
set_option linter.unusedVariables false
set_option linter.unusedSimpArgs false

/-- One shift of the usual sum. -/
def crcSh (r : Nat) : Nat := if r % 2 = 1 then (r / 2) ^^^ 3988292384 else r / 2
def crcShs : Nat → Nat → Nat
  | 0, r => r
  | k + 1, r => crcSh (crcShs k r)

theorem xor_half (a b : Nat) : (a ^^^ b) / 2 = (a / 2) ^^^ (b / 2) := by
  have := Nat.shiftRight_xor_distrib (a := a) (b := b) (i := 1)
  simpa [Nat.shiftRight_eq_div_pow] using this
theorem xor_odd (a b : Nat) : (a ^^^ b) % 2 = (a % 2) ^^^ (b % 2) := by
  have := Nat.xor_mod_two_pow (a := a) (b := b) (n := 1)
  simpa using this

/-- The byte goes into the lowest eight bits at once, or bit by bit. -/
theorem crc_usual (c r : Nat) : ∀ k, crcShs k (r ^^^ c) = crcByte c k r ^^^ (c / 2 ^ k) := by
  intro k
  induction k with
  | zero => simp [crcShs, crcByte]
  | succ k ih =>
    rw [crcShs, ih, crcByte, crcSh, crcBit, xor_odd, xor_half, Nat.xor_comm (crcByte c k r % 2)]
    have e : c / 2 ^ k / 2 = c / 2 ^ (k + 1) := by rw [Nat.div_div_eq_div_mul, Nat.pow_succ]
    rw [e]
    by_cases q : (c / 2 ^ k % 2 ^^^ crcByte c k r % 2) = 1
    · rw [if_pos q, if_pos q, Nat.xor_assoc, Nat.xor_assoc, Nat.xor_comm (c / 2 ^ (k + 1))]
    · rw [if_neg q, if_neg q]

theorem crc_byte {c : Nat} (h : c < 256) (r : Nat) : crcShs 8 (r ^^^ c) = crcByte c 8 r := by
  rw [crc_usual, Nat.div_eq_of_lt (by omega), Nat.xor_zero]

end Go.Proofs.YtckallochdegiaaGreat
namespace Go.Proofs.YtckallochdegiaaGreat
set_option linter.unusedVariables false
set_option linter.unusedSimpArgs false

/-- Numbers, as bytes. -/
def numsB (l : List Nat) : ByteArray := l.foldl (fun s x => s ++ nB x) ⟨#[]⟩
theorem fold_app (l : List Nat) (s : ByteArray) : l.foldl (fun s x => s ++ nB x) s = s ++ numsB l := by
  induction l generalizing s with
  | nil => simp [numsB, ByteArray.ext_iff]
  | cons x l ih =>
    rw [numsB, List.foldl_cons, List.foldl_cons, ih, ih, ByteArray.append_assoc]
    have e : (⟨#[]⟩ : ByteArray) ++ nB x = nB x := by simp [ByteArray.ext_iff]
    rw [e]
theorem numsB_append (l m : List Nat) : numsB (l ++ m) = numsB l ++ numsB m := by
  rw [numsB, List.foldl_append, fold_app]; rfl
theorem numsB_one (x : Nat) : numsB [x] = nB x := by simp [numsB, ByteArray.ext_iff]
theorem numsB_cons (x : Nat) (l : List Nat) : numsB (x :: l) = nB x ++ numsB l := by
  rw [show x :: l = [x] ++ l from rfl, numsB_append, numsB_one]
theorem numB_pos (k n : Nat) : 1 ≤ (numB k n).size := by
  cases k with
  | zero => rw [numB, nums_size]; simp
  | succ k =>
    rw [numB]
    split
    · rw [nums_size]; simp
    · rw [ByteArray.size_append, nums_size]; simp
theorem nB_pos (n : Nat) : 1 ≤ (nB n).size := numB_pos 40 n
theorem numsB_size (l : List Nat) : (numsB l).size ≤ 41 * l.length := by
  induction l with
  | nil => simp [numsB, ByteArray.size]
  | cons x l ih => have := nB_size x; rw [numsB_cons, ByteArray.size_append, List.length_cons]; omega
theorem numsB_pos {l : List Nat} (h : 0 < l.length) : 0 < (numsB l).size := by
  cases l with
  | nil => simp at h
  | cons x l => have := nB_pos x; rw [numsB_cons, ByteArray.size_append]; omega

/-- An item's number. -/
def itN (x : Itm) : Nat := (x.2 + 1).toNat
theorem rS_nums (l : List Itm) : rS l = numsB (l.map itN) := by
  rw [rS, numsB, List.foldl_map]; rfl
theorem roundB_nums (l : List Itm) : roundB l = numsB (sizeV l :: (l.drop 1).map itN) := by
  rw [roundB, rS_nums, numsB_cons]

/-- An edge's numbers. -/
def edN (e : Edg) : List Nat := [e.u.toNat, e.v.toNat, 2 * e.lev.toNat + if e.tree then 1 else 0]
def edNs (l : List Edg) : List Nat := l.flatMap edN
theorem edNs_append (l m : List Edg) : edNs (l ++ m) = edNs l ++ edNs m := by simp [edNs]
theorem edNs_one (e : Edg) : edNs [e] = edN e := by simp [edNs]
theorem edNs_length (l : List Edg) : (edNs l).length = 3 * l.length := by
  induction l with
  | nil => rfl
  | cons e l ih => rw [show e :: l = [e] ++ l from rfl, edNs_append, edNs_one, List.length_append, ih]; simp [edN]; omega
theorem edgeB_nums (e : Edg) : edgeB e = numsB (edN e) := by
  rw [edgeB, edN, numsB_cons, numsB_cons, numsB_one, ByteArray.append_assoc]
theorem edgesB_nums (l : List Edg) : edgesB l l.length = numsB (l.length :: edNs l) := by
  have go : ∀ (m : List Edg) (s : ByteArray), m.foldl (fun s e => s ++ edgeB e) s = s ++ numsB (edNs m) := by
    intro m
    induction m with
    | nil => intro s; simp [edNs, numsB, ByteArray.ext_iff]
    | cons e m ih =>
      intro s
      rw [List.foldl_cons, ih, show e :: m = [e] ++ m from rfl, edNs_append, edNs_one, numsB_append, edgeB_nums, ByteArray.append_assoc]
  rw [edgesB, List.take_length, go, numsB_cons]

/-- The edge u - v as the program keeps it. -/
def ed1 (E : Nat → Nat → E3) (u v : Nat) : Edg := { u := u, v := v, lev := (E u v).2.2, tree := (E u v).2.1 }
/-- The edges from u to greater ones below m. -/
def edR (E : Nat → Nat → E3) (u : Nat) : Nat → List Edg
  | 0 => []
  | v + 1 => edR E u v ++ if u < v ∧ (E u v).1 = true then [ed1 E u v] else []
/-- The edges from vertices below m. -/
def edA (E : Nat → Nat → E3) (n : Nat) : Nat → List Edg
  | 0 => []
  | u + 1 => edA E n u ++ edR E u n

theorem edR_le (E : Nat → Nat → E3) (u m : Nat) : (edR E u m).length ≤ m := by
  induction m with
  | zero => simp [edR]
  | succ m ih =>
    rw [edR, List.length_append]
    split <;> simp <;> omega
theorem edA_le (E : Nat → Nat → E3) (n m : Nat) : (edA E n m).length ≤ m * n := by
  induction m with
  | zero => simp [edA]
  | succ m ih => have := edR_le E m n; rw [edA, List.length_append, Nat.succ_mul]; omega
theorem edR_nil (E : Nat → Nat → E3) (u : Nat) : ∀ m, m ≤ u + 1 → edR E u m = [] := by
  intro m
  induction m with
  | zero => intro _; rfl
  | succ m ih => intro h; rw [edR, ih (by omega), if_neg (by omega)]; rfl
theorem edR_mem (E : Nat → Nat → E3) (u m : Nat) (x : Edg) : x ∈ edR E u m ↔ ∃ v, u < v ∧ v < m ∧ (E u v).1 = true ∧ x = ed1 E u v := by
  induction m with
  | zero => simp [edR]
  | succ m ih =>
    rw [edR, List.mem_append, ih]
    constructor
    · rintro (⟨v, h1, h2, h3, h4⟩ | h)
      · exact ⟨v, h1, by omega, h3, h4⟩
      · split at h
        · rename_i c; simp at h; exact ⟨m, c.1, by omega, c.2, h⟩
        · simp at h
    · rintro ⟨v, h1, h2, h3, h4⟩
      by_cases c : v = m
      · subst c; right; rw [if_pos ⟨h1, h3⟩]; simp [h4]
      · left; exact ⟨v, h1, by omega, h3, h4⟩
theorem edA_mem (E : Nat → Nat → E3) (n m : Nat) (x : Edg) : x ∈ edA E n m ↔ ∃ u v, u < m ∧ u < v ∧ v < n ∧ (E u v).1 = true ∧ x = ed1 E u v := by
  induction m with
  | zero => simp [edA]
  | succ m ih =>
    rw [edA, List.mem_append, ih, edR_mem]
    constructor
    · rintro (⟨u, v, h0, h1, h2, h3, h4⟩ | ⟨v, h1, h2, h3, h4⟩)
      · exact ⟨u, v, by omega, h1, h2, h3, h4⟩
      · exact ⟨m, v, by omega, h1, h2, h3, h4⟩
    · rintro ⟨u, v, h0, h1, h2, h3, h4⟩
      by_cases c : u = m
      · subst c; right; exact ⟨v, h1, h2, h3, h4⟩
      · left; exact ⟨u, v, by omega, h1, h2, h3, h4⟩
theorem edR_ris (E : Nat → Nat → E3) (u m : Nat) : Ris (edR E u m) := by
  induction m with
  | zero => simp [edR, Ris]
  | succ m ih =>
    rw [edR, Ris, List.pairwise_append]
    refine ⟨ih, by split <;> simp, fun a ha b hb => ?_⟩
    obtain ⟨v, h1, h2, h3, rfl⟩ := (edR_mem E u m a).1 ha
    split at hb
    · simp at hb; subst hb; rw [ltE_iff]; right; simp [ed1]; omega
    · simp at hb
theorem edA_ris (E : Nat → Nat → E3) (n m : Nat) : Ris (edA E n m) := by
  induction m with
  | zero => simp [edA, Ris]
  | succ m ih =>
    rw [edA, Ris, List.pairwise_append]
    refine ⟨ih, edR_ris E m n, fun a ha b hb => ?_⟩
    obtain ⟨u, v, h0, h1, h2, h3, rfl⟩ := (edA_mem E n m a).1 ha
    obtain ⟨v', h1', h2', h3', rfl⟩ := (edR_mem E m n b).1 hb
    rw [ltE_iff]; left; simp [ed1]; omega

theorem edA_sort {G : Gr} (hI : GI G) : sortE G.edges = edA (look G.edges) G.N G.N := by
  refine sortE_eq hI.nd (edA_ris _ _ _) (fun x => ?_)
  rw [edA_mem]
  constructor
  · rintro ⟨u, v, h0, h1, h2, h3, rfl⟩
    obtain ⟨k, hk⟩ := look_fst.1 h3
    have hl := look_at hk
    rw [Int.min_eq_left (by omega), Int.max_eq_right (by omega)] at hk
    obtain ⟨k1, k2, k3⟩ := find_ge hk
    have : ed1 (look G.edges) u v = G.edges[k]?.getD e0 := by
      rw [ed1, hl]
      cases hx : G.edges[k]?.getD e0
      rw [hx] at k2 k3
      simp only at k2 k3
      simp [k2, k3]
    rw [this, get_eq k1]
    exact List.getElem_mem k1
  · intro hx
    have b := hI.ed x hx
    obtain ⟨k, k1, k2, k3⟩ := find_mem hI.nd hx
    have hk : findIx G.edges (min ((x.u.toNat : Nat) : Int) (x.v.toNat : Nat)) (max ((x.u.toNat : Nat) : Int) (x.v.toNat : Nat)) = k := by
      rw [Int.toNat_of_nonneg (by omega), Int.toNat_of_nonneg (by omega), Int.min_eq_left (by omega), Int.max_eq_right (by omega)]; exact k2
    refine ⟨x.u.toNat, x.v.toNat, by omega, by omega, by omega, look_fst.2 ⟨k, hk⟩, ?_⟩
    rw [ed1, look_at hk, k3, Int.toNat_of_nonneg (by omega), Int.toNat_of_nonneg (by omega)]

end Go.Proofs.YtckallochdegiaaGreat
namespace Go.Proofs.YtckallochdegiaaGreat
set_option linter.unusedVariables false
set_option linter.unusedSimpArgs false

theorem nB_sz1 {n : Nat} (h : n < 128) : (nB n).size = 1 := by
  rw [nB, numB, if_pos h, nums_size]; rfl
theorem rS_size {l : List Itm} (ok : ∀ x, x ∈ l → OkI x) : (rS l).size = l.length := by
  rw [rS_nums]
  induction l with
  | nil => rfl
  | cons x l ih =>
    have hx := ok x (by simp)
    have h : itN x < 128 := by
      rw [itN]
      obtain ⟨_, _, q | q⟩ := hx
      · rw [q]; decide
      · omega
    rw [List.map_cons, numsB_cons, ByteArray.size_append, nB_sz1 h, ih (fun y hy => ok y (by simp [hy])), List.length_cons]; omega
theorem roundB_size {l : List Itm} (ok : ∀ x, x ∈ l → OkI x) : (roundB l).size ≤ 41 + l.length := by
  have h1 := nB_size (sizeV l)
  have h2 := rS_size (l := l.drop 1) (fun x hx => ok x (List.mem_of_mem_drop hx))
  rw [roundB, ByteArray.size_append, h2, List.length_drop]; omega
theorem tourAt_okP {G : Gr} {i v : Nat} (hI : GI G) (hi : i ≤ Nat.log2 G.N) (hv : v < G.N) : (tourAt G i v).length ≤ 2352 ∧ ∀ x, x ∈ tourAt G i v → OkI x := by
  have L := hI.li i hi
  obtain ⟨t, ht, hvt⟩ := L.all (v : Int) (by omega) (by omega)
  have et : lessT G i v = t := LI.lessT_at hI hi ht hvt
  have rot : Rot t (tourAt G i v) := by rw [tourAt, et]; exact fromX_rot' _ _
  exact ⟨by rw [rot.length]; exact L.len hI.n48 hI.rngE ht, fun x hx => hI.okI hi ht x ((rot.mem x).2 hx)⟩
theorem lvF_size {G : Gr} {i : Nat} (hI : GI G) (hi : i ≤ Nat.log2 G.N) (K : Nat) (hK : 2394 ≤ K) : ∀ v, v ≤ G.N → (lvF G i v).2.size ≤ v * K := by
  intro v
  induction v with
  | zero => intro _; simp [lvF, ByteArray.size]
  | succ v ih =>
    intro hv
    have ih := ih (by omega)
    have n48 := hI.n48
    obtain ⟨t1, t2⟩ := tourAt_okP hI hi (v := v) (by omega)
    have r := roundB_size t2
    have s := nB_sz1 (n := v) (by omega)
    have k : ((lvF G i v).2 ++ (nB v ++ roundB (tourAt G i v))).size = (lvF G i v).2.size + ((nB v).size + (roundB (tourAt G i v)).size) := by rw [ByteArray.size_append, ByteArray.size_append]
    generalize (roundB (tourAt G i v)).size = x at r k
    generalize (nB v).size = y at s k
    rw [Nat.succ_mul]
    generalize v * K = z2 at ih
    rw [lvF]
    split
    · show ((lvF G i v).2 ++ (nB v ++ roundB (tourAt G i v))).size ≤ _
      rw [k]; omega
    · omega
theorem toursB_size {G : Gr} (hI : GI G) : ∀ i, i ≤ Nat.log2 G.N + 1 → (toursB G i).size ≤ i * 114953 := by
  intro i
  induction i with
  | zero => intro _; simp [toursB, ByteArray.size]
  | succ i ih =>
    intro hi
    have ih := ih (by omega)
    have n48 := hI.n48
    have a := lvF_size hI (i := i) (by omega) 2394 (Nat.le_refl _) G.N (Nat.le_refl _)
    have a2 : G.N * 2394 ≤ 48 * 2394 := Nat.mul_le_mul_right _ n48
    have b := nB_size (lvF G i G.N).1
    rw [toursB, ByteArray.size_append, ByteArray.size_append]; omega
theorem bytesB_size {G : Gr} (hI : GI G) : (bytesB G).size ≤ 1048576 := by
  have n48 := hI.n48
  have l5 : Nat.log2 G.N ≤ 5 := log2_le5 hI.n1 hI.n48
  have a1 := toursB_size hI G.tours.length (by rw [hI.tl]; omega)
  have tl : G.tours.length ≤ 6 := by rw [hI.tl]; omega
  have a2 := frameB_size (toursB G G.tours.length)
  have e1 : edgesB (sortE G.edges) G.edges.length = numsB ((sortE G.edges).length :: edNs (sortE G.edges)) := by
    rw [← edgesB_nums, sortE_length hI.nd]
  have e2 : (sortE G.edges).length ≤ 2304 := by
    rw [edA_sort hI]
    have := edA_le (look G.edges) G.N G.N
    have : G.N * G.N ≤ 48 * 48 := Nat.mul_le_mul n48 n48
    omega
  have e3 := numsB_size ((sortE G.edges).length :: edNs (sortE G.edges))
  rw [List.length_cons, edNs_length, ← e1] at e3
  have e4 := frameB_size (edgesB (sortE G.edges) G.edges.length)
  have n1 := nB_size G.N
  have n2 := frameB_size (nB G.N)
  rw [bytesB, ByteArray.size_append, ByteArray.size_append, ByteArray.size_append, show (⟨#[72, 68, 84, 49]⟩ : ByteArray).size = 4 from rfl]
  omega

end Go.Proofs.YtckallochdegiaaGreat
