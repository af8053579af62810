import Derived.Test.YtckallochdegiabByP
namespace Go.Proofs.Ytckallochdegiab
set_option linter.unusedVariables false
set_option linter.unusedSimpArgs false

theorem byteAt_data (s : ByteArray) (i : Nat) : byteAt s i = (s.data[i]?.getD 0).toNat := by
  unfold byteAt
  split
  · rename_i h
    have : s.data[i]? = some (s[i]) := by
      rw [Array.getElem?_eq_getElem (by exact h)]; rfl
    rw [this]; rfl
  · rename_i h
    have : s.data[i]? = none := by rw [Array.getElem?_eq_none_iff]; exact Nat.le_of_not_lt h
    rw [this]; rfl
theorem byteAt_l {a b : ByteArray} {i : Nat} (h : i < a.size) : byteAt (a ++ b) i = byteAt a i := by
  rw [byteAt_data, byteAt_data, ByteArray.data_append, Array.getElem?_append_left (by exact h)]
theorem byteAt_r {a b : ByteArray} {i : Nat} : byteAt (a ++ b) (a.size + i) = byteAt b i := by
  rw [byteAt_data, byteAt_data, ByteArray.data_append, Array.getElem?_append_right (by show a.data.size ≤ _; exact Nat.le_add_right _ _)]
  congr 3
  show a.data.size + i - a.data.size = i
  omega
theorem byteAt_nums (xs : List Int) (i : Nat) : byteAt (strOfNums xs) i = ((xs[i]?.map fun n => (UInt8.ofNat n.toNat).toNat).getD 0) := by
  rw [byteAt_data]
  simp only [strOfNums]
  cases h : xs[i]? <;> simp [h]

/-- A number of one byte. -/
theorem nB_one {n : Nat} (h : n < 128) : nB n = strOfNums [(n : Int)] := by rw [nB, numB, if_pos h]
/-- A number of two bytes. -/
theorem nB_two {n : Nat} (h : ¬ n < 128) (h2 : n < 16384) : nB n = strOfNums [((128 + n % 128 : Nat) : Int), ((n / 128 : Nat) : Int)] := by
  have w : IntKind.u8.wrap (128 + ((n % 128 : Nat) : Int)) = ((128 + n % 128 : Nat) : Int) := by
    simp [IntKind.wrap, IntKind.bits, IntKind.signed]; omega
  rw [nB, numB, if_neg h, numB, if_pos (by omega), w]
  apply ByteArray.ext
  simp [strOfNums]

/-- A number of one byte or two, read at a place: it, and what is behind. -/
def nxtB (s : ByteArray) (p : Nat) : Nat × Nat := if byteAt s p < 128 then (byteAt s p, p + 1) else (byteAt s p - 128 + 128 * byteAt s (p + 1), p + 2)

theorem nxtB_at {a b : ByteArray} {n p : Nat} (h : n < 16384) (hp : p = a.size) : nxtB (a ++ (nB n ++ b)) p = (n, p + (nB n).size) := by
  subst hp
  by_cases c : n < 128
  · have s1 : (nB n).size = 1 := by rw [nB_one c, nums_size]; rfl
    have e : byteAt (a ++ (nB n ++ b)) a.size = n := by
      have := byteAt_r (a := a) (b := nB n ++ b) (i := 0)
      rw [Nat.add_zero] at this
      rw [this, byteAt_l (by omega), nB_one c, byteAt_nums]
      simp; omega
    rw [nxtB, e, if_pos c, s1]
  · have s1 : (nB n).size = 2 := by rw [nB_two c h, nums_size]; rfl
    have e : byteAt (a ++ (nB n ++ b)) a.size = 128 + n % 128 := by
      have := byteAt_r (a := a) (b := nB n ++ b) (i := 0)
      rw [Nat.add_zero] at this
      rw [this, byteAt_l (by omega), nB_two c h, byteAt_nums]
      simp; omega
    have e2 : byteAt (a ++ (nB n ++ b)) (a.size + 1) = n / 128 := by
      rw [byteAt_r, byteAt_l (by omega), nB_two c h, byteAt_nums]
      simp; omega
    rw [nxtB, e, e2, if_neg (by omega), s1]
    congr 1
    omega

end Go.Proofs.Ytckallochdegiab
namespace Go.Proofs.Ytckallochdegiab
set_option linter.unusedVariables false
set_option linter.unusedSimpArgs false

/-- Edges, one behind another. -/
def catE (l : List Edg) : ByteArray := l.foldl (fun s e => s ++ edgeB e) ⟨#[]⟩
theorem empty_app (s : ByteArray) : (⟨#[]⟩ : ByteArray) ++ s = s := by apply ByteArray.ext; simp
theorem foldl_cat (l : List Edg) (a : ByteArray) : l.foldl (fun s e => s ++ edgeB e) a = a ++ catE l := by
  induction l generalizing a with
  | nil => apply ByteArray.ext; simp [catE]
  | cons e l ih =>
    have e2 : catE (e :: l) = edgeB e ++ catE l := by
      show l.foldl (fun s e => s ++ edgeB e) (⟨#[]⟩ ++ edgeB e) = _
      rw [ih, empty_app]
    rw [List.foldl_cons, ih, e2, ByteArray.append_assoc]
theorem catE_cons (e : Edg) (l : List Edg) : catE (e :: l) = edgeB e ++ catE l := by
  rw [catE, List.foldl_cons, foldl_cat, empty_app]
theorem edgesB_eq (l : List Edg) : edgesB l l.length = nB l.length ++ catE l := by rw [edgesB, List.take_length, foldl_cat]

/-- What is told of an edge: both ends, twice the level and one if it is of the forest. -/
def lineE (e : Edg) : Nat × Nat × Nat := (e.u.toNat, e.v.toNat, 2 * e.lev.toNat + if e.tree then 1 else 0)

/-- Three numbers, read at a place. -/
def nxt3 (s : ByteArray) (p : Nat) : (Nat × Nat × Nat) × Nat :=
  (((nxtB s p).1, (nxtB s (nxtB s p).2).1, (nxtB s (nxtB s (nxtB s p).2).2).1), (nxtB s (nxtB s (nxtB s p).2).2).2)
/-- m times three numbers. -/
def lnR (s : ByteArray) (p : Nat) : Nat → List (Nat × Nat × Nat) × Nat
  | 0 => ([], p)
  | m + 1 => ((lnR s p m).1 ++ [(nxt3 s (lnR s p m).2).1], (nxt3 s (lnR s p m).2).2)

/-- An edge whose numbers are small. -/
def Sml (e : Edg) : Prop := e.u.toNat < 128 ∧ e.v.toNat < 128 ∧ e.lev.toNat < 60

theorem edgeB_size {e : Edg} (h : Sml e) : (edgeB e).size = 3 := by
  have h3 : 2 * e.lev.toNat + (if e.tree then 1 else 0) < 128 := by have := h.2.2; split <;> omega
  rw [edgeB, ByteArray.size_append, ByteArray.size_append, nB_one h.1, nB_one h.2.1, nB_one h3, nums_size, nums_size, nums_size]; rfl

theorem nxt3_at {a b : ByteArray} {e : Edg} {p : Nat} (h : Sml e) (hp : p = a.size) : nxt3 (a ++ (edgeB e ++ b)) p = (lineE e, p + 3) := by
  have h3 : 2 * e.lev.toNat + (if e.tree then 1 else 0) < 128 := by have := h.2.2; split <;> omega
  have s1 : (nB e.u.toNat).size = 1 := by rw [nB_one h.1, nums_size]; rfl
  have s2 : (nB e.v.toNat).size = 1 := by rw [nB_one h.2.1, nums_size]; rfl
  have s3 : (nB (2 * e.lev.toNat + if e.tree then 1 else 0)).size = 1 := by rw [nB_one h3, nums_size]; rfl
  have e1 : a ++ (edgeB e ++ b) = a ++ (nB e.u.toNat ++ (nB e.v.toNat ++ (nB (2 * e.lev.toNat + if e.tree then 1 else 0) ++ b))) := by
    rw [edgeB, ByteArray.append_assoc, ByteArray.append_assoc]
  have e2 : a ++ (edgeB e ++ b) = (a ++ nB e.u.toNat) ++ (nB e.v.toNat ++ (nB (2 * e.lev.toNat + if e.tree then 1 else 0) ++ b)) := by
    rw [e1, ByteArray.append_assoc]
  have e3 : a ++ (edgeB e ++ b) = (a ++ nB e.u.toNat ++ nB e.v.toNat) ++ (nB (2 * e.lev.toNat + if e.tree then 1 else 0) ++ b) := by
    rw [e1, ByteArray.append_assoc, ByteArray.append_assoc]
  have n1 : nxtB (a ++ (edgeB e ++ b)) p = (e.u.toNat, p + 1) := by rw [e1, nxtB_at (by have := h.1; omega) hp, s1]
  have n2 : nxtB (a ++ (edgeB e ++ b)) (p + 1) = (e.v.toNat, p + 2) := by rw [e2, nxtB_at (by have := h.2.1; omega) (by rw [ByteArray.size_append, s1, hp]), s2]
  have n3 : nxtB (a ++ (edgeB e ++ b)) (p + 2) = (2 * e.lev.toNat + (if e.tree then 1 else 0), p + 3) := by rw [e3, nxtB_at (by omega) (by rw [ByteArray.size_append, ByteArray.size_append, s1, s2, hp]), s3]
  rw [nxt3, n1]
  simp only [n2, n3]
  rfl

theorem catE_size {l : List Edg} (h : ∀ e, e ∈ l → Sml e) : (catE l).size = 3 * l.length := by
  induction l with
  | nil => rfl
  | cons e l ih =>
    rw [catE_cons, ByteArray.size_append, edgeB_size (h e (by simp)), ih (fun x hx => h x (by simp [hx])), List.length_cons]; omega

theorem catE_app (l m : List Edg) : catE (l ++ m) = catE l ++ catE m := by
  induction l with
  | nil => rw [List.nil_append, show catE [] = ⟨#[]⟩ from rfl, empty_app]
  | cons e l ih => rw [List.cons_append, catE_cons, ih, catE_cons, ByteArray.append_assoc]

/-- The lines are read as they were written. -/
theorem lnR_at {a b : ByteArray} {l : List Edg} {p : Nat} (h : ∀ e, e ∈ l → Sml e) (hp : p = a.size) : ∀ m, m ≤ l.length → lnR (a ++ (catE l ++ b)) p m = ((l.take m).map lineE, p + 3 * m) := by
  intro m
  induction m with
  | zero => intro _; simp [lnR]
  | succ m ih =>
    intro hm
    have hm' : m < l.length := by omega
    have i := ih (by omega)
    have sp : l = l.take m ++ (l[m] :: l.drop (m + 1)) := by rw [List.getElem_cons_drop, List.take_append_drop]
    have es : a ++ (catE l ++ b) = (a ++ catE (l.take m)) ++ (edgeB l[m] ++ (catE (l.drop (m + 1)) ++ b)) := by
      conv => lhs; rw [sp, catE_app, catE_cons]
      rw [ByteArray.append_assoc, ByteArray.append_assoc, ByteArray.append_assoc]
    have q : nxt3 (a ++ (catE l ++ b)) (p + 3 * m) = (lineE l[m], p + 3 * m + 3) := by
      rw [es]
      exact nxt3_at (h _ (List.getElem_mem hm')) (by rw [ByteArray.size_append, catE_size (fun x hx => h x (List.mem_of_mem_take hx)), List.length_take, Nat.min_eq_left (by omega), hp])
    rw [lnR, i]
    simp only [q]
    rw [List.take_succ_eq_append_getElem hm', List.map_append]
    rfl

/-- The edges of a state, out of its bytes: where a reader comes to them. -/
theorem lines_at {G : Gr} (hN : G.N < 128) (hl : G.edges.length ≤ 2400) (hlen : (sortE G.edges).length = G.edges.length) (h : ∀ e, e ∈ G.edges → Sml e) :
    nxtB (bytesB G) 4 = (1, 5) ∧ nxtB (bytesB G) 10 = ((edgesB (sortE G.edges) G.edges.length).size, 10 + (nB (edgesB (sortE G.edges) G.edges.length).size).size) ∧
    nxtB (bytesB G) (10 + (nB (edgesB (sortE G.edges) G.edges.length).size).size) = (G.edges.length, 10 + (nB (edgesB (sortE G.edges) G.edges.length).size).size + (nB G.edges.length).size) ∧
    ∀ m, m ≤ G.edges.length → (lnR (bytesB G) (10 + (nB (edgesB (sortE G.edges) G.edges.length).size).size + (nB G.edges.length).size) m).1 = ((sortE G.edges).take m).map lineE := by
  have hs : ∀ e, e ∈ sortE G.edges → Sml e := fun e he => h e ((sortE_mem _ _).1 he)
  have ee : edgesB (sortE G.edges) G.edges.length = nB G.edges.length ++ catE (sortE G.edges) := by
    have := edgesB_eq (sortE G.edges); rw [hlen] at this; exact this
  have s1 : (nB G.N).size = 1 := by rw [nB_one hN, nums_size]; rfl
  have sn : (nB G.edges.length).size ≤ 2 := by
    by_cases c : G.edges.length < 128
    · rw [nB_one c, nums_size]; simp
    · rw [nB_two c (by omega), nums_size]; simp
  have se : (edgesB (sortE G.edges) G.edges.length).size ≤ 8000 := by rw [ee, ByteArray.size_append, catE_size hs, hlen]; omega
  have f1 : frameB (nB G.N) = nB 1 ++ (nB G.N ++ sumB (nB G.N)) := by rw [frameB, s1, ByteArray.append_assoc]; rfl
  have f2 : frameB (edgesB (sortE G.edges) G.edges.length) = nB (edgesB (sortE G.edges) G.edges.length).size ++ (edgesB (sortE G.edges) G.edges.length ++ sumB (edgesB (sortE G.edges) G.edges.length)) := by rw [frameB, ByteArray.append_assoc]; rfl
  have n1 : (nB 1).size = 1 := by rw [nB_one (by omega), nums_size]; rfl
  have c4 : (⟨#[72, 68, 84, 49]⟩ : ByteArray).size = 4 := rfl
  have b1 : bytesB G = ⟨#[72, 68, 84, 49]⟩ ++ (nB 1 ++ ((nB G.N ++ sumB (nB G.N)) ++ (frameB (edgesB (sortE G.edges) G.edges.length) ++ frameB (toursB G G.tours.length)))) := by
    rw [bytesB, f1]; simp only [ByteArray.append_assoc]
  have pz : (⟨#[72, 68, 84, 49]⟩ ++ frameB (nB G.N) : ByteArray).size = 10 := by
    rw [f1, ByteArray.size_append, ByteArray.size_append, ByteArray.size_append, sumB_size, s1, n1, c4]
  have b2 : bytesB G = (⟨#[72, 68, 84, 49]⟩ ++ frameB (nB G.N)) ++ (nB (edgesB (sortE G.edges) G.edges.length).size ++ ((edgesB (sortE G.edges) G.edges.length ++ sumB (edgesB (sortE G.edges) G.edges.length)) ++ frameB (toursB G G.tours.length))) := by
    rw [bytesB, f2]; simp only [ByteArray.append_assoc]
  have b3 : bytesB G = (⟨#[72, 68, 84, 49]⟩ ++ frameB (nB G.N) ++ nB (edgesB (sortE G.edges) G.edges.length).size) ++ (nB G.edges.length ++ (catE (sortE G.edges) ++ (sumB (edgesB (sortE G.edges) G.edges.length) ++ frameB (toursB G G.tours.length)))) := by
    rw [b2]
    conv => lhs; rw [show edgesB (sortE G.edges) G.edges.length ++ sumB (edgesB (sortE G.edges) G.edges.length) = (nB G.edges.length ++ catE (sortE G.edges)) ++ sumB (edgesB (sortE G.edges) G.edges.length) from by rw [← ee]]
    simp only [ByteArray.append_assoc]
  have b4 : bytesB G = (⟨#[72, 68, 84, 49]⟩ ++ frameB (nB G.N) ++ nB (edgesB (sortE G.edges) G.edges.length).size ++ nB G.edges.length) ++ (catE (sortE G.edges) ++ (sumB (edgesB (sortE G.edges) G.edges.length) ++ frameB (toursB G G.tours.length))) := by
    rw [b3]; simp only [ByteArray.append_assoc]
  refine ⟨?_, ?_, ?_, ?_⟩
  · rw [b1, nxtB_at (by omega) c4.symm, n1]
  · rw [b2, nxtB_at (by omega) pz.symm]
  · rw [b3, nxtB_at (by omega) (by rw [ByteArray.size_append, pz])]
  · intro m hm
    rw [b4, lnR_at hs (by rw [ByteArray.size_append, ByteArray.size_append, pz]) m (by omega)]

end Go.Proofs.Ytckallochdegiab
namespace Go.Proofs.Ytckallochdegiab
set_option linter.unusedVariables false
set_option linter.unusedSimpArgs false

/-- Where the three numbers of an edge are read. -/
theorem nxt3_parts {a b : ByteArray} {e : Edg} {p : Nat} (h : Sml e) (hp : p = a.size) : nxtB (a ++ (edgeB e ++ b)) p = ((lineE e).1, p + 1) ∧ nxtB (a ++ (edgeB e ++ b)) (p + 1) = ((lineE e).2.1, p + 2) ∧ nxtB (a ++ (edgeB e ++ b)) (p + 2) = ((lineE e).2.2, p + 3) := by
  have h3 : 2 * e.lev.toNat + (if e.tree then 1 else 0) < 128 := by have := h.2.2; split <;> omega
  have s1 : (nB e.u.toNat).size = 1 := by rw [nB_one h.1, nums_size]; rfl
  have s2 : (nB e.v.toNat).size = 1 := by rw [nB_one h.2.1, nums_size]; rfl
  have s3 : (nB (2 * e.lev.toNat + if e.tree then 1 else 0)).size = 1 := by rw [nB_one h3, nums_size]; rfl
  have e1 : a ++ (edgeB e ++ b) = a ++ (nB e.u.toNat ++ (nB e.v.toNat ++ (nB (2 * e.lev.toNat + if e.tree then 1 else 0) ++ b))) := by
    rw [edgeB, ByteArray.append_assoc, ByteArray.append_assoc]
  have e2 : a ++ (edgeB e ++ b) = (a ++ nB e.u.toNat) ++ (nB e.v.toNat ++ (nB (2 * e.lev.toNat + if e.tree then 1 else 0) ++ b)) := by
    rw [e1, ByteArray.append_assoc]
  have e3 : a ++ (edgeB e ++ b) = (a ++ nB e.u.toNat ++ nB e.v.toNat) ++ (nB (2 * e.lev.toNat + if e.tree then 1 else 0) ++ b) := by
    rw [e1, ByteArray.append_assoc, ByteArray.append_assoc]
  refine ⟨?_, ?_, ?_⟩
  · rw [e1, nxtB_at (by have := h.1; omega) hp, s1]; rfl
  · rw [e2, nxtB_at (by have := h.2.1; omega) (by rw [ByteArray.size_append, s1, hp]), s2]; rfl
  · rw [e3, nxtB_at (by omega) (by rw [ByteArray.size_append, ByteArray.size_append, s1, s2, hp]), s3]; rfl

/-- The lines l are read out of s: from p2 on, three bytes each. -/
structure LnS (s : ByteArray) (l : List (Nat × Nat × Nat)) (k p1 p2 : Nat) : Prop where
  a1 : nxtB s 4 = (1, 5)
  a2 : nxtB s 10 = (k, p1)
  a3 : nxtB s p1 = (l.length, p2)
  ln : ∀ m, m < l.length → nxtB s (p2 + 3 * m) = ((l[m]?.getD (0, 0, 0)).1, p2 + 3 * m + 1) ∧ nxtB s (p2 + 3 * m + 1) = ((l[m]?.getD (0, 0, 0)).2.1, p2 + 3 * m + 2) ∧ nxtB s (p2 + 3 * m + 2) = ((l[m]?.getD (0, 0, 0)).2.2, p2 + 3 * m + 3)
  sz : p2 + 3 * l.length ≤ s.size
  o1 : 10 < p1
  o2 : p1 < p2
  le : l.length ≤ 2400
  s2 : s.size ≤ 1048576
  rg : ∀ m, m < l.length → (l[m]?.getD (0, 0, 0)).1 < 48 ∧ (l[m]?.getD (0, 0, 0)).2.1 < 48 ∧ (l[m]?.getD (0, 0, 0)).2.2 < 16

theorem lnS_bytes {G : Gr} (hI : GI G) : ∃ k p1 p2, LnS (bytesB G) ((sortE G.edges).map lineE) k p1 p2 := by
  have n48 := hI.n48
  have l5 := log2_le5 hI.n1 hI.n48
  have hlen := sortE_length hI.nd
  have sml : ∀ e, e ∈ G.edges → Sml e := fun e he => by have := hI.ed e he; unfold Sml; omega
  have hs : ∀ e, e ∈ sortE G.edges → Sml e := fun e he => sml e ((sortE_mem _ _).1 he)
  have hl : G.edges.length ≤ 2304 := by
    rw [← hlen, edA_sort hI]
    have := edA_le (look G.edges) G.N G.N
    have : G.N * G.N ≤ 48 * 48 := Nat.mul_le_mul n48 n48
    omega
  obtain ⟨a1, a2, a3, _⟩ := lines_at (G := G) (by omega) (by omega) hlen sml
  have ee : edgesB (sortE G.edges) G.edges.length = nB G.edges.length ++ catE (sortE G.edges) := by
    have := edgesB_eq (sortE G.edges); rw [hlen] at this; exact this
  obtain ⟨A, B, b4, hA⟩ : ∃ A B : ByteArray, bytesB G = A ++ (catE (sortE G.edges) ++ B) ∧ A.size = 10 + (nB (edgesB (sortE G.edges) G.edges.length).size).size + (nB G.edges.length).size := by
    have s1 : (nB G.N).size = 1 := by rw [nB_one (by omega), nums_size]; rfl
    have f1 : frameB (nB G.N) = nB 1 ++ (nB G.N ++ sumB (nB G.N)) := by rw [frameB, s1, ByteArray.append_assoc]; rfl
    have f2 : frameB (edgesB (sortE G.edges) G.edges.length) = nB (edgesB (sortE G.edges) G.edges.length).size ++ (edgesB (sortE G.edges) G.edges.length ++ sumB (edgesB (sortE G.edges) G.edges.length)) := by rw [frameB, ByteArray.append_assoc]; rfl
    have n1 : (nB 1).size = 1 := by rw [nB_one (by omega), nums_size]; rfl
    have c4 : (⟨#[72, 68, 84, 49]⟩ : ByteArray).size = 4 := rfl
    have pz : (⟨#[72, 68, 84, 49]⟩ ++ frameB (nB G.N) : ByteArray).size = 10 := by
      rw [f1, ByteArray.size_append, ByteArray.size_append, ByteArray.size_append, sumB_size, s1, n1, c4]
    refine ⟨⟨#[72, 68, 84, 49]⟩ ++ frameB (nB G.N) ++ nB (edgesB (sortE G.edges) G.edges.length).size ++ nB G.edges.length, sumB (edgesB (sortE G.edges) G.edges.length) ++ frameB (toursB G G.tours.length), ?_, ?_⟩
    · have b2 : bytesB G = (⟨#[72, 68, 84, 49]⟩ ++ frameB (nB G.N)) ++ (nB (edgesB (sortE G.edges) G.edges.length).size ++ ((edgesB (sortE G.edges) G.edges.length ++ sumB (edgesB (sortE G.edges) G.edges.length)) ++ frameB (toursB G G.tours.length))) := by
        rw [bytesB, f2]; simp only [ByteArray.append_assoc]
      rw [b2]
      conv => lhs; rw [show edgesB (sortE G.edges) G.edges.length ++ sumB (edgesB (sortE G.edges) G.edges.length) = (nB G.edges.length ++ catE (sortE G.edges)) ++ sumB (edgesB (sortE G.edges) G.edges.length) from by rw [← ee]]
      simp only [ByteArray.append_assoc]
    · rw [ByteArray.size_append, ByteArray.size_append, pz]
  have q1 := nB_pos (edgesB (sortE G.edges) G.edges.length).size
  have q2 := nB_pos G.edges.length
  refine ⟨_, _, _, ⟨a1, a2, by rw [List.length_map, hlen]; exact a3, fun m hm => ?_, ?_, by omega, by omega, by rw [List.length_map, hlen]; omega, bytesB_size hI, fun m hm => ?_⟩⟩
  · rw [List.length_map] at hm
    have sp : sortE G.edges = (sortE G.edges).take m ++ ((sortE G.edges)[m] :: (sortE G.edges).drop (m + 1)) := by rw [List.getElem_cons_drop, List.take_append_drop]
    have es : bytesB G = (A ++ catE ((sortE G.edges).take m)) ++ (edgeB (sortE G.edges)[m] ++ (catE ((sortE G.edges).drop (m + 1)) ++ B)) := by
      rw [b4]
      conv => lhs; rw [sp, catE_app, catE_cons]
      rw [ByteArray.append_assoc, ByteArray.append_assoc, ByteArray.append_assoc]
    have e2 : ((sortE G.edges).map lineE)[m]?.getD (0, 0, 0) = lineE (sortE G.edges)[m] := by
      rw [List.getElem?_map, List.getElem?_eq_getElem hm]; rfl
    rw [e2, es]
    exact nxt3_parts (hs _ (List.getElem_mem hm)) (by rw [ByteArray.size_append, catE_size (fun x hx => hs x (List.mem_of_mem_take hx)), List.length_take, Nat.min_eq_left (by omega), hA])
  · rw [b4, ByteArray.size_append, ByteArray.size_append, catE_size hs, hA, List.length_map]; omega
  · rw [List.length_map] at hm
    have e2 : ((sortE G.edges).map lineE)[m]?.getD (0, 0, 0) = lineE (sortE G.edges)[m] := by
      rw [List.getElem?_map, List.getElem?_eq_getElem hm]; rfl
    have b := hI.ed _ ((sortE_mem _ _).1 (List.getElem_mem hm))
    rw [e2]
    refine ⟨?_, ?_, ?_⟩
    · show (sortE G.edges)[m].u.toNat < 48
      omega
    · show (sortE G.edges)[m].v.toNat < 48
      omega
    · show 2 * (sortE G.edges)[m].lev.toNat + (if (sortE G.edges)[m].tree then 1 else 0) < 16
      split <;> omega

end Go.Proofs.Ytckallochdegiab
