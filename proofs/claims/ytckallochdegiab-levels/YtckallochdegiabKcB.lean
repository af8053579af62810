import Derived.Test.YtckallochdegiabKcA
namespace Go.Proofs.Ytckallochdegiab
set_option linter.unusedVariables false
set_option linter.unusedSimpArgs false
open Go.RowKit

/-- Rows of edges. -/
structure Mat (w : World) (eb : Nat) (er : Nat → Nat) (n : Nat) (E : Nat → Nat → Bool) : Prop where
  re : ∀ u, u < n → w.cell? ⟨eb, u, none⟩ = some (.slice (some ⟨er u, 0, none⟩) n n)
  ce : ∀ u, u < n → w.rowIs (er u) 4 n (fun v => .bool (E u v))
theorem Mat.below {w w' : World} {eb n : Nat} {er : Nat → Nat} {E : Nat → Nat → Bool} (h : Mat w eb er n E) (k : Below w.heap.size w w') : Mat w' eb er n E :=
  ⟨fun u hu => cell_but (S := fun _ => False) (h.re u hu) (But.of k) (fun q => q), fun u hu => row_but (S := fun _ => False) (h.ce u hu) (But.of k) (fun q => q)⟩
theorem Core.mat {w : World} {g : Gh} {W n : Nat} {E : Nat → Nat → Bool} (h : Core w g W n E) : Mat w g.eb g.er n E := ⟨h.re, h.ce⟩

def rdB (w : World) (q y : Nat) : Bool := match w.cell? ⟨q, y, none⟩ with
  | some (.bool b) => b
  | _ => false
def lenV : Value → Nat
  | .slice _ n _ => n
  | _ => 0
theorem rdB_row {w : World} {q n y : Nat} {r : Nat → Bool} (h : w.rowIs q 4 n (fun y => .bool (r y))) (hy : y < n) : rdB w q y = r y := by rw [rdB, h.cell hy]
theorem rdB_cnt {w : World} {q n : Nat} {r : Nat → Bool} (h : w.rowIs q 4 n (fun y => .bool (r y))) : cnt (rdB w q) n = cnt r n := cnt_congr n (fun _ hy => rdB_row h hy)

def set1 (r : Nat → Bool) (k : Nat) : Nat → Bool := fun y => if y = k then true else r y
theorem set1_row {w : World} {q n : Nat} {r : Nat → Bool} (h : w.rowIs q 4 n (fun y => .bool (r y))) (k : Nat) : (w.setCell ⟨q, k, none⟩ (.bool true)).rowIs q 4 n (fun y => .bool (set1 r k y)) := by
  refine (h.set k (.bool true)).congr (fun y _ => ?_)
  by_cases f : y = k <;> simp [f, set1]
theorem set1_at (r : Nat → Bool) (k : Nat) : set1 r k k = true := by simp [set1]
theorem set1_old {r : Nat → Bool} {y : Nat} (k : Nat) (h : r y = true) : set1 r k y = true := by simp [set1, h]
theorem set1_cnt {r : Nat → Bool} {n k : Nat} (hk : k < n) (h : r k = false) : cnt r n < cnt (set1 r k) n := cnt_lt n (fun _ _ q => set1_old k q) hk h (set1_at r k)
theorem set1_inv {r : Nat → Bool} {k y : Nat} (h : set1 r k y = true) : y = k ∨ r y = true := by
  by_cases f : y = k
  · exact Or.inl f
  · simp [set1, f] at h; exact Or.inr h

/-- In the midst of a search from v: who has been seen, who is to be looked at. -/
structure RS (w wr : World) (n : Nat) (E : Nat → Nat → Bool) (v : Nat) (nx : Value) (r : Nat → Bool) (s : List Nat) : Prop where
  row : wr.rowIs w.heap.size 4 n (fun y => .bool (r y))
  st : wr.ownsRow (w.heap.size + 1) 3 1 nx s.length (s.map fun n : Nat => .int .i64 n)
  bel : Below w.heap.size w wr
  rv : r v = true
  snd : ∀ y, y < n → r y = true → RE n E v y
  mem : ∀ x, x ∈ s → x < n ∧ r x = true
  len : s.length ≤ cnt r n

/-- All edges of x have been looked at. -/
def Dn (n : Nat) (E : Nat → Nat → Bool) (r : Nat → Bool) (x : Nat) : Prop := ∀ y, y < n → E x y = true → r y = true

section
variable {w wr w3 : World} {n v k : Nat} {E : Nat → Nat → Bool} {nx nx' : Value} {r : Nat → Bool} {s : List Nat}
theorem RS.form (h : RS w wr n E v nx r s) (h0 : 0 < s.length) : ∃ g cap, nx = .slice (some ⟨g, 0, none⟩) s.length cap ∧ s.length ≤ cap ∧ cap ≤ maxLen := by
  obtain ⟨g, cap, h1, _, _, h2, h3, _⟩ := owns_row h.st h0
  exact ⟨g, cap, h1, h2, h3⟩

/-- One more has been seen. -/
theorem RS.more (h : RS w wr n E v nx r s) (hk : k < n) (hr : r k = false) (hre : RE n E v k)
    (ho : w3.ownsRow (w.heap.size + 1) 3 1 nx' (s.length + 1) ((s.map fun n : Nat => .int .i64 n) ++ [.int .i64 k])) {o : Obj} (hg : ((wr.setCell ⟨w.heap.size, k, none⟩ (.bool true)).alloc o).grownBy w3 nx.ownBlock) :
    RS w w3 n E v nx' (set1 r k) (s ++ [k]) := by
  have r1 := (set1_row h.row k).alloc o
  have lt := h.row.lt
  have hc := set1_cnt hk hr
  refine ⟨r1.of_block (hg.block _ r1.lt (fun q => ?_)), ?_, ?_, set1_old k h.rv, fun y hy q => ?_, fun x hx => ?_, ?_⟩
  · have := (h.st.lt _ q.symm).1; omega
  · rw [List.length_append, List.map_append]; exact ho
  · refine ((h.bel.setCell (Nat.le_refl _) _).alloc ?_ o).grown hg ?_ (fun j hj => ?_)
    · simp [World.setCell]; omega
    · simp [World.setCell]; omega
    · have := (h.st.lt _ hj).1; omega
  · rcases set1_inv q with rfl | q
    · exact hre
    · exact h.snd y hy q
  · rcases List.mem_append.1 hx with q | q
    · exact ⟨(h.mem x q).1, set1_old k (h.mem x q).2⟩
    · simp only [List.mem_singleton] at q
      subst q
      exact ⟨hk, set1_at r x⟩
  · have := h.len
    rw [List.length_append]; simp only [List.length_cons, List.length_nil]; omega

theorem RS.pop {g cap m u : Nat} (h : RS w wr n E v (.slice (some ⟨g, 0, none⟩) (m + 1) cap) r (s ++ [u])) (hm : s.length = m) : RS w wr n E v (.slice (some ⟨g, 0, none⟩) m cap) r s := by
  have st := h.st
  have ln := h.len
  rw [List.length_append] at st ln
  simp only [List.length_cons, List.length_nil, Nat.zero_add, List.map_append, hm] at st ln
  subst hm
  exact ⟨h.row, ownsRow_pop (by simp) st, h.bel, h.rv, h.snd, fun x hx => h.mem x (List.mem_append_left _ hx), by omega⟩

theorem Dn.more {x : Nat} (h : Dn n E r x) (k : Nat) : Dn n E (set1 r k) x := fun y hy he => set1_old k (h y hy he)

/-- The last of the stack. -/
theorem RS.top {g cap m u : Nat} (h : RS w wr n E v (.slice (some ⟨g, 0, none⟩) (m + 1) cap) r (s ++ [u])) (hm : s.length = m) : wr.cell? ⟨g, m, none⟩ = some (.int .i64 (u : Int)) := by
  have := h.st.cells (g := g) rfl m (.int .i64 u) (by rw [List.map_append, List.getElem?_append_right (by simp; omega)]; simp [hm])
  rw [addr_add, Nat.zero_add] at this
  exact this
end

/-- What reach answers. -/
def ReachR (n : Nat) (E : Nat → Nat → Bool) (v : Nat) (w : World) (e : Ending) (w' : World) : Prop :=
  ∃ r : Nat → Bool, e = .returned (.slice (some ⟨w.heap.size, 0, none⟩) n n) ∧ w'.rowIs w.heap.size 4 n (fun y => .bool (r y)) ∧ (∀ y, y < n → (r y = true ↔ RE n E v y)) ∧ Below w.heap.size w w'

theorem one_at {B : Nat} {w : World} (hB : w.heap.size = B) (x : Value) (t j : Nat) (y : Value) (h : [x][j]? = some y) : (w.alloc (.cells #[x] t)).cell? ((⟨B, 0, none⟩ : Addr).add j) = some y := by
  subst hB
  rw [addr_add, Nat.zero_add, new_cell]
  simpa using h
theorem alloc_get (w : World) (o : Obj) : (w.alloc o).heap[w.heap.size]? = some o := by show (w.heap.push _)[w.heap.size]? = _; simp

theorem start_rs {w : World} {n v : Nat} {E : Nat → Nat → Bool} (hv : v < n) :
    RS w (((w.alloc (.cells (madeCells #[.bool false] n) 4)).setCell ⟨w.heap.size, v, none⟩ (.bool true)).alloc (.cells #[.int .i64 v] 3)) n E v (.slice (some ⟨w.heap.size + 1, 0, none⟩) 1 1) (set1 (fun _ => false) v) [v] := by
  have r0 := World.rowIs_made w (.bool false) n 4
  have r1 := set1_row (r := fun _ => false) r0 v
  have hs : ((w.alloc (.cells (madeCells #[.bool false] n) 4)).setCell ⟨w.heap.size, v, none⟩ (.bool true)).heap.size = w.heap.size + 1 := by simp [World.setCell]
  refine ⟨r1.alloc _, ⟨by simp, Or.inr ⟨w.heap.size + 1, 1, #[.int .i64 v], rfl, Nat.le_refl _, ?_, by simp, by unfold maxLen; omega, by simp, by simp⟩⟩, ?_, set1_at _ _, fun y hy q => ?_, fun x hx => ?_, ?_⟩
  · have := alloc_get ((w.alloc (.cells (madeCells #[.bool false] n) 4)).setCell ⟨w.heap.size, v, none⟩ (.bool true)) (.cells #[.int .i64 v] 3)
    rw [hs] at this; exact this
  · exact (((Below.refl _ _).alloc (Nat.le_refl _) _).setCell (Nat.le_refl _) _).alloc (by rw [hs]; omega) _
  · rcases set1_inv q with rfl | q
    · exact RE.refl
    · simp at q
  · simp only [List.mem_singleton] at hx; subst hx; exact ⟨hv, set1_at _ _⟩
  · have := set1_cnt (r := fun _ => false) hv rfl
    simp only [List.length_cons, List.length_nil]; omega

set_option maxRecDepth 100000 in
set_option maxHeartbeats 2000000 in
/-- reach: who is reached from v. -/
theorem reach_any (w : World) (eb : Nat) (er : Nat → Nat) (n ecap v : Nat) (E : Nat → Nat → Bool) (h : Mat w eb er n E) (hn : n ≤ 48) (hec : n ≤ ecap ∧ ecap ≤ maxLen) (hv : v < n) :
    Calls Try.prog 24 #[.slice (some ⟨eb, 0, none⟩) n ecap, .int .i64 v] w (ReachR n E v w) := by
  obtain ⟨i3, q0, q1, q2, q3⟩ := info_parts Try.info3
  unfold maxLen at hec
  have HM := hid h
  clear h
  have hv' : (v : Int) < (n : Int) := by omega
  have c0 : ∀ o, (w.alloc (.cells (madeCells #[.bool false] n) 4)).frozen? ⟨w.heap.size, o, none⟩ = false := (World.rowIs_made w (.bool false) n 4).frozen
  have c1 : (w.alloc (.cells (madeCells #[.bool false] n) 4)).cell? ⟨w.heap.size, v, none⟩ = some (.bool false) := (World.rowIs_made w (.bool false) n 4).cell hv
  have hmb := run_make_row' (P := Try.prog) 44 4 (.bool false) 1 Try.underlying44 Try.info4 rfl .i64 .i64 n (by omega) (by omega)
  have hS0 := start_rs (w := w) (E := E) hv
  simp only [World.setCell_alloc_new] at hS0
  have HS0 := hid hS0
  clear hS0
  go_enter Try.func24, Try.ntmps24
  go_wp2_with fail
  go_loopw [6] (fun a wr => ∃ (s : List Nat) (r : Nat → Bool) (g m cap : Nat), a = .slice (some ⟨g, 0, none⟩) m cap ∧ s.length = m ∧ m ≤ 48 ∧ m ≤ cap ∧ (cap : Int) ≤ 9223372036854775807 ∧ Hid (RS w wr n E v a r s) ∧ Hid (∀ x, x < n → r x = true → x ∈ s ∨ Dn n E r x)) (fun a wr => 2 * (n - cnt (rdB wr w.heap.size) n) + lenV a)
  case atStart => exact ⟨[v], set1 (fun _ => false) v, w.heap.size + 1, 1, 1, rfl, rfl, by omega, by omega, by omega, HS0, fun x hx q => by
    rcases set1_inv q with rfl | q
    · exact Or.inl (by simp)
    · simp at q⟩
  case round =>
    obtain ⟨s, r, g, m, cap, rfl, hsm, hm, hmc, hcap, hS, hD⟩ := hrel
    clear HS0 c0 c1
    by_cases c : 0 < m
    · obtain ⟨m, rfl⟩ : ∃ k, m = k + 1 := ⟨m - 1, by omega⟩
      obtain ⟨s, u, rfl⟩ : ∃ s' u, s = s' ++ [u] := by
        rcases List.eq_nil_or_concat s with q | ⟨s', u, q⟩
        · rw [q] at hsm; simp at hsm
        · exact ⟨s', u, by rw [q]; simp⟩
      have hsm' : s.length = m := by rw [List.length_append] at hsm; simpa using hsm
      have top := hS.out.top hsm'
      obtain ⟨hu, hru⟩ := hS.out.mem u (by simp)
      have HP := hid (hS.out.pop hsm')
      have HT := hid (HM.out.below hS.out.bel)
      have eu := HT.out.re u hu
      have HRu := hid hru
      have HRm : Hid (cnt (rdB wr w.heap.size) n = cnt r n) := rdB_cnt hS.out.row
      have hRm := cnt_le r n
      have HD : Hid (r u = true ∧ (∀ y, y < 0 → E u y = true → r y = true) ∧ ∀ x, x < n → r x = true → x ∈ s ∨ x = u ∨ Dn n E r x) := ⟨hru, fun y hy => by omega, fun x hx q => by
        rcases hD.out x hx q with q | q
        · rcases List.mem_append.1 q with q | q
          · exact Or.inl q
          · simp only [List.mem_singleton] at q; exact Or.inr (Or.inl q)
        · exact Or.inr (Or.inr q)⟩
      have hu' : (u : Int) < (n : Int) := by omega
      clear hsm hru
      go_wp2_with fail
      clear top eu hD hS
      go_loopw [6, 37] (fun a b wr' => ∃ (s' : List Nat) (r' : Nat → Bool) (g' m' cap' k : Nat), k ≤ n ∧ b = .int .i64 k ∧ a = .slice (some ⟨g', 0, none⟩) m' cap' ∧ s'.length = m' ∧ m' ≤ 48 ∧ m' ≤ cap' ∧ (cap' : Int) ≤ 9223372036854775807 ∧ Hid (RS w wr' n E v a r' s') ∧ Hid (r' u = true ∧ (∀ y, y < k → E u y = true → r' y = true) ∧ ∀ x, x < n → r' x = true → x ∈ s' ∨ x = u ∨ Dn n E r' x) ∧ 2 * (n - cnt r' n) + m' ≤ 2 * (n - cnt r n) + m) (fun _ b _ => n - (intOf b).toNat)
      case atStart => exact ⟨s, r, g, m, cap, 0, by omega, rfl, rfl, hsm', by omega, by omega, hcap, HP, HD, by omega⟩
      case round =>
        clear HP HD HT HRu hsm' hm hmc hcap hRm
        obtain ⟨s', r', g', m', cap', k, hk, rfl, rfl, hsm', hm', hmc', hcap', hS', hD', hmeas⟩ := hrel
        by_cases ck : k < n
        · have ck' : (k : Int) < (n : Int) := by omega
          have HT' := hid (HM.out.below hS'.out.bel)
          have d1 := (HT'.out.ce u hu).cell (i := k) ck
          have d2 := hS'.out.row.cell (i := k) ck
          have d3 := hS'.out.row.frozen
          cases hE : E u k
          · rw [hE] at d1
            have HE := hid hE
            clear hE
            go_wp2
            exact ⟨⟨s', r', g', m', cap', k + 1, by omega, by go_num, rfl, hsm', hm', hmc', hcap', hS', ⟨hD'.out.1, fun y hy he => by
              by_cases q : y = k
              · subst q; rw [HE.out] at he; simp at he
              · exact hD'.out.2.1 y (by omega) he, hD'.out.2.2⟩, hmeas⟩, by simp [intOf]; omega⟩
          · rw [hE] at d1
            have HE := hid hE
            clear hE
            cases hr : r' k
            · rw [hr] at d2
              have HR := hid hr
              clear hr
              have HO := hid (fun o => (owns_set hS'.out.st hS'.out.row (by decide) k (.bool true)).alloc o)
              have HL : Hid (m' + 1 ≤ maxLen) := by show _ ≤ _; unfold maxLen; omega
              have HB : Hid (w.heap.size + 1 ≤ wr.heap.size) := by show _ ≤ _; have := hS'.out.row.lt; omega
              have HSz : Hid ((wr.setCell ⟨w.heap.size, k, none⟩ (.bool true)).heap.size = wr.heap.size) := by show _ = _; simp [World.setCell]
              rw [hsm'] at HO
              have hcl := cnt_le (set1 r' k) n
              have hcs := set1_cnt ck HR.out
              have hsl := (hS'.out.len)
              rw [hsm'] at hsl
              have HC2 : Hid (2 * (n - cnt (set1 r' k) n) + (m' + 1) ≤ 2 * (n - cnt r n) + m ∧ m' + 1 ≤ 48) := ⟨by omega, by omega⟩
              clear hcl hcs hsl
              go_wp2_with (at_builtin; refine wpList_append_own _ rfl (.tmp 53) (.tmp 55) 45 rfl (w.heap.size + 1) 3 i3 _ 1 8 Try.underlying45 q0 q1 q2 q3 rfl (by decide) (.slice (some ⟨g', 0, none⟩) m' cap') m' _ rfl (HO.out _) ⟨wr.heap.size, 0, none⟩ 1 1 [.int .i64 k] rfl rfl (one_at HSz.out _ _) (fun y hy => by simp at hy; subst hy; rfl) HL.out (by omega) (by rw [World.size_alloc, HSz.out]; have := HB.out; omega) ?_; intro v' w3 ho hg _; rw [← hsm'] at ho; have hre : RE n E v k := (hS'.out.snd u hu hD'.out.1).step hu ck HE.out; have HS3 := hid (hS'.out.more ck HR.out hre ho hg); clear hre ho hg)
              obtain ⟨g3, cap3, e3, l3, l4⟩ := HS3.out.form (by simp)
              rw [List.length_append, hsm'] at e3 l3
              simp only [List.length_cons, List.length_nil, Nat.zero_add] at e3 l3
              unfold maxLen at l4
              exact ⟨⟨s' ++ [k], set1 r' k, g3, m' + 1, cap3, k + 1, by omega, by go_num, by rw [e3], by simp [hsm'], HC2.out.2, l3, by omega, HS3, ⟨set1_old k hD'.out.1, fun y hy he => by
                by_cases q : y = k
                · subst q; exact set1_at _ _
                · exact set1_old k (hD'.out.2.1 y (by omega) he), fun x hx q => by
                rcases set1_inv q with rfl | q
                · exact Or.inl (by simp)
                · rcases hD'.out.2.2 x hx q with q | q | q
                  · exact Or.inl (by simp [q])
                  · exact Or.inr (Or.inl q)
                  · exact Or.inr (Or.inr (q.more k))⟩, HC2.out.1⟩, by simp [intOf]; omega⟩
            · rw [hr] at d2
              have HR := hid hr
              clear hr
              go_wp2
              exact ⟨⟨s', r', g', m', cap', k + 1, by omega, by go_num, rfl, hsm', hm', hmc', hcap', hS', ⟨hD'.out.1, fun y hy he => by
                by_cases q : y = k
                · subst q; exact HR.out
                · exact hD'.out.2.1 y (by omega) he, hD'.out.2.2⟩, hmeas⟩, by simp [intOf]; omega⟩
        · have hke : k = n := by omega
          have HD2 : Hid (∀ x, x < n → r' x = true → x ∈ s' ∨ Dn n E r' x) := by
            intro x hx q
            rcases hD'.out.2.2 x hx q with q | rfl | q
            · exact Or.inl q
            · exact Or.inr (fun y hy he => hD'.out.2.1 y (by omega) he)
            · exact Or.inr q
          have hm0 : 2 * (n - cnt (rdB wr w.heap.size) n) + m' < 2 * (n - cnt r n) + (m + 1) := by rw [rdB_cnt hS'.out.row]; omega
          have HM0 := hid hm0
          clear hke hm0
          go_wp2
          exact ⟨⟨s', r', g', m', cap', by trivial, hsm', hm', hmc', hcap', hS', HD2⟩, by show _ < _; simp only [lenV]; rw [HRm.out]; exact HM0.out⟩
    · have HA : Hid (∀ y, y < n → (r y = true ↔ RE n E v y)) := by
        have hs0 : s = [] := List.eq_nil_of_length_eq_zero (by omega)
        intro y hy
        refine ⟨hS.out.snd y hy, fun q => q r hS.out.rv (fun x z hx hz he hr => ?_)⟩
        rcases hD.out x hx hr with q | q
        · rw [hs0] at q; simp at q
        · exact q z hz he
      have hm0 : m = 0 := by omega
      subst hm0
      go_wp2
      go_ret
      exact ⟨r, rfl, hS.out.row, HA.out, hS.out.bel⟩

end Go.Proofs.Ytckallochdegiab
