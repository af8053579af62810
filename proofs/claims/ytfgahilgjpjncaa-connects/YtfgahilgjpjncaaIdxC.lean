import Derived.Test.YtfgahilgjpjncaaIdx
namespace Go.Proofs.Ytfgahilgjpjncaa
set_option linter.unusedVariables false
set_option linter.unusedSimpArgs false
open Go.RowKit

def zB : Array Value := (List.replicate 48 (Value.bool false)).toArray
theorem zeroB (w : World) : Sem.run Try.prog (zeroValue 83) w = .ok (.agg zB) w := by kernel_rfl
theorem zB_size : zB.size = 48 := by simp [zB, -List.reduceReplicate]
theorem zB_ne : ¬ zB = #[] := by intro h; have := congrArg Array.size h; rw [zB_size] at this; simp at this
theorem zB_get (k : Nat) (h : k < 48) : zB[k]? = some (Value.bool false) := by
  simp [zB, h, -List.reduceReplicate]

/-- The search, k of those found looked at, m of the next one's. -/
structure CI (n : Nat) (E : Nat → Nat → Bool) (v : Nat) (l : List Nat) (k m : Nat) (s : Nat → Bool) : Prop where
  vin : v ∈ l
  nd : l.Nodup
  lt : ∀ x, x ∈ l → x < n
  se : ∀ x, x < 48 → (s x = true ↔ x ∈ l)
  cl : ∀ j, j < k → ∀ y, y < n → E (l[j]?.getD 0) y = true → y ∈ l
  pc : ∀ y, y < m → E (l[k]?.getD 0) y = true → y ∈ l
  so : ∀ S : Nat → Bool, S v = true → (∀ x y, x < n → y < n → E x y = true → S x = true → S y = true) → ∀ x, x ∈ l → S x = true

section
variable {n : Nat} {E : Nat → Nat → Bool} {v : Nat} {l : List Nat} {k m : Nat} {s : Nat → Bool}
theorem CI.start (hv : v < n) : CI n E v [v] 0 0 (fun x => decide (x = v)) := by
  refine ⟨by simp, by simp, fun x hx => ?_, fun x _ => by simp, fun j hj => by omega, fun y hy => by omega, fun S h1 _ x hx => ?_⟩
  · simp at hx; omega
  · simp at hx; subst hx; exact h1
theorem CI.skip (h : CI n E v l k m s) (hm : m < 48) (c : E (l[k]?.getD 0) m = false ∨ s m = true) : CI n E v l k (m + 1) s := by
  refine ⟨h.vin, h.nd, h.lt, h.se, h.cl, fun y hy hE => ?_, h.so⟩
  by_cases e : y = m
  · subst e
    rcases c with c | c
    · rw [c] at hE; simp at hE
    · exact (h.se y hm).1 c
  · exact h.pc y (by omega) hE
theorem CI.add (h : CI n E v l k m s) (hk : k < l.length) (hmn : m < n) (hn : n ≤ 48) (hE : E (l[k]?.getD 0) m = true) (hs : s m = false) : CI n E v (l ++ [m]) k (m + 1) (fun x => if x = m then true else s x) := by
  have hno : m ∉ l := fun q => by rw [(h.se m (by omega)).2 q] at hs; simp at hs
  have get : ∀ j, j < l.length → (l ++ [m])[j]?.getD 0 = l[j]?.getD 0 := fun j hj => by rw [List.getElem?_append_left hj]
  refine ⟨List.mem_append_left _ h.vin, ?_, fun x hx => ?_, fun x hx => ?_, fun j hj y hy q => ?_, fun y hy q => ?_, fun S h1 h2 x hx => ?_⟩
  · rw [List.nodup_append]
    refine ⟨h.nd, by simp, fun a ha b hb e => ?_⟩
    simp at hb; subst hb; subst e; exact hno ha
  · rcases List.mem_append.1 hx with q | q
    · exact h.lt x q
    · simp at q; omega
  · rw [List.mem_append, ← h.se x hx]
    by_cases e : x = m
    · simp [e]
    · simp [e]
  · rw [get j (by omega)] at q; exact List.mem_append_left _ (h.cl j hj y hy q)
  · rw [get k hk] at q
    by_cases e : y = m
    · subst e; simp
    · exact List.mem_append_left _ (h.pc y (by omega) q)
  · rcases List.mem_append.1 hx with q | q
    · exact h.so S h1 h2 x q
    · simp at q; subst q
      have hin : l[k]?.getD 0 ∈ l := by rw [get_eq hk]; exact List.getElem_mem hk
      exact h2 _ x (h.lt _ hin) hmn hE (h.so S h1 h2 _ hin)
theorem CI.next (h : CI n E v l k n s) : CI n E v l (k + 1) 0 s := by
  refine ⟨h.vin, h.nd, h.lt, h.se, fun j hj y hy q => ?_, fun y hy => by omega, h.so⟩
  by_cases e : j = k
  · subst e; exact h.pc y hy q
  · exact h.cl j (by omega) y hy q
theorem CI.done (h : CI n E v l k 0 s) (hk : l.length ≤ k) : CompL n E v l := by
  refine ⟨h.vin, h.nd, h.lt, fun x hx y hy q => ?_, h.so⟩
  obtain ⟨j, hj, rfl⟩ := List.mem_iff_getElem.1 hx
  exact h.cl j (by omega) y hy (by rw [get_eq hj]; exact q)
theorem CI.len (h : CI n E v l k m s) : l.length ≤ n := by
  rw [nodup_cnt n l h.nd h.lt]; exact cnt_le _ _
end

/-- What the search has laid: who was seen, who was found. -/
structure SI (w0 w : World) (a : Value) (l : List Nat) (s : Nat → Bool) : Prop where
  row : w.rowIs w0.heap.size 83 48 (fun x => .bool (s x))
  num : NumsAt w (w0.heap.size + 1) a l
  bel : Below w0.heap.size w0 w

theorem SI.at_ {w0 w : World} {a : Value} {l : List Nat} {s : Nat → Bool} (h : SI w0 w a l s) (hl : 0 < l.length) : ∃ g c, a = .slice (some ⟨g, 0, none⟩) l.length c ∧ g < w.heap.size ∧ l.length ≤ c ∧ c ≤ maxLen ∧ ∀ j, j < l.length → w.cell? ⟨g, j, none⟩ = some (.int .i64 ((l[j]?.getD 0 : Nat) : Int)) := by
  rcases h.num.1.2 with ⟨_, h2⟩ | ⟨g, cap, cur, h1, _, h3, h4, h5, _, h7⟩
  · omega
  · refine ⟨g, cap, h1, (Array.getElem?_eq_some_iff.1 h3).1, h4, h5, fun j hj => ?_⟩
    have := h.num.1.cells (g := g) (by rw [h1]; rfl) j (.int .i64 ((l[j]?.getD 0 : Nat) : Int)) (by rw [List.getElem?_map, List.getElem?_eq_getElem hj]; rfl)
    rw [addr_add, Nat.zero_add] at this
    exact this

theorem SI.start (w : World) (v : Nat) (hv : v < 48) : SI w ((w.alloc (.cells (zB.setIfInBounds v (.bool true)) 83)).alloc (.cells #[.int .i64 v] 3)) (.slice (some ⟨w.heap.size + 1, 0, none⟩) 1 1) [v] (fun x => decide (x = v)) := by
  refine ⟨?_, ⟨?_, fun n hn => by simp at hn; omega⟩, ((Below.refl _ _).alloc (Nat.le_refl _) _).alloc (by simp) _⟩
  · have h := World.rowIs_alloc w (zB.setIfInBounds v (.bool true)) 83 (fun x => .bool (decide (x = v))) ?_
    · rw [Array.size_setIfInBounds, zB_size] at h; exact h.alloc _
    · intro i hi
      rw [Array.size_setIfInBounds, zB_size] at hi
      rw [Array.getElem?_setIfInBounds]
      by_cases e : v = i
      · subst e; simp [zB_size, hi]
      · rw [if_neg e, zB_get i hi]; simp [show ¬ i = v from fun q => e q.symm]
  · have := World.ownsRow_lit (base := w.heap.size + 1) (e := 3) (size := 1) (w.alloc (.cells (zB.setIfInBounds v (.bool true)) 83)) #[.int .i64 v] 1 (by simp) (by unfold maxLen; omega) rfl
    simpa using this

/-- What component answers. -/
def CompR (n : Nat) (E : Nat → Nat → Bool) (v : Nat) (w : World) (e : Ending) (w' : World) : Prop := ∃ vl l, e = .returned vl ∧ NumsAt w' w.heap.size vl l ∧ CompL n E v l ∧ Below w.heap.size w w'

theorem owns_le {w : World} {B C e size n : Nat} {v : Value} {xs : List Value} (h : w.ownsRow B e size v n xs) (hC : C ≤ B) : w.ownsRow C e size v n xs := by
  refine ⟨h.1, ?_⟩
  rcases h.2 with k | ⟨g, cap, cur, hv, hB, hg, hle⟩
  · exact Or.inl k
  · exact Or.inr ⟨g, cap, cur, hv, by omega, hg, hle⟩

set_option maxRecDepth 100000 in
set_option maxHeartbeats 2000000 in
theorem component_any (w : World) (b n : Nat) (E : Nat → Nat → Bool) (v : Nat) (h : IdxAt w b n E) (hv : v < n) : Calls Try.prog 61 #[ptr b, .int .i64 v] w (CompR n E v w) := by
  have n48 := h.n1
  have v48 : (v : Int) < 48 := by omega
  have HI := hid h
  have hz := zeroB
  have hz1 := zB_ne
  have hc0 : (w.alloc (.cells zB 83)).cell? ⟨w.heap.size, v, none⟩ = some (.bool false) := by rw [new_cell]; exact zB_get v (by omega)
  clear h
  obtain ⟨i3, q0, q1, q2, q3⟩ := info_parts Try.info3
  go_enter Try.func61, Try.ntmps61
  go_wp2_with fail
  go_loopw [6, 7] (fun a c wr => ∃ (k : Nat) (l : List Nat) (s : Nat → Bool), c = .int .i64 k ∧ 0 < l.length ∧ k ≤ l.length ∧ Hid (CI n E v l k 0 s) ∧ Hid (SI w wr a l s)) (fun _ c _ => 48 - (intOf c).toNat)
  case atStart => exact ⟨0, [v], _, rfl, by simp, by omega, CI.start hv, SI.start w v (by omega)⟩
  case round =>
    obtain ⟨k, l, s, rfl, hl, hk, hC, hS⟩ := hrel
    have ln := hC.out.len
    obtain ⟨g, c, ha, hgl, hlc, hcm, hcells⟩ := hS.out.at_ hl
    subst ha
    unfold maxLen at hcm
    by_cases ck : k < l.length
    · have ck' : (k : Int) < (l.length : Int) := by omega
      have d := hcells k ck
      have hu : l[k]?.getD 0 < n := hC.out.lt _ (by rw [get_eq ck]; exact List.getElem_mem ck)
      obtain ⟨u, hue⟩ : ∃ u, u = l[k]?.getD 0 := ⟨_, rfl⟩
      rw [← hue] at d hu
      have HU := hid hue
      have HCk := hid ck
      have HGl := hid hl
      have HS0 : Hid (∃ l2 s2, 0 < l2.length ∧ k < l2.length ∧ u = l2[k]?.getD 0 ∧ CI n E v l2 k 0 s2 ∧ SI w wr (.slice (some ⟨g, 0, none⟩) l.length c) l2 s2) := ⟨l, s, hl, ck, hue, hC.out, hS.out⟩
      clear hcells hue hC hS
      go_wp2_with fail
      clear d
      go_loopw [6, 9] (fun a c wr => ∃ m : Nat, m ≤ n ∧ c = .int .i64 m ∧ Hid (∃ l2 s2, 0 < l2.length ∧ k < l2.length ∧ u = l2[k]?.getD 0 ∧ CI n E v l2 k m s2 ∧ SI w wr a l2 s2)) (fun _ c _ => n - (intOf c).toNat)
      case atStart => exact ⟨0, by omega, rfl, HS0⟩
      case round =>
        clear HS0 HU HCk HGl hl hk ln hlc hcm ck ck' hgl
        obtain ⟨m, hm, rfl, hX⟩ := hrel
        obtain ⟨l2, s2, x1, x2, x3, x4, x5⟩ := hX.out
        have ln2 := x4.len
        have hI := (HI.out.but (S := fun _ => False) (But.of x5.bel) (fun q => q))
        have dn := hI.cn
        by_cases cm : m < n
        · have cm' : (m : Int) < (n : Int) := by omega
          have de := hI.ce u m (by omega) (by omega)
          have ds := x5.row.cell (i := m) (by omega)
          have u48 : (u : Int) < 48 := by omega
          have m48 : (m : Int) < 48 := by omega
          have HX := hid (And.intro x1 (And.intro x2 (And.intro x3 (And.intro x4 x5))))
          have fr := x5.row.frozen
          clear x1 x2 x3 x4 x5 hI hX
          have HSet : Hid ((wr.setCell ⟨w.heap.size, m, none⟩ (.bool true)).heap.size = wr.heap.size) := by show _ = _; simp [World.setCell]
          have hBs := HX.out.2.2.2.2.bel.size
          cases hE : E u m
          · have HE := hid hE
            rw [hE] at de
            clear hE
            go_wp2
            exact ⟨⟨m + 1, by omega, by go_num, ⟨l2, s2, HX.out.1, HX.out.2.1, HX.out.2.2.1, HX.out.2.2.2.1.skip (by omega) (Or.inl (by rw [← HX.out.2.2.1]; exact HE.out)), HX.out.2.2.2.2⟩⟩, by simp [intOf]; omega⟩
          · have HE := hid hE
            rw [hE] at de
            clear hE
            cases hs : s2 m
            · have HSm := hid hs
              rw [hs] at ds
              clear hs
              have HO : Hid ((wr.setCell ⟨w.heap.size, m, none⟩ (.bool true)).ownsRow (w.heap.size + 1) 3 1 u6 l2.length (l2.map fun n : Nat => .int .i64 n)) := owns_set_other HX.out.2.2.2.2.num.1 (rowIs_ty HX.out.2.2.2.2.row) (by decide) _ _
              have HM : Hid (l2.length + 1 ≤ maxLen) := by show _ ≤ _; unfold maxLen; omega
              go_wp2_with (at_builtin; refine wpList_append_own _ rfl (.tmp 48) (.tmp 50) 45 rfl (w.heap.size + 1) 3 i3 _ 1 8 Try.underlying45 q0 q1 q2 q3 rfl (by decide) _ l2.length _ rfl (HO.out.alloc _) ⟨wr.heap.size, 0, none⟩ 1 1 [.int .i64 m] rfl rfl (by have := one_cell (wr.setCell ⟨w.heap.size, m, none⟩ (.bool true)) (.int .i64 m) 3; rw [HSet.out] at this; exact this) (fun y hy => by simp at hy; subst hy; rfl) HM.out (by omega) (by simp [HSet.out]; omega) ?_; intro v' w3 ho hg _)
              have X5 := HX.out.2.2.2.2
              have R1 : SI w w3 v' (l2 ++ [m]) (fun x => if x = m then true else s2 x) := by
                refine ⟨?_, ⟨by rw [List.length_append, List.map_append]; exact ho, fun z hz => ?_⟩, ?_⟩
                · have r1 := (X5.row.set m (.bool true)).alloc (.cells #[.int .i64 m] 3)
                  refine (World.rowIs.of_block r1 (hg.block w.heap.size r1.lt (fun q => ?_))).congr ?_
                  · have := (HO.out.lt w.heap.size q.symm).1; omega
                  · intro i _
                    by_cases e : i = m <;> simp [e]
                · rcases List.mem_append.1 hz with q | q
                  · exact X5.num.2 z q
                  · simp at q; omega
                · exact (((X5.bel.setCell (Nat.le_refl _) _).alloc (by rw [HSet.out]; omega) _).grown hg (by simp [HSet.out]; omega) (fun k hk => by have := (HO.out.lt k hk).1; omega))
              exact ⟨⟨m + 1, by omega, by go_num, ⟨l2 ++ [m], _, by simp, by simp; have := HX.out.2.1; omega, by rw [List.getElem?_append_left HX.out.2.1]; exact HX.out.2.2.1, HX.out.2.2.2.1.add HX.out.2.1 cm n48 (by rw [← HX.out.2.2.1]; exact HE.out) HSm.out, R1⟩⟩, by simp [intOf]; omega⟩
            · have HSm := hid hs
              rw [hs] at ds
              clear hs
              go_wp2
              exact ⟨⟨m + 1, by omega, by go_num, ⟨l2, s2, HX.out.1, HX.out.2.1, HX.out.2.2.1, HX.out.2.2.2.1.skip (by omega) (Or.inr HSm.out), HX.out.2.2.2.2⟩⟩, by simp [intOf]; omega⟩
        · have cm' : ¬ (m : Int) < (n : Int) := by omega
          have HX := hid (And.intro x1 (And.intro x2 (And.intro x3 (And.intro x4 x5))))
          have hkn : k < 48 := by omega
          clear x1 x2 x3 x4 x5 hI
          go_wp2
          have hmn : m = n := by omega
          subst hmn
          exact ⟨⟨k + 1, l2, s2, by go_num, HX.out.1, HX.out.2.1, HX.out.2.2.2.1.next, HX.out.2.2.2.2⟩, by simp [intOf]; omega⟩
    · have ck' : ¬ (k : Int) < (l.length : Int) := by omega
      clear hcells
      go_wp2
      go_ret
      exact ⟨_, l, rfl, ⟨owns_le hS.out.num.1 (by omega), hS.out.num.2⟩, hC.out.done (by omega), hS.out.bel⟩

end Go.Proofs.Ytfgahilgjpjncaa
