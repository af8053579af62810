import Derived.Test.YtgponhhaopmlbaaSum
namespace Go.Proofs.Ytgponhhaopmlbaa
set_option linter.unusedVariables false
set_option linter.unusedSimpArgs false
open Go.RowKit

def strLen : Value → Nat
  | .string s => s.size
  | _ => 0

/-- The numbers l lie in a row of one's own. -/
def NumsAt (w : World) (B : Nat) (v : Value) (l : List Nat) : Prop := w.ownsRow B 3 1 v l.length (l.map fun n : Nat => .int .i64 n) ∧ ∀ n, n ∈ l → n < 2 ^ 28

/-- What numbers answers. -/
def NumsR (s : ByteArray) (w : World) (e : Ending) (w' : World) : Prop := ∃ (v : Value) (ok : Bool), e = .returned (.tuple #[v, .bool ok]) ∧ ((ok = false ∧ v = .slice none 0 0) ∨ (ok = true ∧ ∃ l, NumsAt w' w.heap.size v l ∧ l.length ≤ s.size)) ∧ Below w.heap.size w w'

theorem Try.info3 : (Try.prog.info? 3).map (fun i => (i.zero, i.size, i.bytes)) = some (some (.int .i64 0), 1, 8) := by kernel_rfl
theorem Try.info9 : (Try.prog.info? 9).map (fun i => (i.zero, i.size, i.bytes)) = some (some (.string ⟨#[]⟩), 1, 16) := by kernel_rfl

set_option maxRecDepth 100000 in
set_option maxHeartbeats 2000000 in
theorem numbers_any (w : World) (s : ByteArray) (hs : s.size ≤ 2 ^ 40) : Calls Try.prog 55 #[.string s] w (NumsR s w) := by
  obtain ⟨i3, q0, q1, q2, q3⟩ := info_parts Try.info3
  go_enter Try.func55, Try.ntmps55
  go_wp2_with fail
  go_loopw [0, 4] (fun a b wr => ∃ (t : ByteArray) (l : List Nat), a = .string t ∧ t.size + l.length ≤ s.size ∧ Hid (NumsAt wr w.heap.size b l) ∧ Hid (Below w.heap.size w wr)) (fun a _ _ => strLen a)
  case atStart => exact ⟨s, [], rfl, by simp, ⟨World.ownsRow_nil _ _ _ _, fun n hn => by simp at hn⟩, Below.refl _ _⟩
  case round =>
    obtain ⟨t, l, rfl, hl, hN, hB⟩ := hrel
    have hsz := hB.out.size
    by_cases c : 0 < t.size
    · have c' : (0 : Int) < (t.size : Int) := by omega
      go_wp2_with fail
      refine (first_any _ t (by omega)).mono ?_
      rintro e w1 ⟨n, r, ok, rfl, hn, hr, hb⟩
      have HB1 : Hid (Below w.heap.size w w1) := hB.out.trans (hb.mono hsz)
      have HN1 : Hid (NumsAt w1 w.heap.size u4 l) := ⟨owns_below hN.out.1 hb (Nat.le_refl _), hN.out.2⟩
      have hsz1 := HB1.out.size
      clear hb
      cases ok
      · go_wp2
        go_ret2
        exact ⟨_, false, rfl, Or.inl ⟨rfl, rfl⟩, HB1.out⟩
      · have hr' := hr rfl
        have HM : Hid (l.length + 1 ≤ maxLen) := by show _ ≤ _; unfold maxLen; omega
        clear hr
        go_wp2_with (at_builtin; refine wpList_append_own _ rfl (.tmp 19) (.tmp 21) 45 rfl w.heap.size 3 i3 _ 1 8 Try.underlying45 q0 q1 q2 q3 rfl (by decide) _ l.length _ rfl (HN1.out.1.alloc _) ⟨w1.heap.size, 0, none⟩ 1 1 [.int .i64 n] rfl rfl (one_cell w1 _ _) (fun y hy => by simp at hy; subst hy; rfl) HM.out (by omega) (by simp; omega) ?_; intro v' w3 ho hg _)
        have R1 : NumsAt w3 w.heap.size v' (l ++ [n]) := by
          refine ⟨by rw [List.length_append, List.map_append]; exact ho, fun m hm => ?_⟩
          rcases List.mem_append.1 hm with q | q
          · exact HN1.out.2 m q
          · simp at q; subst q; exact hn
        have R2 : Below w.heap.size w w3 := (HB1.out.alloc hsz1 _).grown hg (by simp; omega) (fun k hk => (HN1.out.1.lt k hk).1)
        exact ⟨⟨r, l ++ [n], by trivial, by rw [List.length_append]; simp; omega, R1, R2⟩, by show r.size < t.size; omega⟩
    · have c' : ¬ (0 : Int) < (t.size : Int) := by omega
      go_wp2
      go_ret2
      exact ⟨_, true, rfl, Or.inr ⟨rfl, l, hN.out, by omega⟩, hB.out⟩

theorem NumsAt.at_ {w : World} {B : Nat} {v : Value} {l : List Nat} (h : NumsAt w B v l) (hl : 0 < l.length) : ∃ g c, v = .slice (some ⟨g, 0, none⟩) l.length c ∧ g < w.heap.size ∧ B ≤ g ∧ l.length ≤ c ∧ c ≤ maxLen ∧ TyAt w g 3 ∧ ∀ j, j < l.length → w.cell? ⟨g, j, none⟩ = some (.int .i64 ((l[j]?.getD 0 : Nat) : Int)) := by
  rcases h.1.2 with ⟨_, h2⟩ | ⟨g, cap, cur, h1, hB, h3, h4, h5, _, h7⟩
  · omega
  · refine ⟨g, cap, h1, (Array.getElem?_eq_some_iff.1 h3).1, hB, h4, h5, ⟨cur, h3⟩, fun j hj => ?_⟩
    have := h.1.cells (g := g) (by rw [h1]; rfl) j (.int .i64 ((l[j]?.getD 0 : Nat) : Int)) (by rw [List.getElem?_map, List.getElem?_eq_getElem hj]; rfl)
    rw [addr_add, Nat.zero_add] at this
    exact this

end Go.Proofs.Ytgponhhaopmlbaa
