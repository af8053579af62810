import Derived.Test.YtckallochdegiaaGreatIxH
import Derived.Test.YtckallochdegiaaGreatRdA
namespace Go.Proofs.YtckallochdegiaaGreat
set_option linter.unusedVariables false
set_option linter.unusedSimpArgs false
open Go.RowKit

theorem readF_err {s : ByteArray} (h : (readF s).2 = none) : (readF s).1 ≠ 0 := by
  unfold readF at h ⊢
  split
  · simp
  rename_i c0
  rw [if_neg c0] at h
  split
  · simp
  rename_i c1
  rw [if_neg c1] at h
  cases hp : partsF (s.extract 4 s.size) with
  | none => simp
  | some l =>
    rw [hp] at h
    simp only at h ⊢
    cases hn : numbersF (l[0]?.getD ⟨#[]⟩) with
    | none => simp
    | some ns =>
      rw [hn] at h
      cases hm : numbersF (l[1]?.getD ⟨#[]⟩) with
      | none => simp
      | some ms =>
        rw [hm] at h
        simp only at h ⊢
        split
        · rename_i c2
          rw [if_pos c2] at h
          cases he : recF (ns[0]?.getD 0) (-1) (ms.drop 1) with
          | none => simp
          | some es =>
            rw [he] at h
            simp only at h ⊢
            cases ht : numbersF (l[2]?.getD ⟨#[]⟩) with
            | none => simp
            | some t =>
              rw [ht] at h
              simp only at h ⊢
              cases hT : toursF (ns[0]?.getD 0) es t with
              | none => simp
              | some T =>
                rw [hT] at h
                simp only at h ⊢
                split
                · rename_i c3
                  rw [if_pos c3] at h
                  simp at h
                · simp
        · simp
theorem readF_ok {s : ByteArray} {G : Gr} (h : (readF s).2 = some G) : (readF s).1 = 0 ∧ GI G ∧ NS G ∧ bytesB G = s := by
  have := readF_good (s := s) (n := (readF s).1) (G := G) (by rw [← h])
  exact ⟨this.1, this.2.1, this.2.2.1, this.2.2.2.1⟩
/-- What Load answers. -/
def LoadR (s : ByteArray) (w : World) (e : Ending) (w' : World) : Prop := ∃ p : Option Addr, e = .returned (.tuple #[.pointer p, .int .i64 ((readF s).1 : Int)]) ∧ Below w.heap.size w w' ∧ ((readF s).2 = none → p = none) ∧ ∀ G, (readF s).2 = some G → ∃ b, p = some ⟨b, 0, none⟩ ∧ w.heap.size ≤ b ∧ IdxG w' b G 0
/-- That it answers so. -/
def LoadC : Prop := ∀ (w : World) (s : ByteArray) (k : Int), s.size ≤ 2 ^ 40 → Calls Tryz.prog 27 #[.string s, .int .i64 k] w (LoadR s w)

end Go.Proofs.YtckallochdegiaaGreat
