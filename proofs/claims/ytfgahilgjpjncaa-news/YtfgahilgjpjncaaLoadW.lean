import Derived.Test.YtfgahilgjpjncaaReadW
import Derived.Test.YtfgahilgjpjncaaLawH
namespace Go.Proofs.Ytfgahilgjpjncaa
set_option linter.unusedVariables false
set_option linter.unusedSimpArgs false
open Go.RowKit

set_option maxRecDepth 100000 in
set_option maxHeartbeats 1000000 in
theorem loaded_any (w : World) (W : Nat) (s : ByteArray) (k : Int) (hs : s.size ≤ 2 ^ 40) : Calls Try.prog 16 #[ptr W, .string s, .int .i64 k] w fun e w' => e = .returned (.bool false) ∧ Below w.heap.size w w' := by
  go_enter Try.func16, Try.ntmps16
  go_wp2_with fail
  refine (Load_any w s k).mono ?_
  rintro _ w' ⟨rfl, hw⟩
  replace hw := hw.symm
  subst hw
  go_wp2_with fail
  refine (Read_any w s hs).mono ?_
  rintro _ w1 ⟨p, f, rfl, hb⟩
  have HB := hid hb
  clear hb
  by_cases c : (0 : Int) = f
  · subst c
    go_wp2
    go_ret
    exact ⟨rfl, HB.out⟩
  · have c' : ((0 : Int) != f) = true := by simpa using c
    go_wp2
    go_ret
    exact ⟨rfl, HB.out⟩

end Go.Proofs.Ytfgahilgjpjncaa
