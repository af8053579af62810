import Derived.Test.YtckallochdegiabLdA
import Derived.Test.YtckallochdegiabSvA
namespace Go.Proofs.Ytckallochdegiab
set_option linter.unusedVariables false
set_option linter.unusedSimpArgs false
open Go.RowKit

set_option maxRecDepth 100000 in
set_option maxHeartbeats 1000000 in
/-- Whatever bytes are accepted are saved just so. -/
theorem strict_any (hLd : LoadC) (w : World) (s : ByteArray) (hs : s.size ≤ 2 ^ 40) : Calls Try.prog 18 #[.string s] w fun e w' => e = .returned (.bool true) ∧ Below w.heap.size w w' := by
  have HLd := hid (hLd w s 5 hs)
  clear hLd
  go_enter Try.func18, Try.ntmps18
  go_wp2_with fail
  refine HLd.out.mono ?_
  rintro _ w1 ⟨p, rfl, hb1, hp0, hp1⟩
  have HB1 := hid hb1
  clear HLd hb1
  cases hrd : (readF s).2 with
  | none =>
    have e1 := hp0 hrd
    have hne := readF_err hrd
    subst e1
    generalize (readF s).1 = er at hne
    have e0 : ((er : Int) != 0) = true := by simp; omega
    clear hp0 hp1 hrd hne
    go_wp2
    go_ret
    exact ⟨rfl, HB1.out⟩
  | some G =>
    obtain ⟨x, hx1, hx2, hx3⟩ := hp1 G hrd
    obtain ⟨hz, hI, hN, hby⟩ := readF_ok hrd
    subst hx1
    rw [hz]
    have HS := hid (Save_any w1 x G 0 hx3 hI)
    have HBy := hid hby
    clear hp0 hp1 hrd hI hN hby hx2 hx3 hz
    go_wp2_with fail
    refine HS.out.mono ?_
    rintro _ w2 ⟨rfl, hb2⟩
    rw [HBy.out]
    have HB2 : Hid (Below w.heap.size w w2) := HB1.out.trans (hb2.mono HB1.out.size)
    clear hb2
    go_wp2
    go_ret
    exact ⟨rfl, HB2.out⟩

end Go.Proofs.Ytckallochdegiab
