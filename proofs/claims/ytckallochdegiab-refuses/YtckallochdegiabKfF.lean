import Derived.Test.YtckallochdegiabKfE
import Derived.Test.YtckallochdegiabKpC
import Derived.Deep.RegionHeld2
namespace Go.Proofs.Ytckallochdegiab
set_option linter.unusedVariables false
set_option linter.unusedSimpArgs false
open Go.RowKit

def s19 : ByteArray := ⟨#[49, 50, 51, 52, 53, 54, 55, 56, 57]⟩
set_option maxRecDepth 100000 in
theorem crc_19 : 4294967295 - crcS s19 s19.size = 3421780262 := by decide +kernel

/-- In the midst: the refusal's row, its lists. -/
structure RfI (w0 wr : World) (lk : Nat) (va vb vc : Value) (r : Rfs) (re : Nat) : Prop where
  c0 : wr.cell? ⟨lk, 0, none⟩ = some va
  c1 : wr.cell? ⟨lk, 1, none⟩ = some vb
  c2 : wr.cell? ⟨lk, 1 + 1, none⟩ = some vc
  c3 : wr.cell? ⟨lk, 1 + 1 + 1, none⟩ = some (.int .i64 re)
  la : LiAt wr va r.a
  lb : LiAt wr vb r.b
  lc : LiAt wr vc r.c
  bel : Below w0.heap.size w0 wr
theorem RfI.below {w0 wr w' : World} {lk : Nat} {va vb vc : Value} {r : Rfs} {re : Nat} (h : RfI w0 wr lk va vb vc r re) (k : Below wr.heap.size wr w') : RfI w0 w' lk va vb vc r re :=
  ⟨cell_but (S := fun _ => False) h.c0 (But.of k) (fun q => q), cell_but (S := fun _ => False) h.c1 (But.of k) (fun q => q), cell_but (S := fun _ => False) h.c2 (But.of k) (fun q => q), cell_but (S := fun _ => False) h.c3 (But.of k) (fun q => q), h.la.below k, h.lb.below k, h.lc.below k, h.bel.trans (k.mono h.bel.size)⟩
theorem klong (n : Nat) (hn : n ≤ 100000) : ∃ (zs : Array Value) (lg : ByteArray), lg.size = n ∧ (∀ W, (Instr.makeSlice 40 (.int .i64 (n : Int)) (.int .i64 (n : Int))).run Try.prog W = .ok (.slice (some ⟨W.heap.size, 0, none⟩) n n) (W.alloc (.cells zs 5))) ∧ ∀ W : World, (convert 40 9 (.slice (some ⟨W.heap.size, 0, none⟩) n n)).run Try.prog (W.alloc (.cells zs 5)) = .ok (.string lg) (W.alloc (.cells zs 5)) := by
  refine ⟨madeCells #[.int .u8 0] n, strOfNums (List.replicate n 0), by rw [nums_size, List.length_replicate], fun W => run_make_row' (P := Try.prog) 40 5 (.int .u8 0) 1 Try.underlying40 Try.info5 rfl .i64 .i64 n (by omega) (by omega) W, fun W => ?_⟩
  refine kconv_at _ _ n _ (List.length_replicate) (fun i hi => ?_)
  rw [(World.rowIs_made W (.int .u8 0) n 5).cell hi]
  simp [List.getD, List.getElem?_replicate, hi]
theorem kfr_size5 (L : List Nat) : 5 ≤ (kfr L).size := by
  rw [kfr, ByteArray.size_append, ByteArray.size_append, nums_size, sumB_size]
  simp only [List.length_cons, List.length_nil]
  omega
theorem load_rf {s : ByteArray} {w w' : World} {e : Ending} {re : Nat} (hr : (readF s).1 = re) (h : LoadR s w e w') : ∃ p, e = .returned (.tuple #[.pointer p, .int .i64 (re : Int)]) ∧ Below w.heap.size w w' ∧ ((re = 0 ∧ ∃ b, p = some ⟨b, 0, none⟩) ∨ (re ≠ 0 ∧ p = none)) := by
  obtain ⟨p, h1, h2, h3, h4⟩ := h
  refine ⟨p, by rw [h1, hr], h2, ?_⟩
  cases hg : (readF s).2 with
  | none => exact Or.inr ⟨by rw [← hr]; exact readF_err hg, h3 hg⟩
  | some G =>
    obtain ⟨b, hb, _⟩ := h4 G hg
    exact Or.inl ⟨by rw [← hr]; exact (readF_ok hg).1, b, hb⟩
theorem kfr_size {L : List Nat} (h : L.length ≤ 100) : (kfr L).size ≤ 105 := by
  rw [kfr, ByteArray.size_append, ByteArray.size_append, kst_size, nums_size, sumB_size]
  simp only [List.length_cons, List.length_nil]
  omega

end Go.Proofs.Ytckallochdegiab
