import Derived.Test.YtckallochdegiabKtS
import Derived.Test.YtckallochdegiabKpC
import Derived.Lib.ConvBytes
namespace Go.Proofs.Ytckallochdegiab
set_option linter.unusedVariables false
set_option linter.unusedSimpArgs false
open Go.RowKit

theorem bytesWorld_below (w : World) (e : TypeId) (s : ByteArray) : Below w.heap.size w (Go.Lib.bytesWorld w e s) :=
  ⟨rfl, rfl, rfl, by rw [Go.Lib.bytesWorld_size]; omega, fun k hk => Go.Lib.bytesWorld_at_old w e s k hk⟩

theorem bytesCells_size (w : World) (e : TypeId) (s : ByteArray) : s.size ≤ (Go.Lib.bytesCells w e s).size := by
  simp [Go.Lib.bytesCells]

theorem bytesWorld_frozen (w : World) (e : TypeId) (s : ByteArray) (j : Nat) (hj : j < s.size) : (Go.Lib.bytesWorld w e s).frozen? ⟨w.heap.size, j, none⟩ = false := by
  have := bytesCells_size w e s
  simp [World.frozen?, Go.Lib.bytesWorld_at_new]
  omega

/-- '[]byte(s)', one byte written, 'string(b)'. -/
theorem bent_conv (w : World) (s : ByteArray) : ∃ (cap : Nat) (wB : World), (convert 9 40 (.string s)).run Try.prog w = .ok (.slice (some ⟨w.heap.size, 0, none⟩) s.size cap) wB ∧ Below w.heap.size w wB ∧
    (∀ j, j < s.size → ∃ b : Nat, b < 256 ∧ wB.cell? ⟨w.heap.size, j, none⟩ = some (.int .u8 (b : Int))) ∧ (∀ j, j < s.size → wB.frozen? ⟨w.heap.size, j, none⟩ = false) ∧
    (∀ k x w2, k < s.size → (∀ j, w2.cell? ⟨w.heap.size, j, none⟩ = (wB.setCell ⟨w.heap.size, k, none⟩ (.int .u8 x)).cell? ⟨w.heap.size, j, none⟩) → ∃ s' : ByteArray, s'.size = s.size ∧ (convert 40 9 (.slice (some ⟨w.heap.size, 0, none⟩) s.size cap)).run Try.prog w2 = .ok (.string s') w2) := by
  have hcell := fun j hj => Go.Lib.bytesWorld_cell w 5 s j hj
  refine ⟨_, _, Go.Lib.run_convert_string_bytes (P := Try.prog) w 9 40 5 s (u := .string) (by kernel_rfl) (by kernel_rfl) (by kernel_rfl), bytesWorld_below _ _ _, fun j hj => ⟨_, ?_, hcell j hj⟩, fun j hj => bytesWorld_frozen _ _ _ j hj, fun k x w2 hk h2 => ?_⟩
  · exact UInt8.toNat_lt _
  · have e : ((s.data.toList.map fun b : UInt8 => (b.toNat : Int)).set k x).length = s.size := by rw [List.length_set, List.length_map, Array.length_toList]; rfl
    refine ⟨strOfNums ((s.data.toList.map fun b : UInt8 => (b.toNat : Int)).set k x), by rw [strOfNums_size, e], ?_⟩
    refine run_convert_bytes_arg _ 40 5 (by kernel_rfl) (by kernel_rfl) w.heap.size 0 s.size _ _ e (fun i hi => ?_) 9 (by kernel_rfl)
    rw [Nat.zero_add, h2]
    have hs : i < s.data.toList.length := by rw [Array.length_toList]; exact hi
    by_cases q : i = k
    · subst q
      rw [World.cell?_setCell_same _ _ _ (hcell i hi)]
      rw [List.getD_eq_getElem?_getD, List.getElem?_set_self (by rw [List.length_map]; exact hs)]
      rfl
    · rw [World.cell?_setCell_other (h := fun z => q (congrArg Addr.off z).symm), hcell i hi]
      rw [List.getD_eq_getElem?_getD, List.getD_eq_getElem?_getD, List.getElem?_set_ne (fun z => q z.symm), List.getElem?_map, List.getElem?_eq_getElem hs]
      rfl

end Go.Proofs.Ytckallochdegiab
