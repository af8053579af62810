import Derived.Test.YtckallochdegiabLdA
namespace Go.Proofs.Ytckallochdegiab
set_option linter.unusedVariables false
set_option linter.unusedSimpArgs false

/-- The bytes of small numbers. -/
def kst (l : List Nat) : ByteArray := strOfNums (l.map fun x : Nat => (x : Int))
/-- A frame of them. -/
def kfr (l : List Nat) : ByteArray := strOfNums [(l.length : Int)] ++ kst l ++ sumB (kst l)
/-- Three frames, and why they are none. -/
structure Rfs where
  a : List Nat
  b : List Nat
  c : List Nat
  e : Nat
def rfsL : List Rfs :=
  let three := [3]
  let ring := [3, 0, 1, 1, 0, 2, 0, 1, 2, 1]
  let way := [1, 0, 3, 2, 3, 0, 2, 0, 1, 0]
  [⟨three, ring, way, 0⟩, ⟨[0], [0], [0], 8⟩, ⟨[49], [0], [0, 0, 0, 0, 0, 0], 8⟩, ⟨[3, 0], ring, way, 8⟩, ⟨[131, 0], ring, way, 8⟩, ⟨[], ring, way, 8⟩, ⟨three, [4, 0, 1, 1, 0, 2, 0, 1, 2, 1], way, 8⟩,
   ⟨three, [2, 0, 1, 1, 0, 2, 0, 1, 2, 1], way, 8⟩, ⟨three, [3, 0, 2, 0, 0, 1, 1, 1, 2, 1], way, 8⟩, ⟨three, [3, 0, 1, 1, 0, 1, 0, 1, 2, 1], way, 8⟩, ⟨three, [3, 1, 0, 1, 0, 2, 0, 1, 2, 1], way, 8⟩, ⟨three, [3, 0, 1, 1, 0, 3, 0, 1, 2, 1], way, 8⟩,
   ⟨three, [3, 0, 1, 1, 0, 2, 0, 1, 2, 5], way, 8⟩, ⟨three, [3, 0, 1, 1, 1, 1, 0, 1, 2, 1], way, 8⟩, ⟨three, ring, [1, 0, 3, 2, 3, 0, 2, 0, 1], 9⟩, ⟨three, ring, [1, 0, 3, 2, 3, 0, 2, 0, 1, 0, 0], 9⟩, ⟨three, ring, [0, 0], 9⟩,
   ⟨three, ring, [1, 1, 3, 0, 1, 2, 3, 0, 2, 0], 9⟩, ⟨three, ring, [1, 0, 3, 2, 0, 3, 0, 1, 2, 0], 9⟩, ⟨three, ring, [1, 0, 3, 2, 3, 0, 2, 1, 0, 0], 9⟩, ⟨three, ring, [1, 0, 3, 3, 0, 2, 0, 1, 2, 0], 9⟩, ⟨three, ring, [1, 0, 2, 2, 0, 1, 0], 9⟩,
   ⟨three, [3, 0, 1, 1, 0, 2, 1, 1, 2, 1], way, 9⟩, ⟨three, [3, 0, 1, 3, 0, 2, 0, 1, 2, 1], way, 9⟩, ⟨three, [3, 0, 1, 3, 0, 2, 0, 1, 2, 1], [1, 0, 3, 2, 3, 0, 2, 0, 1, 1, 0, 2, 2, 0, 1], 10⟩, ⟨three, [3, 0, 1, 1, 0, 2, 2, 1, 2, 1], way, 10⟩, ⟨three, [2, 0, 1, 1, 1, 2, 0], [1, 0, 2, 2, 0, 1, 0], 10⟩]
def rfs (i : Nat) : Rfs := rfsL[i]?.getD ⟨[], [], [], 0⟩
def hdt1 : ByteArray := ⟨#[72, 68, 84, 49]⟩
def Rfs.text (r : Rfs) : ByteArray := hdt1 ++ kfr r.a ++ kfr r.b ++ kfr r.c
/-- The bad texts, the long one aside. -/
def badT (r : Rfs) : Nat → ByteArray
  | 0 => ⟨#[]⟩
  | 1 => ⟨#[72, 68, 84]⟩
  | 2 => ⟨#[72, 68, 84, 50]⟩ ++ r.text.extract 4 r.text.size
  | 3 => r.text.extract 0 (r.text.size - 1)
  | 4 => r.text ++ ⟨#[0]⟩
  | 5 => hdt1
  | 6 => hdt1 ++ kfr r.a
  | 7 => ⟨#[]⟩
  | _ => r.text.extract 0 5 ++ strOfNums [((byteAt r.text 5 ^^^ 1 : Nat) : Int)] ++ r.text.extract 6 r.text.size
def whyT : Nat → Nat
  | 0 => 6
  | 1 => 6
  | 2 => 6
  | 7 => 5
  | _ => 7
set_option maxRecDepth 100000 in
theorem rfs_ok : ∀ i, i < 27 → (readF (rfs i).text).1 = (rfs i).e := by decide +kernel
set_option maxRecDepth 100000 in
theorem rfs_bad : ∀ i, i < 27 → ∀ j, j < 9 → j ≠ 7 → (readF (badT (rfs i) j)).1 = whyT j := by decide +kernel
end Go.Proofs.Ytckallochdegiab
