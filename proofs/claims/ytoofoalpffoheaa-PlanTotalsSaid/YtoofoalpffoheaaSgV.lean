import Derived.Test.YtoofoalpffoheaaSgU
namespace Go.Proofs.Ytoofoalpffoheaa.Sg
open Go.ChangeShapes Go.WideShapes Go.ChangeAt Go.RowKit Go.PlainAid
set_option linter.unusedVariables false
set_option linter.unusedSimpArgs false

/-- The first k bytes of a value's code, as cells. -/
def codeC (k n : Int) (s : ByteArray) (m : Nat) : List Value := (List.range m).map fun i => Value.int .u8 (cdv k n s i)
theorem codeC_snoc (k n : Int) (s : ByteArray) (m : Nat) : codeC k n s (m + 1) = codeC k n s m ++ [Value.int .u8 (cdv k n s m)] := by unfold codeC; rw [List.range_succ, List.map_append]; rfl
theorem codeC_length (k n : Int) (s : ByteArray) (m : Nat) : (codeC k n s m).length = m := by simp [codeC]

theorem append1 {w : World} {g0 : Nat} {x : Value} (hx : w.cell? ⟨g0, 0, none⟩ = some x) : ∀ j u, [x][j]? = some u → w.cell? ((⟨g0, 0, none⟩ : Addr).add j) = some u := by
  intro j u hu
  rw [addr_zero]
  match j, hu with
  | 0, hu => rw [hx]; exact hu
  | j + 1, hu => cases hu

theorem bits_xor128 (b : Int) (h0 : 0 ≤ b) (h1 : b ≤ 255) : bits BinOp.xor IntKind.u8 b 128 = (b + 128) % 256 := by
  obtain ⟨a, rfl⟩ := Int.eq_ofNat_of_zero_le h0
  have ha : a < 256 := by omega
  have : ∀ a : Fin 256, bits BinOp.xor IntKind.u8 ((a.val : Nat) : Int) 128 = (((a.val : Nat) : Int) + 128) % 256 := by decide +kernel
  exact this ⟨a, ha⟩

end Go.Proofs.Ytoofoalpffoheaa.Sg
