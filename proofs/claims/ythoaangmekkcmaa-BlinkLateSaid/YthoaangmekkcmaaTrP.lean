/- Texts of ours, joined. -/
import Derived.Test.YthoaangmekkcmaaNdV
import Derived.Test.YthoaangmekkcmaaShelf
import Derived.Test.YthoaangmekkcmaaNtA
import Derived.Test.YthoaangmekkcmaaAid
import Derived.Test.YthoaangmekkcmaaChecked
import Derived.Test.YthoaangmekkcmaaVec
import Derived.Test.YthoaangmekkcmaaSep
import Derived.Deep.CutBlock

-- joined
section
namespace Go.Proofs.Ythoaangmekkcmaa.Tr
open Go.ChangeShapes Go.WideShapes Go.ChangeAt Go.RowKit Go.PlainAid Aid Nt Nd
set_option linter.unusedVariables false
set_option linter.unusedSimpArgs false
theorem flatMap_at {α β : Type} (f : α → List β) (n : Nat) (hf : ∀ x, (f x).length = n) : ∀ (M : List α) (q j : Nat) (x : α), M[q]? = some x → j < n → (M.flatMap f)[q * n + j]? = (f x)[j]?
  | a :: M, 0, j, x, h, hj => by
    simp only [List.getElem?_cons_zero, Option.some.injEq] at h
    subst h
    rw [List.flatMap_cons, Nat.zero_mul, Nat.zero_add, List.getElem?_append_left (by rw [hf]; exact hj)]
  | a :: M, q + 1, j, x, h, hj => by
    rw [List.flatMap_cons, List.getElem?_append_right (by rw [hf, Nat.add_mul]; omega), hf, show (q + 1) * n + j - n = q * n + j by rw [Nat.add_mul]; omega]
    exact flatMap_at f n hf M q j x (by simpa using h) hj
/-- How many of them stand ahead of a number. -/
def spot (L : List Nat) (x : Int) : Nat := (L.takeWhile (fun p : Nat => decide ((p : Int) < x))).length
end Go.Proofs.Ythoaangmekkcmaa.Tr
end

-- joined
section
namespace Go.Proofs.Ythoaangmekkcmaa.Nt
open Go.ChangeShapes Go.WideShapes Go.ChangeAt Go.RowKit Go.PlainAid Aid
set_option linter.unusedVariables false
set_option linter.unusedSimpArgs false
def rows : Nat → List Rec → List Value
  | _, [] => []
  | n, r :: t => .int .i64 ((n + 1 : Nat) : Int) :: .string (ofL (bytes r)) :: rows (n + (bytes r).length) t
end Go.Proofs.Ythoaangmekkcmaa.Nt
end

-- joined
section
namespace Go.Proofs.Ythoaangmekkcmaa.Mn
open Go.ChangeShapes Go.WideShapes Go.ChangeAt Go.RowKit Go.PlainAid Aid
set_option linter.unusedVariables false
set_option linter.unusedSimpArgs false

/-- Power's state. -/
structure Pw where
  on : Bool
  fuse : Int
  boots : Int
def Pw.off (p : Pw) : Pw := { p with on := false }
def Pw.come (p : Pw) : Pw := if p.on then p else ⟨true, -1, wrap64 (p.boots + 1)⟩
def Pw.use (p : Pw) : Pw := if p.fuse = 0 then p.off else if p.on = false then p else if 0 < p.fuse then { p with fuse := p.fuse - 1 } else p
def Pw.ok (p : Pw) : Prop := -9223372036854775808 ≤ p.fuse ∧ p.fuse ≤ 9223372036854775807 ∧ -9223372036854775808 ≤ p.boots ∧ p.boots ≤ 9223372036854775807
def Pw.row (p : Pw) : Array Value := #[.bool p.on, .int .i64 p.fuse, .int .i64 p.boots]
/-! Of nil. -/
end Go.Proofs.Ythoaangmekkcmaa.Mn
end

-- joined
section
namespace Go.Proofs.Ythoaangmekkcmaa.Rl
open Go.ChangeShapes Go.WideShapes Go.ChangeAt Go.RowKit Go.PlainAid Aid Mn
set_option linter.unusedVariables false
set_option linter.unusedSimpArgs false

section
variable {w w' : World} {g m size safe : Nat} {O S : Nat → Prop} {s : ByteArray}
end
end Go.Proofs.Ythoaangmekkcmaa.Rl
end

-- joined
section
namespace Go.Proofs.Ythoaangmekkcmaa.Mn
open Go.ChangeShapes Go.WideShapes Go.ChangeAt Go.RowKit Go.PlainAid Aid
set_option linter.unusedVariables false
set_option linter.unusedSimpArgs false

/-! The document's own answer. -/
end Go.Proofs.Ythoaangmekkcmaa.Mn
end

-- joined
section
namespace Go.Proofs.Ythoaangmekkcmaa.Rl
open Go.ChangeShapes Go.WideShapes Go.ChangeAt Go.RowKit Go.PlainAid Aid Mn
set_option linter.unusedVariables false
set_option linter.unusedSimpArgs false

section
variable (g m : Nat) (O : Nat → Prop) (size : Nat) (s : ByteArray) (safe : Nat) (q : Pw) (w : World)
end
end Go.Proofs.Ythoaangmekkcmaa.Rl
end

-- joined
section
namespace Go.Proofs.Ythoaangmekkcmaa.Aid
open Go.ChangeShapes Go.WideShapes Go.ChangeAt Go.RowKit Go.PlainAid
set_option linter.unusedVariables false
/-- A number of 64 bits. -/
def I64 (n : Int) : Prop := -9223372036854775808 ≤ n ∧ n ≤ 9223372036854775807
/-- A slice of structs of F numbers each that came in. -/
def IntRows (w : World) (A : Option Addr) (m F : Nat) (z : Nat → Nat → Int) : Prop :=
  m = 0 ∨ ∃ b o, A = some ⟨b, o, none⟩ ∧ b < w.heap.size ∧ (∀ i, i < m → ∀ j, j < F → w.cell? ⟨b, o + i * F + j, none⟩ = some (.int .i64 (z i j))) ∧ ∀ i, i < m → ∀ j, j < F → I64 (z i j)
theorem IntRows.at {w : World} {A : Option Addr} {m F : Nat} {z : Nat → Nat → Int} (h : IntRows w A m F z) (k : Nat) (hk : k < m) (w' : World) (hb : Below w.heap.size w w') :
    ∃ b o, A = some ⟨b, o, none⟩ ∧ b < w.heap.size ∧ (∀ j, j < F → w'.cell? ⟨b, o + k * F + j, none⟩ = some (.int .i64 (z k j))) ∧ ∀ j, j < F → I64 (z k j) := by
  rcases h with h | ⟨b, o, rfl, hl, hc, hz⟩
  · omega
  · exact ⟨b, o, rfl, hl, fun j hj => by rw [(bcell hb).1 _ _ hl]; exact hc k hk j hj, hz k hk⟩
end Go.Proofs.Ythoaangmekkcmaa.Aid
end

-- joined
section
namespace Go.Proofs.Ythoaangmekkcmaa.Aid
open Go.ChangeShapes Go.WideShapes Go.ChangeAt Go.RowKit Go.PlainAid
set_option linter.unusedVariables false
/-- What a cell may be. -/
inductive CK where
  | num
  | str
  | truth
def CK.ok : CK → Value → Prop
  | .num, v => ∃ n, v = .int .i64 n ∧ I64 n
  | .str, v => ∃ s : ByteArray, v = .string s ∧ s.size ≤ maxLen
  | .truth, v => ∃ b, v = .bool b
/-- A slice of structs that came in, of kinds ks cell by cell. -/
def CellRows (w : World) (A : Option Addr) (m : Nat) (ks : List CK) (c : Nat → Nat → Value) : Prop :=
  m = 0 ∨ ∃ b o, A = some ⟨b, o, none⟩ ∧ b < w.heap.size ∧ (∀ i, i < m → ∀ j, j < ks.length → w.cell? ⟨b, o + i * ks.length + j, none⟩ = some (c i j)) ∧ ∀ i, i < m → ∀ (j : Nat) (k : CK), ks[j]? = some k → k.ok (c i j)
theorem CellRows.at {w : World} {A : Option Addr} {m : Nat} {ks : List CK} {c : Nat → Nat → Value} (h : CellRows w A m ks c) (k : Nat) (hk : k < m) (w' : World) (hb : Below w.heap.size w w') :
    ∃ b o, A = some ⟨b, o, none⟩ ∧ b < w.heap.size ∧ (∀ j, j < ks.length → w'.cell? ⟨b, o + k * ks.length + j, none⟩ = some (c k j)) ∧ ∀ (j : Nat) (x : CK), ks[j]? = some x → x.ok (c k j) := by
  rcases h with h | ⟨b, o, rfl, hl, hc, hz⟩
  · omega
  · exact ⟨b, o, rfl, hl, fun j hj => by rw [(bcell hb).1 _ _ hl]; exact hc k hk j hj, hz k hk⟩
/-- A slice of strings that came in. -/
def StrRow (w : World) (A : Option Addr) (m : Nat) (S : Nat → ByteArray) : Prop :=
  m = 0 ∨ ∃ b o, A = some ⟨b, o, none⟩ ∧ b < w.heap.size ∧ ∀ i, i < m → w.cell? ⟨b, o + i, none⟩ = some (.string (S i)) ∧ (S i).size ≤ maxLen
theorem StrRow.at {w : World} {A : Option Addr} {m : Nat} {S : Nat → ByteArray} (h : StrRow w A m S) (k : Nat) (hk : k < m) (w' : World) (hb : Below w.heap.size w w') :
    ∃ b o, A = some ⟨b, o, none⟩ ∧ b < w.heap.size ∧ w'.cell? ⟨b, o + k, none⟩ = some (.string (S k)) ∧ (S k).size ≤ maxLen := by
  rcases h with h | ⟨b, o, rfl, hl, hc⟩
  · omega
  · exact ⟨b, o, rfl, hl, by rw [(bcell hb).1 _ _ hl]; exact (hc k hk).1, (hc k hk).2⟩
/-- A slice of numbers that came in. -/
def NumRow (w : World) (A : Option Addr) (m : Nat) (z : Nat → Int) : Prop :=
  m = 0 ∨ ∃ b o, A = some ⟨b, o, none⟩ ∧ b < w.heap.size ∧ ∀ i, i < m → w.cell? ⟨b, o + i, none⟩ = some (.int .i64 (z i)) ∧ I64 (z i)
theorem NumRow.at {w : World} {A : Option Addr} {m : Nat} {z : Nat → Int} (h : NumRow w A m z) (k : Nat) (hk : k < m) (w' : World) (hb : Below w.heap.size w w') :
    ∃ b o, A = some ⟨b, o, none⟩ ∧ b < w.heap.size ∧ w'.cell? ⟨b, o + k, none⟩ = some (.int .i64 (z k)) ∧ I64 (z k) := by
  rcases h with h | ⟨b, o, rfl, hl, hc⟩
  · omega
  · exact ⟨b, o, rfl, hl, by rw [(bcell hb).1 _ _ hl]; exact (hc k hk).1, (hc k hk).2⟩
end Go.Proofs.Ythoaangmekkcmaa.Aid
end

-- joined
section
namespace Go.Proofs.Ythoaangmekkcmaa.Rl
open Go.ChangeShapes Go.WideShapes Go.ChangeAt Go.RowKit Go.PlainAid Aid Mn
set_option linter.unusedVariables false
set_option linter.unusedSimpArgs false
/-! Of nil. -/
section
variable (w : World)
end
/-! A reel and its power, in one world, of which nothing else is known. -/
section
variable {w0 w w' : World} {g m size safe : Nat} {s : ByteArray} {q : Pw}
end
end Go.Proofs.Ythoaangmekkcmaa.Rl
end

-- joined
section
namespace Go.Proofs.Ythoaangmekkcmaa.Mn
open Go.ChangeShapes Go.WideShapes Go.ChangeAt Go.RowKit Go.PlainAid Aid
set_option linter.unusedVariables false
set_option linter.unusedSimpArgs false

end Go.Proofs.Ythoaangmekkcmaa.Mn
end

-- joined
section
namespace Go.Proofs.Ythoaangmekkcmaa.Mn
open Go.ChangeShapes Go.WideShapes Go.ChangeAt Go.RowKit Go.PlainAid Aid
set_option linter.unusedVariables false
set_option linter.unusedSimpArgs false
/-! Power, and the document's, as what is owned. -/
section
variable (g : Nat) (q : Pw)
end
end Go.Proofs.Ythoaangmekkcmaa.Mn
end

-- joined
section
namespace Go.Proofs.Ythoaangmekkcmaa.Rl
open Go.ChangeShapes Go.WideShapes Go.ChangeAt Go.RowKit Go.PlainAid Aid Mn
set_option linter.unusedVariables false
set_option linter.unusedSimpArgs false
/-! A reel as what is owned; its power apart. -/
section
variable (g m size : Nat) (s : ByteArray) (safe : Nat) (q : Pw)
end
/-! The document's reel. -/
end Go.Proofs.Ythoaangmekkcmaa.Rl
end

-- joined
section
namespace Go.Proofs.Ythoaangmekkcmaa.Nt
open Go.ChangeShapes Go.WideShapes Go.ChangeAt Go.RowKit Go.PlainAid Aid Cr
set_option linter.unusedVariables false
set_option linter.unusedSimpArgs false
end Go.Proofs.Ythoaangmekkcmaa.Nt
end

-- joined
section
namespace Go.Proofs.Ythoaangmekkcmaa.Nt
open Go.ChangeShapes Go.WideShapes Go.ChangeAt Go.RowKit Go.PlainAid Aid Cr
set_option linter.unusedVariables false
set_option linter.unusedSimpArgs false
end Go.Proofs.Ythoaangmekkcmaa.Nt
end

-- joined
section
namespace Go.Proofs.Ythoaangmekkcmaa.Nt
open Go.ChangeShapes Go.WideShapes Go.ChangeAt Go.RowKit Go.PlainAid Aid Cr
set_option linter.unusedVariables false
set_option linter.unusedSimpArgs false
end Go.Proofs.Ythoaangmekkcmaa.Nt
end

-- joined
section
namespace Go.Proofs.Ythoaangmekkcmaa.Nt
open Go.ChangeShapes Go.WideShapes Go.ChangeAt Go.RowKit Go.PlainAid Aid Cr
set_option linter.unusedVariables false
set_option linter.unusedSimpArgs false
end Go.Proofs.Ythoaangmekkcmaa.Nt
end

-- joined
section
namespace Go.Proofs.Ythoaangmekkcmaa.Nt
open Go.ChangeShapes Go.WideShapes Go.ChangeAt Go.RowKit Go.PlainAid Aid Cr
set_option linter.unusedVariables false
set_option linter.unusedSimpArgs false
end Go.Proofs.Ythoaangmekkcmaa.Nt
end

-- joined
section
namespace Go.Proofs.Ythoaangmekkcmaa.Nt
open Go.ChangeShapes Go.WideShapes Go.ChangeAt Go.RowKit Go.PlainAid Aid Cr
set_option linter.unusedVariables false
set_option linter.unusedSimpArgs false
end Go.Proofs.Ythoaangmekkcmaa.Nt
end
