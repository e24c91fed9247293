/- Texts of ours, joined. -/
import Derived.Test.YtaacinhmgmmcaaaDoorChg

-- joined
section
namespace Go.Proofs.YtaacinhmgmmcaaaDoor.Aid
open Go.ChangeShapes Go.WideShapes Go.ChangeAt Go.RowKit Go.PlainAid
set_option linter.unusedVariables false
/-- A number of 64 bits. -/
def I64 (n : Int) : Prop := -9223372036854775808 ≤ n ∧ n ≤ 9223372036854775807
/-- A slice of structs of F numbers each that came in. -/
def IntRows (w : World) (A : Option Addr) (m F : Nat) (z : Nat → Nat → Int) : Prop :=
  m = 0 ∨ ∃ b o, A = some ⟨b, o, none⟩ ∧ b < w.heap.size ∧ (∀ i, i < m → ∀ j, j < F → w.cell? ⟨b, o + i * F + j, none⟩ = some (.int .i64 (z i j))) ∧ ∀ i, i < m → ∀ j, j < F → I64 (z i j)
theorem IntRows.at {w : World} {A : Option Addr} {m F : Nat} {z : Nat → Nat → Int} (h : IntRows w A m F z) (k : Nat) (hk : k < m) (w' : World) (hb : Below w.heap.size w w') :
    ∃ b o, A = some ⟨b, o, none⟩ ∧ b < w.heap.size ∧ (∀ j, j < F → w'.cell? ⟨b, o + k * F + j, none⟩ = some (.int .i64 (z k j))) ∧ ∀ j, j < F → I64 (z k j) := by
  rcases h with h | ⟨b, o, rfl, hl, hc, hz⟩
  · omega
  · exact ⟨b, o, rfl, hl, fun j hj => by rw [(bcell hb).1 _ _ hl]; exact hc k hk j hj, hz k hk⟩
end Go.Proofs.YtaacinhmgmmcaaaDoor.Aid
end

-- joined
section
namespace Go.Proofs.YtaacinhmgmmcaaaDoor.Aid
open Go.ChangeShapes Go.WideShapes Go.ChangeAt Go.RowKit Go.PlainAid
set_option linter.unusedVariables false
/-- What a cell may be. -/
inductive CK where
  | num
  | str
  | truth
def CK.ok : CK → Value → Prop
  | .num, v => ∃ n, v = .int .i64 n ∧ I64 n
  | .str, v => ∃ s : ByteArray, v = .string s ∧ s.size ≤ maxLen
  | .truth, v => ∃ b, v = .bool b
/-- A slice of structs that came in, of kinds ks cell by cell. -/
def CellRows (w : World) (A : Option Addr) (m : Nat) (ks : List CK) (c : Nat → Nat → Value) : Prop :=
  m = 0 ∨ ∃ b o, A = some ⟨b, o, none⟩ ∧ b < w.heap.size ∧ (∀ i, i < m → ∀ j, j < ks.length → w.cell? ⟨b, o + i * ks.length + j, none⟩ = some (c i j)) ∧ ∀ i, i < m → ∀ (j : Nat) (k : CK), ks[j]? = some k → k.ok (c i j)
theorem CellRows.at {w : World} {A : Option Addr} {m : Nat} {ks : List CK} {c : Nat → Nat → Value} (h : CellRows w A m ks c) (k : Nat) (hk : k < m) (w' : World) (hb : Below w.heap.size w w') :
    ∃ b o, A = some ⟨b, o, none⟩ ∧ b < w.heap.size ∧ (∀ j, j < ks.length → w'.cell? ⟨b, o + k * ks.length + j, none⟩ = some (c k j)) ∧ ∀ (j : Nat) (x : CK), ks[j]? = some x → x.ok (c k j) := by
  rcases h with h | ⟨b, o, rfl, hl, hc, hz⟩
  · omega
  · exact ⟨b, o, rfl, hl, fun j hj => by rw [(bcell hb).1 _ _ hl]; exact hc k hk j hj, hz k hk⟩
/-- A slice of strings that came in. -/
def StrRow (w : World) (A : Option Addr) (m : Nat) (S : Nat → ByteArray) : Prop :=
  m = 0 ∨ ∃ b o, A = some ⟨b, o, none⟩ ∧ b < w.heap.size ∧ ∀ i, i < m → w.cell? ⟨b, o + i, none⟩ = some (.string (S i)) ∧ (S i).size ≤ maxLen
theorem StrRow.at {w : World} {A : Option Addr} {m : Nat} {S : Nat → ByteArray} (h : StrRow w A m S) (k : Nat) (hk : k < m) (w' : World) (hb : Below w.heap.size w w') :
    ∃ b o, A = some ⟨b, o, none⟩ ∧ b < w.heap.size ∧ w'.cell? ⟨b, o + k, none⟩ = some (.string (S k)) ∧ (S k).size ≤ maxLen := by
  rcases h with h | ⟨b, o, rfl, hl, hc⟩
  · omega
  · exact ⟨b, o, rfl, hl, by rw [(bcell hb).1 _ _ hl]; exact (hc k hk).1, (hc k hk).2⟩
/-- A slice of numbers that came in. -/
def NumRow (w : World) (A : Option Addr) (m : Nat) (z : Nat → Int) : Prop :=
  m = 0 ∨ ∃ b o, A = some ⟨b, o, none⟩ ∧ b < w.heap.size ∧ ∀ i, i < m → w.cell? ⟨b, o + i, none⟩ = some (.int .i64 (z i)) ∧ I64 (z i)
theorem NumRow.at {w : World} {A : Option Addr} {m : Nat} {z : Nat → Int} (h : NumRow w A m z) (k : Nat) (hk : k < m) (w' : World) (hb : Below w.heap.size w w') :
    ∃ b o, A = some ⟨b, o, none⟩ ∧ b < w.heap.size ∧ w'.cell? ⟨b, o + k, none⟩ = some (.int .i64 (z k)) ∧ I64 (z k) := by
  rcases h with h | ⟨b, o, rfl, hl, hc⟩
  · omega
  · exact ⟨b, o, rfl, hl, by rw [(bcell hb).1 _ _ hl]; exact (hc k hk).1, (hc k hk).2⟩
end Go.Proofs.YtaacinhmgmmcaaaDoor.Aid
end
