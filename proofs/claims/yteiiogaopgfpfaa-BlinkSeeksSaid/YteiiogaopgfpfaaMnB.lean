/- Texts of ours, joined. -/
import Derived.Test.YteiiogaopgfpfaaChg
import Derived.Test.YteiiogaopgfpfaaChecked
import Derived.Test.YteiiogaopgfpfaaSep
import Derived.Test.YteiiogaopgfpfaaNtR
import Derived.Deep.CutBlock
import Derived.Test.YteiiogaopgfpfaaNtA

-- joined
section
namespace Go.Proofs.Yteiiogaopgfpfaa.Mn
open Go.ChangeShapes Go.WideShapes Go.ChangeAt Go.RowKit Go.PlainAid Aid
set_option linter.unusedVariables false
set_option linter.unusedSimpArgs false

/-- Power's state. -/
structure Pw where
  on : Bool
  fuse : Int
  boots : Int
def Pw.off (p : Pw) : Pw := { p with on := false }
def Pw.lay (p : Pw) (n : Int) : Pw := { p with fuse := n }
def Pw.come (p : Pw) : Pw := if p.on then p else ⟨true, -1, wrap64 (p.boots + 1)⟩
def Pw.use (p : Pw) : Pw := if p.fuse = 0 then p.off else if p.on = false then p else if 0 < p.fuse then { p with fuse := p.fuse - 1 } else p
def Pw.ans (p : Pw) : Int := if p.fuse = 0 then 4 else if p.on = false then 4 else 0
def Pw.ok (p : Pw) : Prop := -9223372036854775808 ≤ p.fuse ∧ p.fuse ≤ 9223372036854775807 ∧ -9223372036854775808 ≤ p.boots ∧ p.boots ≤ 9223372036854775807
def Pw.row (p : Pw) : Array Value := #[.bool p.on, .int .i64 p.fuse, .int .i64 p.boots]
theorem wrap64_bd (n : Int) : -9223372036854775808 ≤ wrap64 n ∧ wrap64 n ≤ 9223372036854775807 := by unfold wrap64; omega

/-! Of nil. -/
end Go.Proofs.Yteiiogaopgfpfaa.Mn
end

-- joined
section
namespace Go.Proofs.Yteiiogaopgfpfaa.Rl
open Go.ChangeShapes Go.WideShapes Go.ChangeAt Go.RowKit Go.PlainAid Aid Mn
set_option linter.unusedVariables false
set_option linter.unusedSimpArgs false

def rlRow (m size : Nat) (v : Value) (safe : Nat) : Array Value := #[.pointer (some ⟨m, 0, none⟩), .int .i64 size, v, .int .i64 safe]
section
variable {w w' : World} {g m size safe : Nat} {O S : Nat → Prop} {s : ByteArray}
end
theorem u8Info : (Try.prog.info? 5).map (fun i => (i.zero, i.size, i.bytes)) = some (some (.int .u8 0), 1, 1) := by kernel_rfl

/-- The nearest room. -/
def nearR (n : Int) : Nat := (min (max n 0) 262144).toNat
theorem nearR_le (n : Int) : nearR n ≤ 262144 := by unfold nearR; omega
def readV (q : Pw) (s : ByteArray) : Value := if q.on then .tuple #[.string s, .int .i64 0] else .tuple #[.string ⟨#[]⟩, .int .i64 4]
def MO (m : Nat) (O : Nat → Prop) : Nat → Prop := fun k => k = m ∨ O k
end Go.Proofs.Yteiiogaopgfpfaa.Rl
end

-- joined
section
namespace Go.Proofs.Yteiiogaopgfpfaa.Mn
open Go.ChangeShapes Go.WideShapes Go.ChangeAt Go.RowKit Go.PlainAid Aid
set_option linter.unusedVariables false
set_option linter.unusedSimpArgs false

/-! The document's own answer. -/
def Pw.did (p : Pw) (act n : Int) : Pw := if act = 1 then p.use else if act = 2 then p.lay (if n < 0 then -1 else n) else if act = 3 then p.off else if act = 4 then p.come else p
def Pw.said (p : Pw) (act : Int) : Int := if act = 1 then p.ans else 0

end Go.Proofs.Yteiiogaopgfpfaa.Mn
end

-- joined
section
namespace Go.Proofs.Yteiiogaopgfpfaa.Rl
open Go.ChangeShapes Go.WideShapes Go.ChangeAt Go.RowKit Go.PlainAid Aid Mn
set_option linter.unusedVariables false
set_option linter.unusedSimpArgs false

theorem extract_all (s : ByteArray) : s.extract 0 s.size = s := by
  apply ByteArray.ext
  simp [ByteArray.data_extract]
section
variable (g m : Nat) (O : Nat → Prop) (size : Nat) (s : ByteArray) (safe : Nat) (q : Pw) (w : World)
def trimW (s : ByteArray) (n : Int) : Prop := n < 0 ∨ (s.size : Int) < n
/-- How many of the n that aren't safe stay. -/
def stayK (keep : Int) (n : Nat) : Nat := ((IntKind.u64.wrap keep).tmod ((n : Int) + 1)).toNat
theorem stayK_eq (keep : Int) (n : Nat) : (IntKind.u64.wrap keep).tmod ((n : Int) + 1) = (stayK keep n : Int) := by
  have g0 : 0 ≤ IntKind.u64.wrap keep := by rw [IntKind.wrap_u64]; omega
  have a1 := Int.tmod_nonneg ((n : Int) + 1) g0
  unfold stayK; omega
theorem stayK_le (keep : Int) (n : Nat) : stayK keep n ≤ n := by
  have a2 := Int.tmod_lt_of_pos (IntKind.u64.wrap keep) (show (0 : Int) < (n : Int) + 1 by omega)
  have := stayK_eq keep n
  omega
end
end Go.Proofs.Yteiiogaopgfpfaa.Rl
end

-- joined
section
namespace Go.Proofs.Yteiiogaopgfpfaa.Aid
open Go.ChangeShapes Go.WideShapes Go.ChangeAt Go.RowKit Go.PlainAid
set_option linter.unusedVariables false
/-- A number of 64 bits. -/
def I64 (n : Int) : Prop := -9223372036854775808 ≤ n ∧ n ≤ 9223372036854775807
/-- A slice of structs of F numbers each that came in. -/
def IntRows (w : World) (A : Option Addr) (m F : Nat) (z : Nat → Nat → Int) : Prop :=
  m = 0 ∨ ∃ b o, A = some ⟨b, o, none⟩ ∧ b < w.heap.size ∧ (∀ i, i < m → ∀ j, j < F → w.cell? ⟨b, o + i * F + j, none⟩ = some (.int .i64 (z i j))) ∧ ∀ i, i < m → ∀ j, j < F → I64 (z i j)
theorem IntRows.at {w : World} {A : Option Addr} {m F : Nat} {z : Nat → Nat → Int} (h : IntRows w A m F z) (k : Nat) (hk : k < m) (w' : World) (hb : Below w.heap.size w w') :
    ∃ b o, A = some ⟨b, o, none⟩ ∧ b < w.heap.size ∧ (∀ j, j < F → w'.cell? ⟨b, o + k * F + j, none⟩ = some (.int .i64 (z k j))) ∧ ∀ j, j < F → I64 (z k j) := by
  rcases h with h | ⟨b, o, rfl, hl, hc, hz⟩
  · omega
  · exact ⟨b, o, rfl, hl, fun j hj => by rw [(bcell hb).1 _ _ hl]; exact hc k hk j hj, hz k hk⟩
end Go.Proofs.Yteiiogaopgfpfaa.Aid
end

-- joined
section
namespace Go.Proofs.Yteiiogaopgfpfaa.Aid
open Go.ChangeShapes Go.WideShapes Go.ChangeAt Go.RowKit Go.PlainAid
set_option linter.unusedVariables false
/-- What a cell may be. -/
inductive CK where
  | num
  | str
  | truth
def CK.ok : CK → Value → Prop
  | .num, v => ∃ n, v = .int .i64 n ∧ I64 n
  | .str, v => ∃ s : ByteArray, v = .string s ∧ s.size ≤ maxLen
  | .truth, v => ∃ b, v = .bool b
/-- A slice of structs that came in, of kinds ks cell by cell. -/
def CellRows (w : World) (A : Option Addr) (m : Nat) (ks : List CK) (c : Nat → Nat → Value) : Prop :=
  m = 0 ∨ ∃ b o, A = some ⟨b, o, none⟩ ∧ b < w.heap.size ∧ (∀ i, i < m → ∀ j, j < ks.length → w.cell? ⟨b, o + i * ks.length + j, none⟩ = some (c i j)) ∧ ∀ i, i < m → ∀ (j : Nat) (k : CK), ks[j]? = some k → k.ok (c i j)
theorem CellRows.at {w : World} {A : Option Addr} {m : Nat} {ks : List CK} {c : Nat → Nat → Value} (h : CellRows w A m ks c) (k : Nat) (hk : k < m) (w' : World) (hb : Below w.heap.size w w') :
    ∃ b o, A = some ⟨b, o, none⟩ ∧ b < w.heap.size ∧ (∀ j, j < ks.length → w'.cell? ⟨b, o + k * ks.length + j, none⟩ = some (c k j)) ∧ ∀ (j : Nat) (x : CK), ks[j]? = some x → x.ok (c k j) := by
  rcases h with h | ⟨b, o, rfl, hl, hc, hz⟩
  · omega
  · exact ⟨b, o, rfl, hl, fun j hj => by rw [(bcell hb).1 _ _ hl]; exact hc k hk j hj, hz k hk⟩
/-- A slice of strings that came in. -/
def StrRow (w : World) (A : Option Addr) (m : Nat) (S : Nat → ByteArray) : Prop :=
  m = 0 ∨ ∃ b o, A = some ⟨b, o, none⟩ ∧ b < w.heap.size ∧ ∀ i, i < m → w.cell? ⟨b, o + i, none⟩ = some (.string (S i)) ∧ (S i).size ≤ maxLen
theorem StrRow.at {w : World} {A : Option Addr} {m : Nat} {S : Nat → ByteArray} (h : StrRow w A m S) (k : Nat) (hk : k < m) (w' : World) (hb : Below w.heap.size w w') :
    ∃ b o, A = some ⟨b, o, none⟩ ∧ b < w.heap.size ∧ w'.cell? ⟨b, o + k, none⟩ = some (.string (S k)) ∧ (S k).size ≤ maxLen := by
  rcases h with h | ⟨b, o, rfl, hl, hc⟩
  · omega
  · exact ⟨b, o, rfl, hl, by rw [(bcell hb).1 _ _ hl]; exact (hc k hk).1, (hc k hk).2⟩
/-- A slice of numbers that came in. -/
def NumRow (w : World) (A : Option Addr) (m : Nat) (z : Nat → Int) : Prop :=
  m = 0 ∨ ∃ b o, A = some ⟨b, o, none⟩ ∧ b < w.heap.size ∧ ∀ i, i < m → w.cell? ⟨b, o + i, none⟩ = some (.int .i64 (z i)) ∧ I64 (z i)
theorem NumRow.at {w : World} {A : Option Addr} {m : Nat} {z : Nat → Int} (h : NumRow w A m z) (k : Nat) (hk : k < m) (w' : World) (hb : Below w.heap.size w w') :
    ∃ b o, A = some ⟨b, o, none⟩ ∧ b < w.heap.size ∧ w'.cell? ⟨b, o + k, none⟩ = some (.int .i64 (z k)) ∧ I64 (z k) := by
  rcases h with h | ⟨b, o, rfl, hl, hc⟩
  · omega
  · exact ⟨b, o, rfl, hl, by rw [(bcell hb).1 _ _ hl]; exact (hc k hk).1, (hc k hk).2⟩
end Go.Proofs.Yteiiogaopgfpfaa.Aid
end

-- joined
section
namespace Go.Proofs.Yteiiogaopgfpfaa.Rl
open Go.ChangeShapes Go.WideShapes Go.ChangeAt Go.RowKit Go.PlainAid Aid Mn
set_option linter.unusedVariables false
set_option linter.unusedSimpArgs false
/-! Of nil. -/
section
variable (w : World)
end
/-! A reel and its power, in one world, of which nothing else is known. -/
theorem mo_base {B m : Nat} {O : Nat → Prop} (h : B ≤ m) (h2 : ∀ k, O k → B ≤ k) (n : Nat) : ∀ i, i < n → MO m O i → B ≤ i := by
  rintro i - (e | e)
  · exact e ▸ h
  · exact h2 i e
section
variable {w0 w w' : World} {g m size safe : Nat} {s : ByteArray} {q : Pw}
end
end Go.Proofs.Yteiiogaopgfpfaa.Rl
end

-- joined
section
namespace Go.Proofs.Yteiiogaopgfpfaa.Mn
open Go.ChangeShapes Go.WideShapes Go.ChangeAt Go.RowKit Go.PlainAid Aid
set_option linter.unusedVariables false
set_option linter.unusedSimpArgs false

/-- The program's power and the document's are alike: a fuse below 0 is none. -/
def Sim (p q : Pw) : Prop := p.on = q.on ∧ p.boots = q.boots ∧ (p.fuse = q.fuse ∨ (p.fuse < 0 ∧ q.fuse < 0))
theorem sim_use {p q : Pw} (h : Sim p q) : Sim p.use q.use ∧ p.ans = q.ans := by
  obtain ⟨o, f, b⟩ := p
  obtain ⟨o', f', b'⟩ := q
  obtain ⟨h1, h2, h3⟩ := h
  simp only at h1 h2 h3
  subst h1; subst h2
  rcases h3 with rfl | ⟨h3, h4⟩
  · exact ⟨⟨rfl, rfl, Or.inl rfl⟩, rfl⟩
  · have a1 : ¬ f = 0 := by omega
    have a2 : ¬ f' = 0 := by omega
    have a3 : ¬ 0 < f := by omega
    have a4 : ¬ 0 < f' := by omega
    cases o <;> simp [Pw.use, Pw.ans, a1, a2, a3, a4, Sim, h3, h4]
theorem sim_lay {p q : Pw} (h : Sim p q) (n : Int) : Sim (p.lay n) (q.lay (if n < 0 then -1 else n)) := by
  refine ⟨h.1, h.2.1, ?_⟩
  show n = (if n < 0 then -1 else n) ∨ (n < 0 ∧ (if n < 0 then -1 else n) < 0)
  by_cases hn : n < 0
  · rw [if_pos hn]; omega
  · rw [if_neg hn]; exact Or.inl rfl
theorem sim_off {p q : Pw} (h : Sim p q) : Sim p.off q.off := ⟨rfl, h.2.1, h.2.2⟩
theorem sim_come {p q : Pw} (h : Sim p q) : Sim p.come q.come := by
  obtain ⟨o, f, b⟩ := p
  obtain ⟨o', f', b'⟩ := q
  obtain ⟨h1, h2, h3⟩ := h
  simp only at h1 h2 h3
  subst h1; subst h2
  cases o
  · exact ⟨rfl, rfl, Or.inl rfl⟩
  · exact ⟨rfl, rfl, h3⟩

end Go.Proofs.Yteiiogaopgfpfaa.Mn
end

-- joined
section
namespace Go.Proofs.Yteiiogaopgfpfaa.Mn
open Go.ChangeShapes Go.WideShapes Go.ChangeAt Go.RowKit Go.PlainAid Aid
set_option linter.unusedVariables false
set_option linter.unusedSimpArgs false
/-! Power, and the document's, as what is owned. -/
section
variable (g : Nat) (q : Pw)
end
end Go.Proofs.Yteiiogaopgfpfaa.Mn
end

-- joined
section
namespace Go.Proofs.Yteiiogaopgfpfaa.Rl
open Go.ChangeShapes Go.WideShapes Go.ChangeAt Go.RowKit Go.PlainAid Aid Mn
set_option linter.unusedVariables false
set_option linter.unusedSimpArgs false
/-! A reel as what is owned; its power apart. -/
section
variable (g m size : Nat) (s : ByteArray) (safe : Nat) (q : Pw)
end
/-! The document's reel. -/
def rrRow (s : ByteArray) (safe size : Nat) : Array Value := #[.string s, .int .i64 safe, .int .i64 size]
end Go.Proofs.Yteiiogaopgfpfaa.Rl
end

-- joined
section
namespace Go.Proofs.Yteiiogaopgfpfaa.Nt
open Go.ChangeShapes Go.WideShapes Go.ChangeAt Go.RowKit Go.PlainAid Aid Cr
set_option linter.unusedVariables false
set_option linter.unusedSimpArgs false
def rV (o : Option (Rec × Nat)) (v : Value) : Value := match o with
  | none => .tuple #[v, .int .i64 0, .int .i64 3]
  | some q => .tuple #[v, .int .i64 (q.2 : Nat), .int .i64 0]
def rR (o : Option (Rec × Nat)) : Rec := match o with
  | none => Rec.none
  | some q => q.1
def fitO (f : Bool) (q : Rec × Nat) : Option (Rec × Nat) := if f then some q else none
theorem zero_rec (w : World) : RecAt w (.agg zeroCells) Rec.none := ⟨_, _, _, rfl, Row2.nil _ _, Row2.nil _ _, Row2.nil _ _⟩
theorem ofL_ne (l : By) : ((ofL l).toList == ([] : List UInt8)) = decide (l = []) := by
  have := str_eq (ofL l) ⟨#[]⟩
  rw [show (⟨#[]⟩ : ByteArray).toList = ([] : List UInt8) by rw [ByteArray.toList_eq]] at this
  rw [this]
  congr 1
  apply propext
  exact ⟨fun h => ofL_inj (m := []) h, fun h => by rw [h]; rfl⟩
end Go.Proofs.Yteiiogaopgfpfaa.Nt
end

-- joined
section
namespace Go.Proofs.Yteiiogaopgfpfaa.Nt
open Go.ChangeShapes Go.WideShapes Go.ChangeAt Go.RowKit Go.PlainAid Aid Cr
set_option linter.unusedVariables false
set_option linter.unusedSimpArgs false
theorem numL_snoc (k n : Nat) : numL (k + 1) n = numL k n ++ [UInt8.ofNat (n / 256 ^ k % 256)] := by
  induction k generalizing n with
  | zero => simp [numL]
  | succ k ih =>
    rw [numL, ih (n / 256), numL, List.cons_append, Nat.div_div_eq_div_mul, Nat.pow_succ, Nat.mul_comm 256]
end Go.Proofs.Yteiiogaopgfpfaa.Nt
end

-- joined
section
namespace Go.Proofs.Yteiiogaopgfpfaa.Nt
open Go.ChangeShapes Go.WideShapes Go.ChangeAt Go.RowKit Go.PlainAid Aid Cr
set_option linter.unusedVariables false
set_option linter.unusedSimpArgs false
theorem flat_take {α : Type} (b : α → By) (l : List α) (k : Nat) (x : α) (hx : l[k]? = some x) : (l.take (k + 1)).flatMap b = (l.take k).flatMap b ++ b x := by
  rw [List.take_add_one, hx, List.flatMap_append]; simp
theorem flat_len_take {α : Type} (b : α → By) (n : Nat) (xs : List α) (k : Nat) (hk : k ≤ xs.length) (h : ∀ x, x ∈ xs → (b x).length = n) : ((xs.take k).flatMap b).length = n * k := by
  rw [flat_len b n _ (fun x hx => h x (List.mem_of_mem_take hx)), List.length_take, Nat.min_eq_left hk]
end Go.Proofs.Yteiiogaopgfpfaa.Nt
end

-- joined
section
namespace Go.Proofs.Yteiiogaopgfpfaa.Nt
open Go.ChangeShapes Go.WideShapes Go.ChangeAt Go.RowKit Go.PlainAid Aid Cr
set_option linter.unusedVariables false
set_option linter.unusedSimpArgs false
def bytesV (r : Rec) : Value := if goodB r then .tuple #[.string (ofL (bytes r)), .int .i64 0] else .tuple #[.string ⟨#[]⟩, .int .i64 1]
theorem sealS_ofL (l : By) : sealS (ofL l) = ofL (l ++ tailL (crc l)) := rfl
theorem headed_ne (r : Rec) : headed r ≠ [] := by unfold headed; simp [numL]
end Go.Proofs.Yteiiogaopgfpfaa.Nt
end

-- joined
section
namespace Go.Proofs.Yteiiogaopgfpfaa.Nt
open Go.ChangeShapes Go.WideShapes Go.ChangeAt Go.RowKit Go.PlainAid Aid Cr
set_option linter.unusedVariables false
set_option linter.unusedSimpArgs false
def SomeBool (e : Ending) : Prop := ∃ b, e = .returned (.bool b)
end Go.Proofs.Yteiiogaopgfpfaa.Nt
end

-- joined
section
namespace Go.Proofs.Yteiiogaopgfpfaa.Nt
open Go.ChangeShapes Go.WideShapes Go.ChangeAt Go.RowKit Go.PlainAid Aid Cr
set_option linter.unusedVariables false
set_option linter.unusedSimpArgs false
def r35 : Rec := ⟨3, 5, 0, 0, [], Und.none, [], []⟩
theorem r35_good : goodB r35 = true := by decide +kernel
theorem r35_len : (bytes r35).length = 29 := by decide +kernel
theorem r35_nine : (bytes r35).take 9 = [21, 0, 0, 0, 3, 5, 0, 0, 0] := by decide +kernel
theorem read_nil : readR [] = none := by decide +kernel
theorem rV_some (r : Rec) (n : Nat) (v : Value) : rV (some (r, n)) v = .tuple #[v, .int .i64 n, .int .i64 0] := rfl
theorem rV_none (v : Value) : rV none v = .tuple #[v, .int .i64 0, .int .i64 3] := rfl
theorem RecAt.form {w : World} {v : Value} {r : Rec} (h : RecAt w v r) : ∃ A1 m1 A2 m2 A3 m3, v = .agg (recCells r (.slice A1 r.pages.length m1) (.slice A2 r.opn.length m2) (.slice A3 r.dty.length m3)) := by
  obtain ⟨p, o, d, rfl, hp, ho, hd⟩ := h
  obtain ⟨A1, m1, rfl⟩ := hp.slice
  obtain ⟨A2, m2, rfl⟩ := ho.slice
  obtain ⟨A3, m3, rfl⟩ := hd.slice
  exact ⟨_, _, _, _, _, _, rfl⟩
end Go.Proofs.Yteiiogaopgfpfaa.Nt
end
