import Derived.Test.YtoofoalpffoheaaSgG
import Derived.OwnWalk
import Derived.Deep.AppendLies
import Derived.Laws.OwnMore
import Derived.Deep.Onto


namespace Go.Proofs.Ytoofoalpffoheaa.Sg
open Go.ChangeShapes Go.WideShapes Go.ChangeAt Go.RowKit Go.PlainAid
set_option linter.unusedVariables false

theorem ownB {w w' : World} {base : Nat} {e : TypeId} {size : Nat} {v : Value} {n : Nat} {xs : List Value} (h : w.ownsRow base e size v n xs) (hb : Below w.heap.size w w') : w'.ownsRow base e size v n xs := by
  refine h.kept (row := none) ⟨hb.os, hb.tape, hb.output, hb.size, fun i hi _ => hb.block i hi⟩ ?_
  cases ho : v.ownBlock with
  | none => exact Or.inl rfl
  | some k => exact Or.inr (by simp)
theorem own_form {w : World} {base : Nat} {e : TypeId} {size : Nat} {v : Value} {n : Nat} {xs : List Value} (h : w.ownsRow base e size v n xs) (hv : v ≠ .slice none 0 0) :
    ∃ g cap, v = .slice (some ⟨g, 0, none⟩) n cap ∧ base ≤ g ∧ g < w.heap.size ∧ n ≤ cap ∧ cap ≤ maxLen := by
  have hlt := h.lt
  obtain ⟨h1, ⟨rfl, -⟩ | ⟨g, cap, cur, rfl, hb, hg, hn, hc, -, -⟩⟩ := h
  · exact absurd rfl hv
  · exact ⟨g, cap, rfl, hb, (hlt g rfl).2, hn, hc⟩

/-- A value: its kind, its number, its text. -/
abbrev V := Int × Int × ByteArray
def goodV (v : V) : Bool := goodB v.1 v.2.1 v.2.2
def inV (v : V) : Prop := -9223372036854775808 ≤ v.2.1 ∧ v.2.1 ≤ 9223372036854775807 ∧ v.2.2.size ≤ maxLen
def codeB (v : V) : List UInt8 := (codeS v.1 v.2.1 v.2.2).data.toList
def rowB (l : List V) : List UInt8 := l.flatMap codeB
def VAt (W : World) (b o : Nat) (v : V) : Prop := W.cell? ⟨b, o, none⟩ = some (.int .i64 v.1) ∧ W.cell? ⟨b, o + 1, none⟩ = some (.int .i64 v.2.1) ∧ W.cell? ⟨b, o + 2, none⟩ = some (.string v.2.2)
/-- The slice at A reads as the values l. -/
def VReads (W : World) (A : Option Addr) (l : List V) : Prop := l ≠ [] → ∃ b off, A = some ⟨b, off, none⟩ ∧ b < W.heap.size ∧ ∀ i v, l[i]? = some v → VAt W b (off + i * 3) v
theorem VReads.keep {W W' : World} {A : Option Addr} {l : List V} (h : VReads W A l) (hb : Below W.heap.size W W') : VReads W' A l := by
  intro hl
  obtain ⟨b, off, rfl, hlt, hc⟩ := h hl
  have hz := hb.size
  refine ⟨b, off, rfl, by omega, fun i v hv => ?_⟩
  obtain ⟨h1, h2, h3⟩ := hc i v hv
  obtain ⟨hc, -⟩ := bcell hb
  refine ⟨?_, ?_, ?_⟩
  all_goals (rw [hc _ _ hlt]; assumption)

theorem codeB_length (v : V) : (codeB v).length = 9 := by unfold codeB; rw [← Lib.size_eq]; exact codeS_size _ _ _
theorem rowB_length (l : List V) : (rowB l).length = 9 * l.length := by
  induction l with
  | nil => rfl
  | cons a l ih =>
    have : rowB (a :: l) = codeB a ++ rowB l := rfl
    rw [this, List.length_append, codeB_length, ih, List.length_cons]; omega
theorem rowB_snoc (l : List V) (v : V) : rowB (l ++ [v]) = rowB l ++ codeB v := by unfold rowB; rw [List.flatMap_append]; simp
theorem code_cells (v : V) (hg : goodV v = true) : Lib.byteCells (codeB v) = [.int .u8 (cdv v.1 v.2.1 v.2.2 0), .int .u8 (cdv v.1 v.2.1 v.2.2 1), .int .u8 (cdv v.1 v.2.1 v.2.2 2), .int .u8 (cdv v.1 v.2.1 v.2.2 3), .int .u8 (cdv v.1 v.2.1 v.2.2 4), .int .u8 (cdv v.1 v.2.1 v.2.2 5), .int .u8 (cdv v.1 v.2.1 v.2.2 6), .int .u8 (cdv v.1 v.2.1 v.2.2 7), .int .u8 (cdv v.1 v.2.1 v.2.2 8)] := by
  have hb := fun j => cdv_bd v.1 v.2.1 v.2.2 j hg
  have e : ∀ j, Value.int IntKind.u8 ((UInt8.ofNat (cdv v.1 v.2.1 v.2.2 j).toNat).toNat : Int) = .int .u8 (cdv v.1 v.2.1 v.2.2 j) := fun j => by rw [byte_back _ (hb j).1 (hb j).2]
  show [Value.int IntKind.u8 ((UInt8.ofNat (cdv v.1 v.2.1 v.2.2 0).toNat).toNat : Int), .int .u8 ((UInt8.ofNat (cdv v.1 v.2.1 v.2.2 1).toNat).toNat : Int), .int .u8 ((UInt8.ofNat (cdv v.1 v.2.1 v.2.2 2).toNat).toNat : Int), .int .u8 ((UInt8.ofNat (cdv v.1 v.2.1 v.2.2 3).toNat).toNat : Int), .int .u8 ((UInt8.ofNat (cdv v.1 v.2.1 v.2.2 4).toNat).toNat : Int), .int .u8 ((UInt8.ofNat (cdv v.1 v.2.1 v.2.2 5).toNat).toNat : Int), .int .u8 ((UInt8.ofNat (cdv v.1 v.2.1 v.2.2 6).toNat).toNat : Int), .int .u8 ((UInt8.ofNat (cdv v.1 v.2.1 v.2.2 7).toNat).toNat : Int), .int .u8 ((UInt8.ofNat (cdv v.1 v.2.1 v.2.2 8).toNat).toNat : Int)] = _
  rw [e 0, e 1, e 2, e 3, e 4, e 5, e 6, e 7, e 8]
theorem byteCells_append (a b : List UInt8) : Lib.byteCells (a ++ b) = Lib.byteCells a ++ Lib.byteCells b := by simp [Lib.byteCells]

theorem addr_zero (g j : Nat) : (⟨g, 0, none⟩ : Addr).add j = ⟨g, j, none⟩ := by unfold Addr.add; split <;> simp_all
theorem info_u8 : (Try.prog.info? 5).map (fun i => (i.zero, i.size, i.bytes)) = some (some (.int .u8 0), 1, 1) := by kernel_rfl

set_option maxHeartbeats 1000000 in
theorem Row_good (A : Option Addr) (cap : Nat) (l : List V) (w : World) (h4 : l.length ≤ 4) (hg : ∀ v ∈ l, goodV v = true) (hi : ∀ v ∈ l, inV v) (hr : VReads w A l) :
    Calls Try.prog 31 #[.slice A l.length cap] w fun e w' => e = .returned (.tuple #[.string ⟨(rowB l).toArray⟩, .int .i64 0]) ∧ Below w.heap.size w w' := by
  obtain ⟨i0, hi0, hz0, hz1, hz2⟩ := info_parts info_u8
  have HG := Lib.hid hg
  have HI := Lib.hid hi
  have HR := Lib.hid hr
  have HI0 := Lib.hid hi0
  have HZ0 := Lib.hid hz0
  have HZ1 := Lib.hid hz1
  have HZ2 := Lib.hid hz2
  generalize hn : l.length = n at *
  have HN := Lib.hid hn
  clear hg hi hr hi0 hz0 hz1 hz2 hn
  go_enter Try.func31, Try.ntmps31
  go_wp2_with (with_reducible refine wpList_make_own _ rfl (.const (.int .i64 0)) (.tmp 13) 60 rfl w.heap.size 5 i0 (.int .u8 0) 1 Try.underlying60 HI0.out HZ0.out HZ1.out .i64 .i64 ((n : Int) * 9) (n * 9) rfl rfl (by omega) (by rw [HZ2.out]; omega) (by unfold maxLen; omega) (Nat.le_refl _) ?_)
  intro w1 hown1 hgrow1
  have hb1 : Below w.heap.size w w1 := (Below.refl _ _).grown hgrow1 (Nat.le_refl _) (fun k hk => by cases hk)
  have HB1 := Lib.hid hb1
  have HO1 := Lib.hid hown1
  clear hgrow1 hown1 hb1
  go_wp2_with fail
  go_loopw [4, 17] (fun r i wr => ∃ (k g c : Nat), k ≤ n ∧ i = .int .i64 k ∧ r = .slice (some ⟨g, 0, none⟩) (9 * k) c ∧ Hid (wr.ownsRow w.heap.size 5 1 (.slice (some ⟨g, 0, none⟩) (9 * k) c) (9 * k) (Lib.byteCells (rowB (l.take k)))) ∧ Hid (Below w.heap.size w wr)) (fun _ i _ => n - (intOf i).toNat)
  case atStart => exact ⟨0, w.heap.size, n * 9, by omega, rfl, rfl, HO1.out, HB1.out⟩
  case round =>
    obtain ⟨k, g, c, hk, rfl, rfl, hO, hB⟩ := hrel
    by_cases hlt : k < n
    · have hv : l[k]? = some (l[k]'(by have := HN.out; omega)) := List.getElem?_eq_getElem _
      generalize l[k]'(by have := HN.out; omega) = v at *
      have hmem : v ∈ l := List.mem_of_getElem? hv
      have hin := HI.out v hmem
      have hgd := HG.out v hmem
      obtain ⟨b, off, rfl, hlt', hcells⟩ := (HR.out.keep hB.out) (by intro e; rw [e] at hv; cases hv)
      obtain ⟨x0, x1, x2⟩ := hcells k v hv
      clear hcells
      obtain ⟨k0, n0, s0⟩ := v
      have HV := Lib.hid hv
      clear hv hmem
      have G := fun w => Good_any k0 n0 s0 w hin.2.2
      rw [show goodB k0 n0 s0 = true from hgd] at G
      have C := fun w => codeOf_any k0 n0 s0 w hin.2.2 hin.1 hin.2.1 hgd
      have hcc := code_cells (k0, n0, s0) hgd
      simp only at hcc
      generalize cdv k0 n0 s0 0 = c0, cdv k0 n0 s0 1 = c1, cdv k0 n0 s0 2 = c2, cdv k0 n0 s0 3 = c3, cdv k0 n0 s0 4 = c4, cdv k0 n0 s0 5 = c5, cdv k0 n0 s0 6 = c6, cdv k0 n0 s0 7 = c7, cdv k0 n0 s0 8 = c8 at *
      have HCC := Lib.hid hcc
      have HGG := Lib.hid G
      have HC := Lib.hid C
      clear hcc G C
      go_wp2_with fail
      refine (HGG.out _).mono ?_
      rintro e w2 ⟨rfl, hb2⟩
      obtain ⟨hc2, hf2⟩ := bcell hb2
      have y0 : w2.cell? ⟨wr.heap.size, 0, none⟩ = some (.int .i64 k0) := by rw [hc2 _ _ (by simp)]; go_simp
      have y1 : w2.cell? ⟨wr.heap.size, 1, none⟩ = some (.int .i64 n0) := by rw [hc2 _ _ (by simp)]; go_simp
      have y2 : w2.cell? ⟨wr.heap.size, 2, none⟩ = some (.string s0) := by rw [hc2 _ _ (by simp)]; go_simp
      clear hc2 hf2
      go_wp2_with fail
      refine (HC.out _).mono ?_
      rintro e w3 ⟨rfl, hb3⟩
      have hO3 : w3.ownsRow w.heap.size 5 1 (.slice (some ⟨g, 0, none⟩) (9 * k) c) (9 * k) (Lib.byteCells (rowB (l.take k))) := ownB (ownB (hO.out.alloc _) hb2) hb3
      have HO3 := Lib.hid hO3
      clear hO3
      go_wp2_with (with_reducible refine wpList_append_own _ rfl (.tmp 26) (.tmp 27) 60 rfl w.heap.size 5 i0 (.int .u8 0) 1 1 Try.underlying60 HI0.out HZ0.out HZ1.out HZ2.out rfl (by decide) _ _ _ rfl (HO3.out.alloc _) ⟨w3.heap.size, 0, none⟩ 9 9 [.int .u8 c0, .int .u8 c1, .int .u8 c2, .int .u8 c3, .int .u8 c4, .int .u8 c5, .int .u8 c6, .int .u8 c7, .int .u8 c8] rfl rfl ?c1 ?c2 ?c3 ?c4 ?c5 ?_)
      case c1 =>
        intro j u hu
        rw [addr_zero]
        match j, hu with
        | 0, hu | 1, hu | 2, hu | 3, hu | 4, hu | 5, hu | 6, hu | 7, hu | 8, hu => go_simp; exact Option.some.inj hu
        | j + 9, hu => cases hu
      case c2 =>
        intro u hu
        simp only [List.mem_cons, List.not_mem_nil, or_false] at hu
        rcases hu with rfl | rfl | rfl | rfl | rfl | rfl | rfl | rfl | rfl <;> rfl
      case c3 => unfold maxLen; omega
      case c4 => omega
      case c5 =>
        have := hB.out.size; have := hb2.size; have := hb3.size
        simp at *; omega
      intro v' w4 hown4 hgrow4 hne
      have hb4 : Below w.heap.size w w4 := by
        have e1 : Below w.heap.size w w3 := bl (bl (blA hB.out _) hb2) hb3
        refine (blA e1 _).grown hgrow4 (blA e1 _).size ?_
        intro k' hk'
        exact (HO3.out.lt k' hk').1
      rw [← HCC.out, ← byteCells_append] at hown4
      have e5 : rowB (l.take k) ++ codeB (k0, n0, s0) = rowB (l.take (k + 1)) := by
        rw [← rowB_snoc, List.take_add_one, HV.out]; rfl
      rw [e5] at hown4
      obtain ⟨g', c', rfl, hg1, hg2, hg3, hg4⟩ := own_form hown4 hne
      have HO4 := Lib.hid hown4
      have HB4 := Lib.hid hb4
      clear hown4 hgrow4 hne hb4 e5 hb2 hb3 y0 y1 y2 x0 x1 x2
      go_wp2_with fail
      go_roundw
      case rel => exact ⟨k + 1, g', c', by omega, by go_num, by simp only [Nat.mul_succ], by simpa only [Nat.mul_succ] using HO4, HB4⟩
      case measure => simp [intOf]; omega
    · obtain rfl : k = n := by omega
      have hO := hO.out
      have hcv := run_convert_bytes_arg (P := Try.prog) wr 60 5 Try.underlying60 Try.underlying5 g 0 (9 * k) c ((rowB (l.take k)).map fun x => (x.toNat : Int))
        (by rw [List.length_map, rowB_length, List.length_take, HN.out]; omega) (fun i hi => by
          rw [Nat.zero_add, hO.cellAt i (by omega)]
          have hl : i < (rowB (l.take k)).length := by rw [rowB_length, List.length_take, HN.out]; omega
          simp only [Lib.byteCells, List.getElem?_map, List.getElem?_eq_getElem hl, Option.map_some, List.getD, Option.getD_some]) 9 Try.underlying9
      have e6 : strOfNums ((rowB (l.take k)).map fun x => (x.toNat : Int)) = ⟨(rowB l).toArray⟩ := by
        unfold strOfNums
        rw [List.map_map, List.take_of_length_le (by rw [HN.out]; exact Nat.le_refl _)]
        congr 2
        conv => rhs; rw [← List.map_id (rowB l)]
        apply List.map_congr_left
        intro x _
        simp
      rw [e6] at hcv
      clear e6
      go_wp2_with fail
      go_returns
      exact ⟨rfl, hB.out⟩
end Go.Proofs.Ytoofoalpffoheaa.Sg
