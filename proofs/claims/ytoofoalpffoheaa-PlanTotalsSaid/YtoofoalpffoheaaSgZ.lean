import Derived.Test.YtoofoalpffoheaaSgX


namespace Go.Proofs.Ytoofoalpffoheaa.Sg
open Go.ChangeShapes Go.WideShapes Go.ChangeAt Go.RowKit Go.PlainAid
set_option linter.unusedVariables false
set_option linter.unusedSimpArgs false

/-- The bytes of a row; none, if there are too many values, or one can't be. -/
def rowO (l : List V) : Option (List UInt8) := if l.length ≤ 4 ∧ (l.all goodV) = true then some (rowB l) else none

def refRowV : Option (List UInt8) → Value
  | some b => .tuple #[.string ⟨b.toArray⟩, .bool true]
  | none => .tuple #[.string ⟨#[]⟩, .bool false]
def rowV : Option (List UInt8) → Value
  | some b => .tuple #[.string ⟨b.toArray⟩, .int .i64 0]
  | none => .tuple #[.string ⟨#[]⟩, .int .i64 1]
set_option maxHeartbeats 400000 in
theorem Row_many (A : Option Addr) (ca n : Nat) (w : World) (hn : n ≤ maxLen) (h : 4 < n) :
    Calls Try.prog 31 #[.slice A n ca] w fun e w' => e = .returned (.tuple #[.string ⟨#[]⟩, .int .i64 1]) ∧ w = w' := by
  unfold maxLen at hn
  go_enter Try.func31, Try.ntmps31
  go_wp2_with fail
  go_returns
  exact ⟨rfl, rfl⟩
theorem all_take_bad (l : List V) (k : Nat) (v : V) (hv : l[k]? = some v) (hg : goodV v = false) : l.all goodV = false := by
  rw [List.all_eq_false]
  exact ⟨v, List.mem_of_getElem? hv, by simp [hg]⟩

set_option maxHeartbeats 1000000 in
theorem Row_bad (A : Option Addr) (cap : Nat) (l : List V) (w : World) (h4 : l.length ≤ 4) (hg : l.all goodV = false) (hi : ∀ v ∈ l, inV v) (hr : VReads w A l) :
    Calls Try.prog 31 #[.slice A l.length cap] w fun e w' => e = .returned (.tuple #[.string ⟨#[]⟩, .int .i64 1]) ∧ Below w.heap.size w w' := by
  obtain ⟨i0, hi0, hz0, hz1, hz2⟩ := info_parts info_u8
  have HG := Lib.hid hg
  have HI := Lib.hid hi
  have HR := Lib.hid hr
  have HI0 := Lib.hid hi0
  have HZ0 := Lib.hid hz0
  have HZ1 := Lib.hid hz1
  have HZ2 := Lib.hid hz2
  generalize hn : l.length = n at *
  have HN := Lib.hid hn
  clear hg hi hr hi0 hz0 hz1 hz2 hn
  go_enter Try.func31, Try.ntmps31
  go_wp2_with (with_reducible refine wpList_make_own _ rfl (.const (.int .i64 0)) (.tmp 13) 60 rfl w.heap.size 5 i0 (.int .u8 0) 1 Try.underlying60 HI0.out HZ0.out HZ1.out .i64 .i64 ((n : Int) * 9) (n * 9) rfl rfl (by omega) (by rw [HZ2.out]; omega) (by unfold maxLen; omega) (Nat.le_refl _) ?_)
  intro w1 hown1 hgrow1
  have hb1 : Below w.heap.size w w1 := (Below.refl _ _).grown hgrow1 (Nat.le_refl _) (fun k hk => by cases hk)
  have HB1 := Lib.hid hb1
  have HO1 := Lib.hid hown1
  clear hgrow1 hown1 hb1
  go_wp2_with fail
  go_loopw [4, 17] (fun r i wr => ∃ (k g c : Nat), k ≤ n ∧ i = .int .i64 k ∧ r = .slice (some ⟨g, 0, none⟩) (9 * k) c ∧ Hid (wr.ownsRow w.heap.size 5 1 (.slice (some ⟨g, 0, none⟩) (9 * k) c) (9 * k) (Lib.byteCells (rowB (l.take k)))) ∧ Hid ((l.take k).all goodV = true) ∧ Hid (Below w.heap.size w wr)) (fun _ i _ => n - (intOf i).toNat)
  case atStart => exact ⟨0, w.heap.size, n * 9, by omega, rfl, rfl, HO1.out, rfl, HB1.out⟩
  case round =>
    obtain ⟨k, g, c, hk, rfl, rfl, hO, hGd, hB⟩ := hrel
    by_cases hlt : k < n
    · have hv : l[k]? = some (l[k]'(by have := HN.out; omega)) := List.getElem?_eq_getElem _
      generalize l[k]'(by have := HN.out; omega) = v at *
      have hmem : v ∈ l := List.mem_of_getElem? hv
      have hin := HI.out v hmem
      obtain ⟨b, off, rfl, hlt', hcells⟩ := (HR.out.keep hB.out) (by intro e; rw [e] at hv; cases hv)
      obtain ⟨x0, x1, x2⟩ := hcells k v hv
      clear hcells
      obtain ⟨k0, n0, s0⟩ := v
      have HV := Lib.hid hv
      clear hv hmem
      have G := fun w => Good_any k0 n0 s0 w hin.2.2
      cases hgd : goodB k0 n0 s0 with
      | false =>
        rw [hgd] at G
        have HGG := Lib.hid G
        clear G hgd
        go_wp2_with fail
        refine (HGG.out _).mono ?_
        rintro e w2 ⟨rfl, hb2⟩
        go_wp2_with fail
        go_returns
        exact ⟨rfl, bl (blA hB.out _) hb2⟩
      | true =>
        rw [hgd] at G
        have C := fun w => codeOf_any k0 n0 s0 w hin.2.2 hin.1 hin.2.1 hgd
        have hcc := code_cells (k0, n0, s0) hgd
        simp only at hcc
        generalize cdv k0 n0 s0 0 = c0, cdv k0 n0 s0 1 = c1, cdv k0 n0 s0 2 = c2, cdv k0 n0 s0 3 = c3, cdv k0 n0 s0 4 = c4, cdv k0 n0 s0 5 = c5, cdv k0 n0 s0 6 = c6, cdv k0 n0 s0 7 = c7, cdv k0 n0 s0 8 = c8 at *
        have HCC := Lib.hid hcc
        have HGG := Lib.hid G
        have HC := Lib.hid C
        have hg' : (l.take (k + 1)).all goodV = true := by
          rw [List.take_add_one, HV.out, List.all_append, hGd.out]
          show (true && ([(k0, n0, s0)].all goodV)) = true
          simp [goodV, hgd]
        have HG' := Lib.hid hg'
        clear hcc G C hg' hgd
        go_wp2_with fail
        refine (HGG.out _).mono ?_
        rintro e w2 ⟨rfl, hb2⟩
        obtain ⟨hc2, hf2⟩ := bcell hb2
        have y0 : w2.cell? ⟨wr.heap.size, 0, none⟩ = some (.int .i64 k0) := by rw [hc2 _ _ (by simp)]; go_simp
        have y1 : w2.cell? ⟨wr.heap.size, 1, none⟩ = some (.int .i64 n0) := by rw [hc2 _ _ (by simp)]; go_simp
        have y2 : w2.cell? ⟨wr.heap.size, 2, none⟩ = some (.string s0) := by rw [hc2 _ _ (by simp)]; go_simp
        clear hc2 hf2
        go_wp2_with fail
        refine (HC.out _).mono ?_
        rintro e w3 ⟨rfl, hb3⟩
        have hO3 : w3.ownsRow w.heap.size 5 1 (.slice (some ⟨g, 0, none⟩) (9 * k) c) (9 * k) (Lib.byteCells (rowB (l.take k))) := ownB (ownB (hO.out.alloc _) hb2) hb3
        have HO3 := Lib.hid hO3
        clear hO3
        go_wp2_with (with_reducible refine wpList_append_own _ rfl (.tmp 26) (.tmp 27) 60 rfl w.heap.size 5 i0 (.int .u8 0) 1 1 Try.underlying60 HI0.out HZ0.out HZ1.out HZ2.out rfl (by decide) _ _ _ rfl (HO3.out.alloc _) ⟨w3.heap.size, 0, none⟩ 9 9 [.int .u8 c0, .int .u8 c1, .int .u8 c2, .int .u8 c3, .int .u8 c4, .int .u8 c5, .int .u8 c6, .int .u8 c7, .int .u8 c8] rfl rfl ?c1 ?c2 ?c3 ?c4 ?c5 ?_)
        case c1 =>
          intro j u hu
          rw [addr_zero]
          match j, hu with
          | 0, hu | 1, hu | 2, hu | 3, hu | 4, hu | 5, hu | 6, hu | 7, hu | 8, hu => go_simp; exact Option.some.inj hu
          | j + 9, hu => cases hu
        case c2 =>
          intro u hu
          simp only [List.mem_cons, List.not_mem_nil, or_false] at hu
          rcases hu with rfl | rfl | rfl | rfl | rfl | rfl | rfl | rfl | rfl <;> rfl
        case c3 => unfold maxLen; omega
        case c4 => omega
        case c5 =>
          have := hB.out.size; have := hb2.size; have := hb3.size
          simp at *; omega
        intro v' w4 hown4 hgrow4 hne
        have hb4 : Below w.heap.size w w4 := by
          have e1 : Below w.heap.size w w3 := bl (bl (blA hB.out _) hb2) hb3
          refine (blA e1 _).grown hgrow4 (blA e1 _).size ?_
          intro k' hk'
          exact (HO3.out.lt k' hk').1
        rw [← HCC.out, ← byteCells_append] at hown4
        have e5 : rowB (l.take k) ++ codeB (k0, n0, s0) = rowB (l.take (k + 1)) := by
          rw [← rowB_snoc, List.take_add_one, HV.out]; rfl
        rw [e5] at hown4
        obtain ⟨g', c', rfl, hg1, hg2, hg3, hg4⟩ := own_form hown4 hne
        have HO4 := Lib.hid hown4
        have HB4 := Lib.hid hb4
        clear hown4 hgrow4 hne hb4 e5 hb2 hb3 y0 y1 y2 x0 x1 x2
        go_wp2_with fail
        go_roundw
        case rel => exact ⟨k + 1, g', c', by omega, by go_num, by simp only [Nat.mul_succ], by simpa only [Nat.mul_succ] using HO4, HG', HB4⟩
        case measure => simp [intOf]; omega
    · exfalso
      have h1 := HG.out
      have h2 := hGd.out
      rw [List.take_of_length_le (by rw [HN.out]; omega), h1] at h2
      cases h2

theorem Row_any (A : Option Addr) (cap : Nat) (l : List V) (w : World) (hl : l.length ≤ maxLen) (hi : ∀ v ∈ l, inV v) (hr : VReads w A l) :
    Calls Try.prog 31 #[.slice A l.length cap] w fun e w' => e = .returned (rowV (rowO l)) ∧ Below w.heap.size w w' := by
  by_cases h4 : l.length ≤ 4
  · cases ha : l.all goodV with
    | true =>
      have e : rowO l = some (rowB l) := by unfold rowO; rw [if_pos ⟨h4, ha⟩]
      rw [e]; exact Row_good A cap l w h4 (fun v hv => List.all_eq_true.1 ha v hv) hi hr
    | false =>
      have e : rowO l = none := by unfold rowO; rw [if_neg (by rw [ha]; simp)]
      rw [e]; exact Row_bad A cap l w h4 ha hi hr
  · have e : rowO l = none := by unfold rowO; rw [if_neg (fun h => h4 h.1)]
    rw [e]
    refine (Row_many A cap l.length w hl (by omega)).mono ?_
    rintro e w' ⟨rfl, rfl⟩
    exact ⟨rfl, Below.refl _ _⟩
end Go.Proofs.Ytoofoalpffoheaa.Sg
