/- Small theorems of no program that the walks of every stage use: what a call leaves alone, bytes of strings, rows of memory that the call made itself. -/
import Derived.WalkKit
import Derived.ProofKit
import Derived.OpenShut
import Derived.Handy
import Derived.PlainAid
import Derived.BigQuiet
import Derived.RegionTactic
import Derived.OwnWalk
import Derived.Lib.Hide
import Derived.Lib.IndexBytes
import Derived.Lib.Bytealg
import Derived.Lib.Small
import Derived.Lib.LaidTab
import Derived.Lib.BufferWrite
import Derived.Deep.WholeRow
import Derived.Deep.AppendLies
import Derived.Deep.Onto
import Derived.Deep.RegionHeld3
import Derived.Deep.QuietTactic
import Derived.StillTailTactics
import Derived.Laws.OwnMore
import Derived.Laws.BytesArg
import Derived.Lib.ConvBytes
namespace Go.Proofs.Ytoofoalpffoheaa.Aid
open Go.ChangeShapes Go.WideShapes Go.ChangeAt Go.RowKit Go.PlainAid
set_option linter.unusedVariables false

/-! What a call leaves alone. -/
theorem bl {a W w1 : World} (h1 : Below a.heap.size a W) (h2 : Below W.heap.size W w1) : Below a.heap.size a w1 := h1.trans (h2.mono h1.size)
theorem blA {a W : World} (h : Below a.heap.size a W) (o : Obj) : Below a.heap.size a (W.alloc o) := h.alloc h.size o
theorem blN {B : Nat} {a W : World} (h : Below B a W) (n : Nat) : Below B a (W.drewN n) := ⟨h.os, h.tape, h.output, h.size, h.block⟩
theorem blC {a W : World} (h : Below a.heap.size a W) {p : Addr} (hp : a.heap.size ≤ p.block) (u : Value) : Below a.heap.size a (W.setCell p u) := h.setCell hp u
theorem bcell {W w1 : World} (hb : Below W.heap.size W w1) : (∀ b o, b < W.heap.size → w1.cell? ⟨b, o, none⟩ = W.cell? ⟨b, o, none⟩) ∧ (∀ b o, b < W.heap.size → w1.frozen? ⟨b, o, none⟩ = W.frozen? ⟨b, o, none⟩) :=
  ⟨fun b o h => hb.cell (p := ⟨b, o, none⟩) h, fun b o h => hb.frozen (p := ⟨b, o, none⟩) h⟩

/-! Results. -/
theorem ret_bool {a b : Bool} (h : a = b) : Ending.returned (.bool a) = .returned (.bool b) := by rw [h]
theorem ret_val {a b : Value} (h : a = b) : Ending.returned a = .returned b := by rw [h]
theorem ret_int {k : IntKind} {a b : Int} (h : a = b) : Ending.returned (.int k a) = .returned (.int k b) := by rw [h]
theorem ret_str {a b : ByteArray} (h : a = b) : Ending.returned (.string a) = .returned (.string b) := by rw [h]

/-! Bytes of strings. -/
theorem bt_list (s : ByteArray) (k : Nat) : bt s k = ((s.data.toList.getD k 0).toNat : Int) := by
  unfold bt
  split
  · rename_i h
    rw [List.getD, Lib.data_getElem? s k h]; rfl
  · rename_i h
    have : s.data.toList[k]? = none := List.getElem?_eq_none (by rw [← Lib.size_eq]; omega)
    rw [List.getD, this]; rfl
theorem bt_extract (s : ByteArray) (a b i : Nat) : bt (s.extract a b) i = if i < b - a then bt s (a + i) else 0 := by
  rw [bt_list, bt_list, Lib.extract_data]
  simp only [List.getD]
  by_cases h : i < b - a
  · rw [List.getElem?_take_of_lt h, List.getElem?_drop, if_pos h]
  · rw [if_neg h, List.getElem?_eq_none (by simp; omega)]; rfl
theorem bt_ext (s t : ByteArray) (n : Nat) (hs : s.size = n) (ht : t.size = n) (h : ∀ i, i < n → bt s i = bt t i) : s = t := by
  apply ByteArray.ext; apply Array.toList_inj.1
  have ls : s.data.toList.length = n := by rw [← Lib.size_eq]; exact hs
  have lt : t.data.toList.length = n := by rw [← Lib.size_eq]; exact ht
  refine List.ext_getElem (by omega) fun i h1 h2 => ?_
  have := h i (by omega)
  rw [bt_list, bt_list, List.getD, List.getD, List.getElem?_eq_getElem h1, List.getElem?_eq_getElem h2] at this
  exact UInt8.toNat_inj.1 (Int.ofNat_inj.1 (by simpa using this))
theorem size_zero {s : ByteArray} (h : s.size = 0) : s = ⟨#[]⟩ := bt_ext s ⟨#[]⟩ 0 h rfl (fun i hi => by omega)
theorem toList_isEmpty (s : ByteArray) : s.toList.isEmpty = decide (s.size = 0) := by
  rw [ByteArray.toList_eq]; obtain ⟨⟨l⟩⟩ := s; cases l <;> simp [ByteArray.size]
theorem list_inj {a b : ByteArray} (h : a.data.toList = b.data.toList) : a = b := ByteArray.ext (Array.toList_inj.1 h)
theorem toList_inj {a b : ByteArray} (h : a.toList = b.toList) : a = b := by
  rw [ByteArray.toList_eq, ByteArray.toList_eq] at h; exact ByteArray.ext (Array.toList_inj.1 h)
/-- A string of the bytes of a list. -/
def ofL (l : List UInt8) : ByteArray := ⟨l.toArray⟩
theorem ofL_list (l : List UInt8) : (ofL l).data.toList = l := rfl
theorem ofL_size (l : List UInt8) : (ofL l).size = l.length := rfl
theorem ofL_back (s : ByteArray) : ofL s.data.toList = s := list_inj (ofL_list _)
theorem ofL_inj {l m : List UInt8} (h : ofL l = ofL m) : l = m := by have := congrArg (fun s => s.data.toList) h; simpa [ofL] using this
theorem str_eq (a b : ByteArray) : (a.toList == b.toList) = decide (a = b) := by
  by_cases h : a = b
  · subst h; simp
  · rw [decide_eq_false h, beq_eq_false_iff_ne]; exact fun e => h (toList_inj e)
theorem str_ne (a b : ByteArray) : (a.toList != b.toList) = !decide (a = b) := by rw [bne, str_eq]
theorem byteCells_append (a b : List UInt8) : Lib.byteCells (a ++ b) = Lib.byteCells a ++ Lib.byteCells b := by simp [Lib.byteCells]
theorem strOf_nums (l : List UInt8) : strOfNums (l.map fun x => (x.toNat : Int)) = ofL l := by
  unfold strOfNums ofL
  rw [List.map_map]
  congr 2
  conv => rhs; rw [← List.map_id l]
  apply List.map_congr_left
  intro x _
  simp

/-! Rows of memory that the call made itself. -/
theorem ownB {w w' : World} {base : Nat} {e : TypeId} {size : Nat} {v : Value} {n : Nat} {xs : List Value} (h : w.ownsRow base e size v n xs) (hb : Below w.heap.size w w') : w'.ownsRow base e size v n xs := by
  refine h.kept (row := none) ⟨hb.os, hb.tape, hb.output, hb.size, fun i hi _ => hb.block i hi⟩ ?_
  cases ho : v.ownBlock with
  | none => exact Or.inl rfl
  | some k => exact Or.inr (by simp)
theorem own_form {w : World} {base : Nat} {e : TypeId} {size : Nat} {v : Value} {n : Nat} {xs : List Value} (h : w.ownsRow base e size v n xs) (hv : v ≠ .slice none 0 0) :
    ∃ g cap, v = .slice (some ⟨g, 0, none⟩) n cap ∧ base ≤ g ∧ g < w.heap.size ∧ n ≤ cap ∧ cap ≤ maxLen := by
  have hlt := h.lt
  obtain ⟨h1, ⟨rfl, -⟩ | ⟨g, cap, cur, rfl, hb, hg, hn, hc, -, -⟩⟩ := h
  · exact absurd rfl hv
  · exact ⟨g, cap, rfl, hb, (hlt g rfl).2, hn, hc⟩
/-- A cell of such a row is written. -/
theorem ownSet {w : World} {base g n cap : Nat} {e : TypeId} {xs : List Value} (h : w.ownsRow base e 1 (.slice (some ⟨g, 0, none⟩) n cap) n xs) {i : Nat} (hi : i < n) (u : Value) :
    (w.setCell ⟨g, i, none⟩ u).ownsRow base e 1 (.slice (some ⟨g, 0, none⟩) n cap) n (xs.set i u) := by
  obtain ⟨h1, h2⟩ := h
  refine ⟨by rw [List.length_set]; exact h1, ?_⟩
  rcases h2 with ⟨h', -⟩ | ⟨g', cap', cur, h', hb, hg, hn, hc, hz, ht⟩
  · cases h'
  · simp only [Value.slice.injEq, Option.some.injEq, Addr.mk.injEq, and_true, true_and] at h'
    obtain ⟨rfl, rfl⟩ := h'
    refine Or.inr ⟨g, cap, cur.setIfInBounds i u, rfl, hb, heap_setCell_same w g i cur e u hg, hn, hc, by rw [Array.size_setIfInBounds]; exact hz, ?_⟩
    rw [Array.toList_setIfInBounds, List.take_set, ht]
theorem addr_zero (g j : Nat) : (⟨g, 0, none⟩ : Addr).add j = ⟨g, j, none⟩ := by unfold Addr.add; split <;> simp_all
theorem append1 {w : World} {g0 : Nat} {x : Value} (hx : w.cell? ⟨g0, 0, none⟩ = some x) : ∀ j u, [x][j]? = some u → w.cell? ((⟨g0, 0, none⟩ : Addr).add j) = some u := by
  intro j u hu
  rw [addr_zero]
  match j, hu with
  | 0, hu => rw [hx]; exact hu
  | j + 1, hu => cases hu
/-- Bytes that lie in a row, as a string. -/
theorem conv_row {P : Program} {w : World} {src e dst : TypeId} (hs : P.underlying src = some (.slice e)) (he : P.underlying e = some (.int .u8)) (hd : P.underlying dst = some .string) (b off cap : Nat) (l : List UInt8)
    (hc : ∀ i (x : UInt8), l[i]? = some x → w.cell? ⟨b, off + i, none⟩ = some (.int .u8 x.toNat)) (n : Nat) (hn : l.length = n) :
    (convert src dst (.slice (some ⟨b, off, none⟩) n cap)).run P w = .ok (.string (ofL l)) w := by
  have := run_convert_bytes_arg (P := P) w src e hs he b off n cap (l.map fun x => (x.toNat : Int)) (by rw [List.length_map]; exact hn) (fun i hi => by
    have hl : i < l.length := by omega
    rw [hc i l[i] (List.getElem?_eq_getElem hl)]
    simp [List.getD, hl]) dst hd
  rw [strOf_nums] at this
  exact this
theorem conv_own {P : Program} {w : World} {src e dst : TypeId} (hs : P.underlying src = some (.slice e)) (he : P.underlying e = some (.int .u8)) (hd : P.underlying dst = some .string) {base g n cap : Nat} {l : List UInt8}
    (h : w.ownsRow base e 1 (.slice (some ⟨g, 0, none⟩) n cap) n (Lib.byteCells l)) (hn : l.length = n) :
    (convert src dst (.slice (some ⟨g, 0, none⟩) n cap)).run P w = .ok (.string (ofL l)) w :=
  conv_row hs he hd g 0 cap l (fun i x hx => by
    have hi : i < l.length := (List.getElem?_eq_some_iff.1 hx).1
    rw [Nat.zero_add, h.cellAt i (by omega)]
    simp [Lib.byteCells, hx]) n hn

/-- s[:k] of a string. -/
theorem slice_to {P : Program} {t : TypeId} (ht : P.underlying t = some .string) (s : ByteArray) (k : Nat) (j : Int) (hj : j = k) (h : k ≤ s.size) (w : World) : (Instr.slice t (.string s) none (some (.int .i64 j)) none).run P w = .ok (.string (s.extract 0 k)) w := by
  rw [run_slice_string_to_if (h := ht), if_pos (by omega), show j.toNat = k by omega]

/-- Bytes that lie in a block, and can be written. -/
def Bytes (w : World) (g : Nat) (l : List UInt8) : Prop := g < w.heap.size ∧ (∀ (i : Nat) (x : UInt8), l[i]? = some x → w.cell? ⟨g, i, none⟩ = some (.int .u8 x.toNat)) ∧ ∀ i, i < l.length → w.frozen? ⟨g, i, none⟩ = false
theorem Bytes.keep {w w' : World} {g : Nat} {l : List UInt8} (h : Bytes w g l) (hb : Below w.heap.size w w') : Bytes w' g l :=
  ⟨by have := hb.size; have := h.1; omega, fun i x hx => by rw [(bcell hb).1 _ _ h.1]; exact h.2.1 i x hx, fun i hi => by rw [(bcell hb).2 _ _ h.1]; exact h.2.2 i hi⟩
theorem Bytes.set {w : World} {g : Nat} {l : List UInt8} (h : Bytes w g l) (i : Nat) (hi : i < l.length) (y : UInt8) : Bytes (w.setCell ⟨g, i, none⟩ (.int .u8 y.toNat)) g (l.set i y) := by
  refine ⟨by simpa using h.1, fun j x hx => ?_, fun j hj => ?_⟩
  · by_cases hj : i = j
    · subst hj
      rw [List.getElem?_set_self hi] at hx
      cases hx
      exact World.cell?_setCell_same _ _ _ (h.2.1 i l[i] (List.getElem?_eq_getElem hi))
    · rw [List.getElem?_set_ne hj] at hx
      rw [World.cell?_setCell_other _ _ _ _ (by simp)]
      exact h.2.1 j x hx
  · rw [World.frozen?_setCell]
    exact h.2.2 j (by simpa using hj)
theorem Bytes.conv {P : Program} {w : World} {src e dst : TypeId} {g : Nat} {l : List UInt8} (h : Bytes w g l) (hs : P.underlying src = some (.slice e)) (he : P.underlying e = some (.int .u8)) (hd : P.underlying dst = some .string) (cap n : Nat) (hn : l.length = n) :
    (convert src dst (.slice (some ⟨g, 0, none⟩) n cap)).run P w = .ok (.string (ofL l)) w :=
  conv_row hs he hd g 0 cap l (fun i x hx => by rw [Nat.zero_add]; exact h.2.1 i x hx) n hn
theorem to_bytes {P : Program} {src dst e : TypeId} (hs : P.underlying src = some .string) (hd : P.underlying dst = some (.slice e)) (he : P.underlying e = some (.int .u8)) (w : World) (s : ByteArray) :
    ∃ cap w', (convert src dst (.string s)).run P w = .ok (.slice (some ⟨w.heap.size, 0, none⟩) s.size cap) w' ∧ Below w.heap.size w w' ∧ Bytes w' w.heap.size s.data.toList := by
  refine ⟨_, _, Lib.run_convert_string_bytes w src dst e s hs hd he, ⟨rfl, rfl, rfl, by rw [Lib.bytesWorld_size]; omega, fun k hk => Lib.bytesWorld_at_old w e s k hk⟩, by rw [Lib.bytesWorld_size]; omega, fun i x hx => ?_, fun i hi => ?_⟩
  · have hi := (List.getElem?_eq_some_iff.1 hx).1
    rw [Lib.bytesWorld_cell w e s i (by rw [Lib.size_eq]; exact hi), List.getD, hx]
    rfl
  · have hz : s.size ≤ (Lib.bytesCells w e s).size := by
      unfold Lib.bytesCells; rw [Array.size_append, Array.size_map]; exact Nat.le_add_right _ _
    have hi' : i < s.size := by rw [Lib.size_eq]; exact hi
    unfold World.frozen?
    rw [Lib.bytesWorld_at_new]
    simp
    omega
end Go.Proofs.Ytoofoalpffoheaa.Aid
