/- Texts of ours, joined. -/
import Derived.WalkKit
import Derived.ProofKit
import Derived.OpenShut
import Derived.Handy
import Derived.PlainAid
import Derived.BigQuiet
import Derived.RegionTactic
import Derived.OwnWalk
import Derived.Lib.Hide
import Derived.Lib.IndexBytes
import Derived.Lib.Bytealg
import Derived.Lib.Small
import Derived.Lib.LaidTab
import Derived.Lib.BufferWrite
import Derived.Deep.WholeRow
import Derived.Deep.AppendLies
import Derived.Deep.Onto
import Derived.Deep.RegionHeld3
import Derived.Deep.QuietTactic
import Derived.StillTailTactics
import Derived.Laws.OwnMore
import Derived.Laws.BytesArg
import Derived.Lib.ConvBytes

-- joined
section
namespace Go.Proofs.Yteiiogaopgfpfaa.Aid
open Go.ChangeShapes Go.WideShapes Go.ChangeAt Go.RowKit Go.PlainAid
set_option linter.unusedVariables false

/-! What a call leaves alone. -/
theorem bl {a W w1 : World} (h1 : Below a.heap.size a W) (h2 : Below W.heap.size W w1) : Below a.heap.size a w1 := h1.trans (h2.mono h1.size)
theorem blA {a W : World} (h : Below a.heap.size a W) (o : Obj) : Below a.heap.size a (W.alloc o) := h.alloc h.size o
theorem bcell {W w1 : World} (hb : Below W.heap.size W w1) : (∀ b o, b < W.heap.size → w1.cell? ⟨b, o, none⟩ = W.cell? ⟨b, o, none⟩) ∧ (∀ b o, b < W.heap.size → w1.frozen? ⟨b, o, none⟩ = W.frozen? ⟨b, o, none⟩) :=
  ⟨fun b o h => hb.cell (p := ⟨b, o, none⟩) h, fun b o h => hb.frozen (p := ⟨b, o, none⟩) h⟩

/-! Results. -/
theorem ret_bool {a b : Bool} (h : a = b) : Ending.returned (.bool a) = .returned (.bool b) := by rw [h]
theorem ret_int {k : IntKind} {a b : Int} (h : a = b) : Ending.returned (.int k a) = .returned (.int k b) := by rw [h]
/-! Bytes of strings. -/
theorem bt_list (s : ByteArray) (k : Nat) : bt s k = ((s.data.toList.getD k 0).toNat : Int) := by
  unfold bt
  split
  · rename_i h
    rw [List.getD, Lib.data_getElem? s k h]; rfl
  · rename_i h
    have : s.data.toList[k]? = none := List.getElem?_eq_none (by rw [← Lib.size_eq]; omega)
    rw [List.getD, this]; rfl
theorem bt_ext (s t : ByteArray) (n : Nat) (hs : s.size = n) (ht : t.size = n) (h : ∀ i, i < n → bt s i = bt t i) : s = t := by
  apply ByteArray.ext; apply Array.toList_inj.1
  have ls : s.data.toList.length = n := by rw [← Lib.size_eq]; exact hs
  have lt : t.data.toList.length = n := by rw [← Lib.size_eq]; exact ht
  refine List.ext_getElem (by omega) fun i h1 h2 => ?_
  have := h i (by omega)
  rw [bt_list, bt_list, List.getD, List.getD, List.getElem?_eq_getElem h1, List.getElem?_eq_getElem h2] at this
  exact UInt8.toNat_inj.1 (Int.ofNat_inj.1 (by simpa using this))
theorem size_zero {s : ByteArray} (h : s.size = 0) : s = ⟨#[]⟩ := bt_ext s ⟨#[]⟩ 0 h rfl (fun i hi => by omega)
theorem toList_isEmpty (s : ByteArray) : s.toList.isEmpty = decide (s.size = 0) := by
  rw [ByteArray.toList_eq]; obtain ⟨⟨l⟩⟩ := s; cases l <;> simp [ByteArray.size]
theorem list_inj {a b : ByteArray} (h : a.data.toList = b.data.toList) : a = b := ByteArray.ext (Array.toList_inj.1 h)
theorem toList_inj {a b : ByteArray} (h : a.toList = b.toList) : a = b := by
  rw [ByteArray.toList_eq, ByteArray.toList_eq] at h; exact ByteArray.ext (Array.toList_inj.1 h)
/-- A string of the bytes of a list. -/
def ofL (l : List UInt8) : ByteArray := ⟨l.toArray⟩
theorem ofL_list (l : List UInt8) : (ofL l).data.toList = l := rfl
theorem ofL_size (l : List UInt8) : (ofL l).size = l.length := rfl
theorem ofL_back (s : ByteArray) : ofL s.data.toList = s := list_inj (ofL_list _)
theorem ofL_inj {l m : List UInt8} (h : ofL l = ofL m) : l = m := by have := congrArg (fun s => s.data.toList) h; simpa [ofL] using this
theorem str_eq (a b : ByteArray) : (a.toList == b.toList) = decide (a = b) := by
  by_cases h : a = b
  · subst h; simp
  · rw [decide_eq_false h, beq_eq_false_iff_ne]; exact fun e => h (toList_inj e)
theorem strOf_nums (l : List UInt8) : strOfNums (l.map fun x => (x.toNat : Int)) = ofL l := by
  unfold strOfNums ofL
  rw [List.map_map]
  congr 2
  conv => rhs; rw [← List.map_id l]
  apply List.map_congr_left
  intro x _
  simp

/-! Rows of memory that the call made itself. -/
theorem own_form {w : World} {base : Nat} {e : TypeId} {size : Nat} {v : Value} {n : Nat} {xs : List Value} (h : w.ownsRow base e size v n xs) (hv : v ≠ .slice none 0 0) :
    ∃ g cap, v = .slice (some ⟨g, 0, none⟩) n cap ∧ base ≤ g ∧ g < w.heap.size ∧ n ≤ cap ∧ cap ≤ maxLen := by
  have hlt := h.lt
  obtain ⟨h1, ⟨rfl, -⟩ | ⟨g, cap, cur, rfl, hb, hg, hn, hc, -, -⟩⟩ := h
  · exact absurd rfl hv
  · exact ⟨g, cap, rfl, hb, (hlt g rfl).2, hn, hc⟩
theorem addr_zero (g j : Nat) : (⟨g, 0, none⟩ : Addr).add j = ⟨g, j, none⟩ := by unfold Addr.add; split <;> simp_all
theorem append1 {w : World} {g0 : Nat} {x : Value} (hx : w.cell? ⟨g0, 0, none⟩ = some x) : ∀ j u, [x][j]? = some u → w.cell? ((⟨g0, 0, none⟩ : Addr).add j) = some u := by
  intro j u hu
  rw [addr_zero]
  match j, hu with
  | 0, hu => rw [hx]; exact hu
  | j + 1, hu => cases hu
/-- Bytes that lie in a row, as a string. -/
theorem conv_row {P : Program} {w : World} {src e dst : TypeId} (hs : P.underlying src = some (.slice e)) (he : P.underlying e = some (.int .u8)) (hd : P.underlying dst = some .string) (b off cap : Nat) (l : List UInt8)
    (hc : ∀ i (x : UInt8), l[i]? = some x → w.cell? ⟨b, off + i, none⟩ = some (.int .u8 x.toNat)) (n : Nat) (hn : l.length = n) :
    (convert src dst (.slice (some ⟨b, off, none⟩) n cap)).run P w = .ok (.string (ofL l)) w := by
  have := run_convert_bytes_arg (P := P) w src e hs he b off n cap (l.map fun x => (x.toNat : Int)) (by rw [List.length_map]; exact hn) (fun i hi => by
    have hl : i < l.length := by omega
    rw [hc i l[i] (List.getElem?_eq_getElem hl)]
    simp [List.getD, hl]) dst hd
  rw [strOf_nums] at this
  exact this
/-- s[:k] of a string. -/
theorem slice_to {P : Program} {t : TypeId} (ht : P.underlying t = some .string) (s : ByteArray) (k : Nat) (j : Int) (hj : j = k) (h : k ≤ s.size) (w : World) : (Instr.slice t (.string s) none (some (.int .i64 j)) none).run P w = .ok (.string (s.extract 0 k)) w := by
  rw [run_slice_string_to_if (h := ht), if_pos (by omega), show j.toNat = k by omega]

/-- Bytes that lie in a block, and can be written. -/
def Bytes (w : World) (g : Nat) (l : List UInt8) : Prop := g < w.heap.size ∧ (∀ (i : Nat) (x : UInt8), l[i]? = some x → w.cell? ⟨g, i, none⟩ = some (.int .u8 x.toNat)) ∧ ∀ i, i < l.length → w.frozen? ⟨g, i, none⟩ = false
theorem Bytes.conv {P : Program} {w : World} {src e dst : TypeId} {g : Nat} {l : List UInt8} (h : Bytes w g l) (hs : P.underlying src = some (.slice e)) (he : P.underlying e = some (.int .u8)) (hd : P.underlying dst = some .string) (cap n : Nat) (hn : l.length = n) :
    (convert src dst (.slice (some ⟨g, 0, none⟩) n cap)).run P w = .ok (.string (ofL l)) w :=
  conv_row hs he hd g 0 cap l (fun i x hx => by rw [Nat.zero_add]; exact h.2.1 i x hx) n hn
theorem to_bytes {P : Program} {src dst e : TypeId} (hs : P.underlying src = some .string) (hd : P.underlying dst = some (.slice e)) (he : P.underlying e = some (.int .u8)) (w : World) (s : ByteArray) :
    ∃ cap w', (convert src dst (.string s)).run P w = .ok (.slice (some ⟨w.heap.size, 0, none⟩) s.size cap) w' ∧ Below w.heap.size w w' ∧ Bytes w' w.heap.size s.data.toList := by
  refine ⟨_, _, Lib.run_convert_string_bytes w src dst e s hs hd he, ⟨rfl, rfl, rfl, by rw [Lib.bytesWorld_size]; omega, fun k hk => Lib.bytesWorld_at_old w e s k hk⟩, by rw [Lib.bytesWorld_size]; omega, fun i x hx => ?_, fun i hi => ?_⟩
  · have hi := (List.getElem?_eq_some_iff.1 hx).1
    rw [Lib.bytesWorld_cell w e s i (by rw [Lib.size_eq]; exact hi), List.getD, hx]
    rfl
  · have hz : s.size ≤ (Lib.bytesCells w e s).size := by
      unfold Lib.bytesCells; rw [Array.size_append, Array.size_map]; exact Nat.le_add_right _ _
    have hi' : i < s.size := by rw [Lib.size_eq]; exact hi
    unfold World.frozen?
    rw [Lib.bytesWorld_at_new]
    simp
    omega
end Go.Proofs.Yteiiogaopgfpfaa.Aid
end

-- joined
section
namespace Go.Proofs.Yteiiogaopgfpfaa.Cr
open Go.RowKit Go.PlainAid Aid
set_option linter.unusedVariables false
set_option linter.unusedSimpArgs false

/-- One bit down. -/
def adv (c : BitVec 32) : BitVec 32 := (c >>> 1) ^^^ (if c.getLsbD 0 then 0xEDB88320#32 else 0#32)
theorem adv_xor (x y : BitVec 32) : adv (x ^^^ y) = adv x ^^^ adv y := by
  unfold adv
  rw [BitVec.getLsbD_xor, BitVec.ushiftRight_xor_distrib]
  cases x.getLsbD 0 <;> cases y.getLsbD 0 <;> simp only [Bool.xor_false, Bool.xor_true, Bool.not_true, Bool.not_false, if_true, if_false, BitVec.xor_zero, Bool.false_eq_true]
  · rw [BitVec.xor_assoc]
  · rw [BitVec.xor_assoc, BitVec.xor_assoc, BitVec.xor_comm (y >>> 1)]
  · rw [BitVec.xor_assoc, BitVec.xor_comm (y >>> 1), ← BitVec.xor_assoc (0xEDB88320#32), BitVec.xor_self, BitVec.zero_xor]
theorem adv_low (c : BitVec 32) (h : c.getLsbD 0 = false) : adv c = c >>> 1 := by
  unfold adv; rw [h]; simp
theorem adv_zero (c : BitVec 32) (h : adv c = 0#32) : c = 0#32 := by
  have h31 : (adv c).getLsbD 31 = c.getLsbD 0 := by
    unfold adv
    rw [BitVec.getLsbD_xor, BitVec.getLsbD_ushiftRight]
    have : c.getLsbD (1 + 31) = false := BitVec.getLsbD_of_ge _ _ (by omega)
    rw [this]
    cases c.getLsbD 0 <;> rfl
  rw [h] at h31
  have h0 : c.getLsbD 0 = false := by rw [← h31]; rfl
  rw [adv_low c h0] at h
  apply BitVec.eq_of_getLsbD_eq
  intro i hi
  cases i with
  | zero => rw [h0]; rfl
  | succ i =>
    have := congrArg (·.getLsbD i) h
    simp only [BitVec.getLsbD_ushiftRight] at this
    rw [Nat.add_comm, this]
    simp
/-- Some bits down. -/
def advs : Nat → BitVec 32 → BitVec 32
  | 0, c => c
  | n + 1, c => advs n (adv c)
theorem advs_xor (n : Nat) (x y : BitVec 32) : advs n (x ^^^ y) = advs n x ^^^ advs n y := by
  induction n generalizing x y with
  | zero => rfl
  | succ n ih => rw [advs, adv_xor, ih]; rfl
theorem advs_nil (n : Nat) (c : BitVec 32) (h : advs n c = 0#32) : c = 0#32 := by
  induction n generalizing c with
  | zero => exact h
  | succ n ih => exact adv_zero _ (ih _ h)
theorem advs_add (m n : Nat) (c : BitVec 32) : advs (m + n) c = advs n (advs m c) := by
  induction m generalizing c with
  | zero => rw [Nat.zero_add]; rfl
  | succ m ih => rw [Nat.succ_add]; exact ih _
theorem advs_low (n : Nat) (c : BitVec 32) (h : ∀ i, i < n → c.getLsbD i = false) : advs n c = c >>> n := by
  induction n generalizing c with
  | zero => simp [advs]
  | succ n ih =>
    rw [advs, adv_low c (h 0 (by omega)), ih _ (fun i hi => by rw [BitVec.getLsbD_ushiftRight]; exact h _ (by omega)), ← BitVec.shiftRight_add, Nat.add_comm]

/-- The lowest bits apart from the others. -/
theorem part (n : Nat) (m c : BitVec 32) (hm : ∀ i, m.getLsbD i = decide (i < n)) : advs n c = advs n (c &&& m) ^^^ (c >>> n) := by
  have e : c = (c &&& m) ^^^ (c ^^^ (c &&& m)) := by rw [BitVec.xor_comm c, ← BitVec.xor_assoc, BitVec.xor_self, BitVec.zero_xor]
  conv => lhs; rw [e, advs_xor]
  rw [advs_low n (c ^^^ (c &&& m)) (fun i hi => by rw [BitVec.getLsbD_xor, BitVec.getLsbD_and, hm, decide_eq_true hi, Bool.and_true, Bool.xor_self])]
  congr 1
  rw [BitVec.ushiftRight_xor_distrib]
  have : (c &&& m) >>> n = 0#32 := by
    apply BitVec.eq_of_getLsbD_eq
    intro i hi
    rw [BitVec.getLsbD_ushiftRight, BitVec.getLsbD_and, hm, decide_eq_false (by omega), Bool.and_false]
    simp
  rw [this, BitVec.xor_zero]
theorem low_bits (n : Nat) (hn : n ≤ 32) (i : Nat) : (BitVec.ofNat 32 (2 ^ n - 1)).getLsbD i = decide (i < n) := by
  rw [BitVec.getLsbD_ofNat, Nat.testBit_two_pow_sub_one]
  by_cases h : i < n
  · rw [decide_eq_true h, decide_eq_true (by omega)]; rfl
  · rw [decide_eq_false h, Bool.and_false]
theorem part8 (c : BitVec 32) : advs 8 c = advs 8 (c &&& 255#32) ^^^ (c >>> 8) := part 8 255#32 c (low_bits 8 (by omega))

/-- A byte more. -/
def upd (c b : BitVec 32) : BitVec 32 := advs 8 (c ^^^ b)
/-- A row of bytes. -/
def st (c : BitVec 32) (l : List UInt8) : BitVec 32 := l.foldl (fun c x => upd c (BitVec.ofNat 32 x.toNat)) c
def ones : BitVec 32 := 0xFFFFFFFF#32
/-- The sum. -/
def crc (l : List UInt8) : BitVec 32 := ~~~ st ones l
theorem st_append (c : BitVec 32) (l m : List UInt8) : st c (l ++ m) = st (st c l) m := by unfold st; rw [List.foldl_append]
theorem st_cons (c : BitVec 32) (x : UInt8) (l : List UInt8) : st c (x :: l) = st (upd c (BitVec.ofNat 32 x.toNat)) l := rfl
theorem upd_xor (c d b e : BitVec 32) : upd (c ^^^ d) (b ^^^ e) = upd c b ^^^ upd d e := by
  unfold upd
  rw [← advs_xor]
  congr 1
  rw [BitVec.xor_assoc, BitVec.xor_assoc, ← BitVec.xor_assoc d, ← BitVec.xor_assoc b, BitVec.xor_comm d b]
theorem st_off (l : List UInt8) (c d : BitVec 32) : st (c ^^^ d) l = st c l ^^^ advs (8 * l.length) d := by
  induction l generalizing c d with
  | nil => rfl
  | cons x l ih =>
    have : upd (c ^^^ d) (BitVec.ofNat 32 x.toNat) = upd c (BitVec.ofNat 32 x.toNat) ^^^ advs 8 d := by
      have h := upd_xor c d (BitVec.ofNat 32 x.toNat) 0#32
      rw [BitVec.xor_zero] at h
      rw [h]; congr 1; unfold upd; rw [BitVec.xor_zero]
    rw [st_cons, this, ih, st_cons, ← advs_add, List.length_cons, Nat.mul_succ, Nat.add_comm]
theorem st_inj (l : List UInt8) (c d : BitVec 32) (h : st c l = st d l) : c = d := by
  have e : c = d ^^^ (c ^^^ d) := by rw [BitVec.xor_comm c, ← BitVec.xor_assoc, BitVec.xor_self, BitVec.zero_xor]
  rw [e, st_off] at h
  have h2 : advs (8 * l.length) (c ^^^ d) = 0#32 := by
    have := congrArg (st d l ^^^ ·) h
    simp only [← BitVec.xor_assoc, BitVec.xor_self, BitVec.zero_xor] at this
    exact this
  have := advs_nil _ _ h2
  rw [e, this, BitVec.xor_zero]

/-- The bytes of a number, the lowest first. -/
def byteOf (c : BitVec 32) (i : Nat) : UInt8 := UInt8.ofNat ((c >>> (8 * i)).toNat % 256)
def tailL (c : BitVec 32) : List UInt8 := [byteOf c 0, byteOf c 1, byteOf c 2, byteOf c 3]
theorem byteOf_num (c : BitVec 32) (i : Nat) : BitVec.ofNat 32 (byteOf c i).toNat = (c >>> (8 * i)) &&& 255#32 := by
  apply BitVec.eq_of_toNat_eq
  unfold byteOf
  rw [UInt8.toNat_ofNat', BitVec.toNat_ofNat, BitVec.toNat_and, Nat.mod_mod]
  have : (255#32).toNat = 2 ^ 8 - 1 := rfl
  rw [this, Nat.and_two_pow_sub_one_eq_mod]
  have h := Nat.mod_lt (c >>> (8 * i)).toNat (show 0 < 2 ^ 8 by decide)
  exact Nat.mod_eq_of_lt (by omega)
theorem upd_byte (c w : BitVec 32) : advs 8 (c ^^^ w) = upd c (w &&& 255#32) ^^^ (w >>> 8) := by
  unfold upd
  have e : c ^^^ w = (c ^^^ (w &&& 255#32)) ^^^ (w ^^^ (w &&& 255#32)) := by
    rw [BitVec.xor_comm w, BitVec.xor_assoc, ← BitVec.xor_assoc (w &&& 255#32), BitVec.xor_self, BitVec.zero_xor]
  rw [e, advs_xor]
  congr 1
  have h := part8 (w ^^^ (w &&& 255#32))
  rw [advs_xor, part8 w]
  rw [BitVec.xor_comm, ← BitVec.xor_assoc]
  have h2 : (w &&& 255#32) &&& 255#32 = w &&& 255#32 := by rw [BitVec.and_assoc, BitVec.and_self]
  rw [BitVec.xor_self, BitVec.zero_xor]
/-- Four bytes are a number of 32 bits. -/
theorem st_word (c w : BitVec 32) : st c (tailL w) = advs 32 (c ^^^ w) := by
  have e : ∀ i, w >>> (8 * i) >>> 8 = w >>> (8 * (i + 1)) := fun i => by rw [← BitVec.shiftRight_add, Nat.mul_succ]
  have h4 : w >>> 32 = 0#32 := by
    apply BitVec.eq_of_getLsbD_eq
    intro i hi
    rw [BitVec.getLsbD_ushiftRight, BitVec.getLsbD_of_ge _ _ (by omega)]
    simp
  have s : ∀ (d : BitVec 32) (i : Nat), advs 8 (d ^^^ (w >>> (8 * i))) = upd d (BitVec.ofNat 32 (byteOf w i).toNat) ^^^ (w >>> (8 * (i + 1))) := fun d i => by rw [upd_byte, byteOf_num, e]
  have e0 : w = w >>> (8 * 0) := by simp
  have a : advs 32 (c ^^^ w) = advs 8 (advs 8 (advs 8 (advs 8 (c ^^^ w)))) := by
    rw [← advs_add, ← advs_add, ← advs_add]
  unfold tailL st
  simp only [List.foldl_cons, List.foldl_nil]
  rw [a, show advs 8 (c ^^^ w) = advs 8 (c ^^^ w >>> (8 * 0)) by rw [← e0], s, s, s, s, show 8 * (3 + 1) = 32 from rfl, h4, BitVec.xor_zero]
/-- What a sum's tail does behind its bytes. -/
theorem st_seal (l : List UInt8) : st ones (l ++ tailL (crc l)) = advs 32 ones := by
  rw [st_append, st_word]
  unfold crc
  congr 1
  generalize st ones l = x
  apply BitVec.eq_of_getLsbD_eq
  intro i hi
  have h1 : ones.getLsbD i = true := by
    unfold ones; rw [show (0xFFFFFFFF#32) = BitVec.allOnes 32 from rfl, BitVec.getLsbD_allOnes, decide_eq_true hi]
  rw [BitVec.getLsbD_xor, BitVec.getLsbD_not, decide_eq_true hi, h1]
  cases x.getLsbD i <;> rfl
/-- WHAT WAS TURNED IS TOLD. -/
theorem turned_told (p q a m : List UInt8) (mask : BitVec 32) (b : List UInt8) (hb : st (st ones p) b = st (st ones p) a ^^^ advs 32 mask) (h : st ones (p ++ b ++ q) = st ones (p ++ a ++ q)) : mask = 0#32 := by
  rw [st_append, st_append ones (p ++ a), st_append, st_append ones p a] at h
  have := st_inj _ _ _ h
  rw [hb] at this
  have h2 : advs 32 mask = 0#32 := by
    have := congrArg (st (st ones p) a ^^^ ·) this
    simp only [← BitVec.xor_assoc, BitVec.xor_self, BitVec.zero_xor] at this
    exact this
  exact advs_nil _ _ h2
/-- Bytes xor'ed. -/
theorem num_xor (x y : UInt8) : BitVec.ofNat 32 (x ^^^ y).toNat = BitVec.ofNat 32 x.toNat ^^^ BitVec.ofNat 32 y.toNat := by
  rw [UInt8.toNat_xor]
  apply BitVec.eq_of_toNat_eq
  have h1 := x.toNat_lt; have h2 := y.toNat_lt
  rw [BitVec.toNat_xor, BitVec.toNat_ofNat, BitVec.toNat_ofNat, BitVec.toNat_ofNat, Nat.mod_eq_of_lt (by omega : x.toNat < 2 ^ 32), Nat.mod_eq_of_lt (by omega : y.toNat < 2 ^ 32)]
  exact Nat.mod_eq_of_lt (Nat.xor_lt_two_pow (by omega) (by omega))
theorem st_xor (l m : List UInt8) (c d : BitVec 32) (h : l.length = m.length) : st (c ^^^ d) (List.zipWith (· ^^^ ·) l m) = st c l ^^^ st d m := by
  induction l generalizing m c d with
  | nil => cases m with
    | nil => rfl
    | cons y m => cases h
  | cons x l ih => cases m with
    | nil => cases h
    | cons y m =>
      rw [List.zipWith_cons_cons, st_cons, st_cons, st_cons, num_xor, upd_xor]
      exact ih m _ _ (by simpa using h)
theorem zip_turn (l m : List UInt8) (c mask : BitVec 32) (hm : m = tailL mask) (h : l.length = 4) : st c (List.zipWith (· ^^^ ·) l m) = st c l ^^^ advs 32 mask := by
  have := st_xor l m c 0#32 (by rw [h, hm]; rfl)
  rw [BitVec.xor_zero] at this
  rw [this, hm, st_word, BitVec.zero_xor]
end Go.Proofs.Yteiiogaopgfpfaa.Cr
end
