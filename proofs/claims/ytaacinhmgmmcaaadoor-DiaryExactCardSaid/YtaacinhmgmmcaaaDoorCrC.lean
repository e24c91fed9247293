import Derived.Test.YtaacinhmgmmcaaaDoorCrB
namespace Go.Proofs.YtaacinhmgmmcaaaDoor.Cr
open Go.ChangeShapes Go.WideShapes Go.ChangeAt Go.RowKit Go.PlainAid Aid
set_option linter.unusedVariables false
set_option linter.unusedSimpArgs false

def tailS (c : BitVec 32) : ByteArray := ofL (tailL c)
theorem conv4 (W : World) (t : TypeId) (c0 c1 c2 c3 : Int) :
    (convert 69 9 (.slice (some ⟨W.heap.size, 0, none⟩) 4 4)).run Tryd.prog (W.alloc (.cells #[.int .u8 c0, .int .u8 c1, .int .u8 c2, .int .u8 c3] t))
      = .ok (.string (strOfNums [c0, c1, c2, c3])) (W.alloc (.cells #[.int .u8 c0, .int .u8 c1, .int .u8 c2, .int .u8 c3] t)) := by
  refine run_convert_bytes_arg _ 69 5 Tryd.underlying69 Tryd.underlying5 W.heap.size 0 4 4 [c0, c1, c2, c3] rfl ?_ _ Tryd.underlying9
  intro i hi
  rw [Nat.zero_add]
  match i, hi with
  | 0, _ | 1, _ | 2, _ | 3, _ => go_simp
  | i + 4, h => omega
theorem tail_nums (c : BitVec 32) : strOfNums [(c.toNat : Int) % 256, (c.toNat : Int) / 256 % 256, (c.toNat : Int) / 65536 % 256, (c.toNat : Int) / 16777216 % 256] = tailS c := by
  unfold strOfNums tailS ofL tailL
  have e : ∀ (i : Nat) (x : Int), x = (c.toNat : Int) / 2 ^ (8 * i) % 256 → UInt8.ofNat x.toNat = byteOf c i := by
    intro i x hx
    rw [hx, ns]
    unfold byteOf
    congr 1
  simp only [List.map_cons, List.map_nil]
  rw [e 0 (c.toNat % 256) (by simp), e 1 (c.toNat / 256 % 256) rfl, e 2 (c.toNat / 65536 % 256) rfl, e 3 (c.toNat / 16777216 % 256) rfl]

set_option maxHeartbeats 400000 in
theorem Tail_any (c : BitVec 32) (w : World) :
    Calls Tryd.prog 71 #[.int .u32 c.toNat] w fun e w' => e = .returned (.string (tailS c)) ∧ Below w.heap.size w w' := by
  have hn := tail_nums c
  have h0 : 0 ≤ (c.toNat : Int) := by omega
  generalize (c.toNat : Int) = n at *
  generalize tailS c = r at *
  have HN := Lib.hid hn
  clear hn
  have hcv := fun (W : World) (t : TypeId) => conv4 W t (n % 256) (n / 256 % 256) (n / 65536 % 256) (n / 16777216 % 256)
  rw [HN.out] at hcv
  go_enter Tryd.func71, Tryd.ntmps71
  go_wp2_with fail
  go_returns
  exact ⟨rfl, blA (Below.refl _ _) _⟩
set_option maxHeartbeats 400000 in
theorem refTail_any (c : BitVec 32) (w : World) :
    Calls Tryd.prog 33 #[.int .u32 c.toNat] w fun e w' => e = .returned (.string (tailS c)) ∧ Below w.heap.size w w' := by
  have hn := tail_nums c
  have h0 : 0 ≤ (c.toNat : Int) := by omega
  generalize (c.toNat : Int) = n at *
  generalize tailS c = r at *
  have HN := Lib.hid hn
  clear hn
  have hcv := fun (W : World) (t : TypeId) => conv4 W t (n % 256) (n / 256 % 256) (n / 65536 % 256) (n / 16777216 % 256)
  rw [HN.out] at hcv
  go_enter Tryd.func33, Tryd.ntmps33
  go_wp2_with fail
  go_returns
  exact ⟨rfl, blA (Below.refl _ _) _⟩

/-- Bytes and the tail of their sum. -/
def sealS (s : ByteArray) : ByteArray := s ++ tailS (crc s.data.toList)
theorem tailS_size (c : BitVec 32) : (tailS c).size = 4 := rfl
theorem sealS_size (s : ByteArray) : (sealS s).size = s.size + 4 := by unfold sealS; rw [ByteArray.size_append, tailS_size]
set_option maxHeartbeats 400000 in
theorem Seal_any (s : ByteArray) (w : World) (hs : s.size ≤ 140737488355328) (ht : Tab w) :
    Calls Tryd.prog 48 #[.string s] w fun e w' => e = .returned (.string (sealS s)) ∧ Below w.heap.size w w' := by
  have HS := Lib.hid (Sum_any s w (by unfold maxLen; omega) ht)
  have HC := Lib.hid (fun w => Tail_any (crc s.data.toList) w)
  have hz := tailS_size (crc s.data.toList)
  have he : sealS s = s ++ tailS (crc s.data.toList) := rfl
  generalize tailS (crc s.data.toList) = t at *
  generalize crc s.data.toList = c at *
  have HE := Lib.hid he
  have HZ : t.size ≤ 4 := by omega
  clear he ht hz
  go_enter Tryd.func48, Tryd.ntmps48
  go_wp2_with fail
  refine HS.out.mono ?_
  rintro e w1 ⟨rfl, hb1⟩
  go_wp2_with fail
  refine (HC.out _).mono ?_
  rintro e w2 ⟨rfl, hb2⟩
  go_wp2_with fail
  go_returns
  exact ⟨ret_str HE.out.symm, bl hb1 hb2⟩
set_option maxHeartbeats 400000 in
theorem Clone_any (s : ByteArray) (w : World) (hs : s.size ≤ 281474976710656) :
    Calls Tryd.prog 94 #[.string s] w fun e w' => e = .returned (.string s) ∧ Below w.heap.size w w' := by
  go_enter Tryd.func94, Tryd.ntmps94
  go_wp2_with fail
  refine (Tryd.stringslite_Clone s _ hs).mono ?_
  rintro e w1 ⟨rfl, hb1⟩
  go_wp2_with fail
  go_returns
  exact ⟨rfl, hb1⟩

def bodyS (s : ByteArray) : ByteArray := s.extract 0 (s.size - 4)
def endS (s : ByteArray) : ByteArray := s.extract (s.size - 4) s.size
def isSealed (s : ByteArray) : Bool := decide (4 ≤ s.size) && decide (endS s = tailS (crc (bodyS s).data.toList))
def openV (s : ByteArray) : Value := if isSealed s then .tuple #[.string (bodyS s), .bool true] else .tuple #[.string ⟨#[]⟩, .bool false]

set_option maxHeartbeats 400000 in
theorem Open_short (s : ByteArray) (w : World) (h : s.size < 4) :
    Calls Tryd.prog 75 #[.string s] w fun e w' => e = .returned (.tuple #[.string ⟨#[]⟩, .bool false]) ∧ Below w.heap.size w w' := by
  go_enter Tryd.func75, Tryd.ntmps75
  go_wp2_with fail
  go_returns
  exact ⟨rfl, by go_grown⟩
set_option maxHeartbeats 400000 in
theorem Open_yes (s : ByteArray) (w : World) (h : 4 ≤ s.size) (hs : s.size ≤ 140737488355328) (ht : Tab w) (he : endS s = tailS (crc (bodyS s).data.toList)) :
    Calls Tryd.prog 75 #[.string s] w fun e w' => e = .returned (.tuple #[.string (bodyS s), .bool true]) ∧ Below w.heap.size w w' := by
  unfold endS bodyS at *
  have HS := Lib.hid (fun w (ht : Tab w) => Sum_any (s.extract 0 (s.size - 4)) w (by unfold maxLen; rw [ByteArray.size_extract]; omega) ht)
  have HC := Lib.hid (fun w => Tail_any (crc (s.extract 0 (s.size - 4)).data.toList) w)
  have HL := Lib.hid (fun w => Clone_any (s.extract 0 (s.size - 4)) w (by rw [ByteArray.size_extract]; omega))
  generalize tailS (crc (s.extract 0 (s.size - 4)).data.toList) = t at *
  generalize crc (s.extract 0 (s.size - 4)).data.toList = c at *
  have hne : ((s.extract (s.size - 4) s.size).toList == t.toList) = true := by rw [he, str_eq, decide_eq_true rfl]
  have HT := Lib.hid ht
  clear he ht
  go_enter Tryd.func75, Tryd.ntmps75
  go_wp2_with fail
  go_quiet (fail)
  go_wp2_with fail
  refine (HS.out _ (HT.out.drewN _)).mono ?_
  rintro e w1 ⟨rfl, hb1⟩
  go_wp2_with fail
  refine (HC.out _).mono ?_
  rintro e w2 ⟨rfl, hb2⟩
  go_wp2_with fail
  refine (HL.out _).mono ?_
  rintro e w3 ⟨rfl, hb3⟩
  go_wp2_with fail
  go_returns
  exact ⟨rfl, bl (bl (bl (blN (Below.refl _ _) _) hb1) hb2) hb3⟩
set_option maxHeartbeats 400000 in
theorem Open_no (s : ByteArray) (w : World) (h : 4 ≤ s.size) (hs : s.size ≤ 140737488355328) (ht : Tab w) (he : endS s ≠ tailS (crc (bodyS s).data.toList)) :
    Calls Tryd.prog 75 #[.string s] w fun e w' => e = .returned (.tuple #[.string ⟨#[]⟩, .bool false]) ∧ Below w.heap.size w w' := by
  unfold endS bodyS at *
  have HS := Lib.hid (fun w (ht : Tab w) => Sum_any (s.extract 0 (s.size - 4)) w (by unfold maxLen; rw [ByteArray.size_extract]; omega) ht)
  have HC := Lib.hid (fun w => Tail_any (crc (s.extract 0 (s.size - 4)).data.toList) w)
  generalize tailS (crc (s.extract 0 (s.size - 4)).data.toList) = t at *
  generalize crc (s.extract 0 (s.size - 4)).data.toList = c at *
  have hne : ((s.extract (s.size - 4) s.size).toList == t.toList) = false := by rw [str_eq, decide_eq_false he]
  have HT := Lib.hid ht
  clear he ht
  go_enter Tryd.func75, Tryd.ntmps75
  go_wp2_with fail
  go_quiet (fail)
  go_wp2_with fail
  refine (HS.out _ (HT.out.drewN _)).mono ?_
  rintro e w1 ⟨rfl, hb1⟩
  go_wp2_with fail
  refine (HC.out _).mono ?_
  rintro e w2 ⟨rfl, hb2⟩
  go_wp2_with fail
  go_returns
  exact ⟨rfl, bl (bl (blN (Below.refl _ _) _) hb1) hb2⟩
theorem Open_any (s : ByteArray) (w : World) (hs : s.size ≤ 140737488355328) (ht : Tab w) :
    Calls Tryd.prog 75 #[.string s] w fun e w' => e = .returned (openV s) ∧ Below w.heap.size w w' := by
  unfold openV isSealed
  by_cases h : 4 ≤ s.size
  · by_cases he : endS s = tailS (crc (bodyS s).data.toList)
    · rw [decide_eq_true h, decide_eq_true he]; exact Open_yes s w h hs ht he
    · rw [decide_eq_true h, decide_eq_false he]; exact Open_no s w h hs ht he
  · rw [decide_eq_false h]; exact Open_short s w (by omega)

/-! The document's answer. -/
end Go.Proofs.YtaacinhmgmmcaaaDoor.Cr
