/- Texts of ours, joined. -/
import Derived.Test.YteiiogaopgfpfaaNtA
import Derived.Test.YteiiogaopgfpfaaShelf
import Derived.Laws.Cover1

-- joined
section
namespace Go.Proofs.Yteiiogaopgfpfaa.Nt
open Go.ChangeShapes Go.WideShapes Go.ChangeAt Go.RowKit Go.PlainAid Aid Cr
set_option linter.unusedVariables false
set_option linter.unusedSimpArgs false
theorem two_cells {w : World} {g : Nat} {T : TypeId} {a b : Value} (h : Blk w g T #[a, b]) : w.cell? ⟨g, 0, none⟩ = some a ∧ w.cell? ⟨g, 1, none⟩ = some b := ⟨h.cell 0, h.cell 1⟩
theorem ofL_take (l : By) (n : Nat) : (ofL l).extract 0 n = ofL (l.take n) := by
  apply list_inj; rw [Lib.extract_data, List.drop_zero, Nat.sub_zero]; rfl
theorem ofL_drop (l : By) (n : Nat) : (ofL l).extract n (ofL l).size = ofL (l.drop n) := by
  apply list_inj
  rw [Lib.extract_data, ofL_list, ofL_list, ofL_size, List.take_of_length_le]
  rw [List.length_drop]; exact Nat.le_refl _
/-- s[k:] of a string. -/
theorem slice_from {P : Program} {t : TypeId} (ht : P.underlying t = some .string) (s : ByteArray) (k : Nat) (j : Int) (hj : j = k) (h : k ≤ s.size) (w : World) : (Instr.slice t (.string s) (some (.int .i64 j)) none none).run P w = .ok (.string (s.extract k s.size)) w := by
  subst hj
  have := Go.run_slice_string_l (P := P) w t s ht .i64 (k : Int) (by omega) (by omega)
  rw [Int.toNat_natCast] at this
  exact this
theorem append2 {w : World} {g0 : Nat} {x y : Value} (hx : w.cell? ⟨g0, 0, none⟩ = some x) (hy : w.cell? ⟨g0, 1, none⟩ = some y) : ∀ j u, [x, y][j]? = some u → w.cell? ((⟨g0, 0, none⟩ : Addr).add j) = some u := by
  intro j u hu
  rw [addr_zero]
  match j, hu with
  | 0, hu => rw [hx]; exact hu
  | 1, hu => rw [hy]; exact hu
  | j + 2, hu => cases hu
def cells2 {α : Type} (f : α → Value × Value) (l : List α) : List Value := l.flatMap fun x => [(f x).1, (f x).2]
theorem pnum_le (k : Nat) (s : St) : (pnum k s).1 < 256 ^ k := by
  unfold pnum tk
  split
  · exact Nat.pow_pos (by decide)
  · have := unnum_lt (s.rest.take k)
    rw [List.length_take, Nat.min_eq_left (by omega)] at this
    exact this
/-- What goes through bytes: of type T, what is left and whether there were too few. -/
def aSt (T : TypeId) (g : Nat) (s : St) : Asn := Asn.blk g T #[.string (ofL s.rest), .bool s.bad]
theorem st_cells {w : World} {T : TypeId} {g : Nat} {a : ByteArray} {b : Bool} (h : Blk w g T #[.string a, .bool b]) : w.cell? ⟨g, 0, none⟩ = some (.string a) ∧ w.cell? ⟨g, 1, none⟩ = some (.bool b) ∧ w.frozen? ⟨g, 0, none⟩ = false ∧ w.frozen? ⟨g, 1, none⟩ = false := ⟨h.cell 0, h.cell 1, h.free 0, h.free 1⟩
theorem unnum_snoc (t : By) (k : Nat) (x : UInt8) (hx : t[k]? = some x) : unnum (t.take (k + 1)) = unnum (t.take k) + x.toNat * 256 ^ k := by
  induction t generalizing k with
  | nil => cases hx
  | cons b t ih =>
    cases k with
    | zero => simp at hx; subst hx; simp [unnum]
    | succ k =>
      simp only [List.getElem?_cons_succ] at hx
      have := ih k hx
      simp only [List.take_succ_cons, unnum, this, Nat.pow_succ, Nat.mul_add]
      rw [← Nat.mul_assoc x.toNat, Nat.mul_comm 256 (x.toNat * 256 ^ k), Nat.add_assoc]
theorem or_add (n b i : Nat) (hn : n < 2 ^ i) (hs : n + b * 2 ^ i < 9223372036854775808) : bits BinOp.or IntKind.i64 (n : Int) ((b * 2 ^ i : Nat) : Int) = ((n + b * 2 ^ i : Nat) : Int) := by
  show IntKind.i64.wrap (((BitVec.ofInt 64 (n : Int)) ||| (BitVec.ofInt 64 ((b * 2 ^ i : Nat) : Int))).toNat : Int) = _
  rw [BitVec.ofInt_natCast, BitVec.ofInt_natCast, BitVec.toNat_or, BitVec.toNat_ofNat, BitVec.toNat_ofNat, Nat.mod_eq_of_lt (by omega), Nat.mod_eq_of_lt (by omega)]
  have e : n ||| b * 2 ^ i = n + b * 2 ^ i := by
    have := Nat.two_pow_add_eq_or_of_lt hn b
    rw [Nat.or_comm, Nat.mul_comm b, ← this, Nat.add_comm]
  rw [e, IntKind.wrap_i64]
  omega
end Go.Proofs.Yteiiogaopgfpfaa.Nt
end

-- joined
section
namespace Go.Proofs.Yteiiogaopgfpfaa.Nt
open Go.ChangeShapes Go.WideShapes Go.ChangeAt Go.RowKit Go.PlainAid Aid Cr
set_option linter.unusedVariables false
set_option linter.unusedSimpArgs false

theorem ofL_sz (l : By) : (ofL l).size = l.length := rfl

end Go.Proofs.Yteiiogaopgfpfaa.Nt
end

-- joined
section
namespace Go.Proofs.Yteiiogaopgfpfaa.Cr
open Go.ChangeShapes Go.WideShapes Go.ChangeAt Go.RowKit Go.PlainAid Aid
set_option linter.unusedVariables false
set_option linter.unusedSimpArgs false

theorem crc_nine : crc (⟨#[49, 50, 51, 52, 53, 54, 55, 56, 57]⟩ : ByteArray).data.toList = 3421780262#32 := by decide +kernel
theorem crc_none : crc (⟨#[]⟩ : ByteArray).data.toList = 0#32 := by decide +kernel
theorem tail_1234 : tailS 67305985#32 = ⟨#[1, 2, 3, 4]⟩ := by decide +kernel

end Go.Proofs.Yteiiogaopgfpfaa.Cr
end

-- joined
section
namespace Go.Proofs.Yteiiogaopgfpfaa.Cr
open Go.ChangeShapes Go.WideShapes Go.ChangeAt Go.RowKit Go.PlainAid Aid
set_option linter.unusedVariables false
set_option linter.unusedSimpArgs false

theorem bx8 (x y : UInt8) : bits BinOp.xor IntKind.u8 (x.toNat : Int) (y.toNat : Int) = ((x ^^^ y).toNat : Int) := by
  show IntKind.u8.wrap (((BitVec.ofInt 8 (x.toNat : Int)) ^^^ (BitVec.ofInt 8 (y.toNat : Int))).toNat : Int) = _
  rw [BitVec.ofInt_natCast, BitVec.ofInt_natCast, IntKind.wrap_u8, UInt8.toNat_xor, BitVec.toNat_xor, BitVec.toNat_ofNat, BitVec.toNat_ofNat]
  have h1 := x.toNat_lt; have h2 := y.toNat_lt
  rw [Nat.mod_eq_of_lt h1, Nat.mod_eq_of_lt h2]
  have := Nat.xor_lt_two_pow (n := 8) (x := x.toNat) (y := y.toNat) (by omega) (by omega)
  omega
def zip3 (a b c : List UInt8) (k : Nat) : List UInt8 := List.zipWith (· ^^^ ·) (List.zipWith (· ^^^ ·) (a.take k) (b.take k)) (c.take k)
theorem zip3_length (a b c : List UInt8) (k : Nat) (ha : k ≤ a.length) (hb : k ≤ b.length) (hc : k ≤ c.length) : (zip3 a b c k).length = k := by
  unfold zip3; simp only [List.length_zipWith, List.length_take]; omega
theorem zip3_snoc (a b c : List UInt8) (k : Nat) (x y z : UInt8) (hx : a[k]? = some x) (hy : b[k]? = some y) (hz : c[k]? = some z) : zip3 a b c (k + 1) = zip3 a b c k ++ [x ^^^ y ^^^ z] := by
  have ha := (List.getElem?_eq_some_iff.1 hx).1
  have hb := (List.getElem?_eq_some_iff.1 hy).1
  have hc := (List.getElem?_eq_some_iff.1 hz).1
  unfold zip3
  rw [List.take_add_one, List.take_add_one, List.take_add_one, hx, hy, hz]
  simp only [Option.toList_some]
  rw [List.zipWith_append (by simp only [List.length_take]; omega), List.zipWith_append (by simp only [List.length_zipWith, List.length_take]; omega)]
  rfl
theorem crc_zip3 (a b c : List UInt8) (k : Nat) (ha : k ≤ a.length) (hb : k ≤ b.length) (hc : k ≤ c.length) : crc (zip3 a b c k) = crc (a.take k) ^^^ crc (b.take k) ^^^ crc (c.take k) :=
  crc_xor3 _ _ _ (by simp only [List.length_take]; omega) (by simp only [List.length_take]; omega)
theorem byteAt (s : ByteArray) (k : Nat) (h : k < s.size) : ∃ x, s.data.toList[k]? = some x ∧ bt s k = (x.toNat : Int) := by
  have hl : k < s.data.toList.length := by rw [← Lib.size_eq]; exact h
  exact ⟨s.data.toList[k], List.getElem?_eq_getElem hl, by rw [bt_list, List.getD, List.getElem?_eq_getElem hl]; rfl⟩
theorem info_u8 : (Try.prog.info? 5).map (fun i => (i.zero, i.size, i.bytes)) = some (some (.int .u8 0), 1, 1) := by kernel_rfl

end Go.Proofs.Yteiiogaopgfpfaa.Cr
end

-- joined
section
namespace Go.Proofs.Yteiiogaopgfpfaa.Cr
open Go.ChangeShapes Go.WideShapes Go.ChangeAt Go.RowKit Go.PlainAid Aid
set_option linter.unusedVariables false
set_option linter.unusedSimpArgs false

theorem bodyL (s : ByteArray) : (bodyS s).data.toList = s.data.toList.take (s.size - 4) := by unfold bodyS; rw [Lib.extract_data, List.drop_zero, Nat.sub_zero]
theorem endL (s : ByteArray) (h : 4 ≤ s.size) : (endS s).data.toList = s.data.toList.drop (s.size - 4) := by
  unfold endS; rw [Lib.extract_data, List.take_of_length_le]
  rw [List.length_drop, ← Lib.size_eq]; omega
theorem sealL (s : ByteArray) : (sealS s).data.toList = s.data.toList ++ tailL (crc s.data.toList) := by
  unfold sealS; rw [ByteArray.data_append, Array.toList_append]; rfl
theorem body_seal (s : ByteArray) : bodyS (sealS s) = s := by
  apply list_inj
  rw [bodyL, sealS_size, sealL, Nat.add_sub_cancel, List.take_append_of_le_length (by rw [← Lib.size_eq]; exact Nat.le_refl _), List.take_of_length_le (by rw [← Lib.size_eq]; exact Nat.le_refl _)]
theorem end_seal (s : ByteArray) : endS (sealS s) = tailS (crc s.data.toList) := by
  apply list_inj
  rw [endL _ (by rw [sealS_size]; omega), sealS_size, sealL, Nat.add_sub_cancel, List.drop_append_of_le_length (by rw [← Lib.size_eq]; exact Nat.le_refl _), List.drop_of_length_le (by rw [← Lib.size_eq]; exact Nat.le_refl _)]
  rfl
theorem open_seal (s : ByteArray) : openV (sealS s) = .tuple #[.string s, .bool true] := by
  unfold openV isSealed
  rw [body_seal, end_seal, decide_eq_true rfl, sealS_size, decide_eq_true (by omega)]
  rfl
/-- Where bytes are opened, their state is the one of all sealed bytes. -/
theorem sealed_st (t : ByteArray) (h : isSealed t = true) : st ones t.data.toList = advs 32 ones := by
  unfold isSealed at h
  rw [Bool.and_eq_true, decide_eq_true_eq, decide_eq_true_eq] at h
  have hb := bodyL t
  have he := endL t h.1
  rw [h.2] at he
  have : t.data.toList = (bodyS t).data.toList ++ tailL (crc (bodyS t).data.toList) := by
    rw [show tailL (crc (bodyS t).data.toList) = (tailS (crc (bodyS t).data.toList)).data.toList from rfl, he, hb, List.take_append_drop]
  rw [this, st_seal]

/-- Bytes of which the bits of a mask are turned, one after another. -/
def turnL (l : List UInt8) (K : Nat) (m : BitVec 32) : Nat → List UInt8
  | 0 => l
  | j + 1 => (turnL l K m j).set (K + j) ((turnL l K m j).getD (K + j) 0 ^^^ byteOf m j)
theorem turnL_length (l : List UInt8) (K : Nat) (m : BitVec 32) (j : Nat) : (turnL l K m j).length = l.length := by
  induction j with
  | zero => rfl
  | succ j ih => rw [turnL, List.length_set, ih]
theorem turnL_four (p q : List UInt8) (a0 a1 a2 a3 : UInt8) (m : BitVec 32) : turnL (p ++ [a0, a1, a2, a3] ++ q) p.length m 4 = p ++ List.zipWith (· ^^^ ·) [a0, a1, a2, a3] (tailL m) ++ q := by
  have g : ∀ (x : List UInt8) (j : Nat), (p ++ x).getD (p.length + j) 0 = x.getD j 0 := fun x j => by
    simp only [List.getD]; rw [List.getElem?_append_right (by omega)]; congr 2; omega
  have s : ∀ (x : List UInt8) (j : Nat) (u : UInt8), (p ++ x).set (p.length + j) u = p ++ x.set j u := fun x j u => by
    rw [List.set_append_right _ _ (by omega)]; congr 2; omega
  rw [List.append_assoc, List.append_assoc]
  simp only [turnL, g, s]
  rfl
theorem four (l : List UInt8) (K : Nat) (h : K + 4 ≤ l.length) : ∃ p q a0 a1 a2 a3, l = p ++ [a0, a1, a2, a3] ++ q ∧ p.length = K := by
  have hd : (l.drop K).length ≥ 4 := by rw [List.length_drop]; omega
  match hm : l.drop K, hd with
  | a0 :: a1 :: a2 :: a3 :: q, _ =>
    refine ⟨l.take K, q, a0, a1, a2, a3, ?_, by rw [List.length_take]; omega⟩
    conv => lhs; rw [← List.take_append_drop K l, hm]
    simp
/-- WHAT WAS TURNED ISN'T OPENED. -/
theorem told (s : ByteArray) (K : Nat) (m : BitVec 32) (hK : K ≤ s.size) (hm : m ≠ 0#32) : isSealed (ofL (turnL (sealS s).data.toList K m 4)) = false := by
  cases hq : isSealed (ofL (turnL (sealS s).data.toList K m 4)) with
  | false => rfl
  | true =>
    have h1 := sealed_st _ hq
    have h2 := st_seal s.data.toList
    rw [← sealL] at h2
    obtain ⟨p, q, a0, a1, a2, a3, hl, hp⟩ := four (sealS s).data.toList K (by rw [← Lib.size_eq, sealS_size]; omega)
    rw [ofL_list, hl, ← hp, turnL_four] at h1
    rw [hl] at h2
    exact absurd (turned_told p q [a0, a1, a2, a3] [] m _ (zip_turn _ _ _ m rfl rfl) (h1.trans h2.symm)) hm
theorem turn_none (l : List UInt8) (K : Nat) (h : K + 4 ≤ l.length) : turnL l K 0#32 4 = l := by
  obtain ⟨p, q, a0, a1, a2, a3, rfl, rfl⟩ := four l K h
  rw [turnL_four]
  have : tailL 0#32 = [0, 0, 0, 0] := by decide
  rw [this]
  simp

end Go.Proofs.Yteiiogaopgfpfaa.Cr
end

-- joined
section
namespace Go.Proofs.Yteiiogaopgfpfaa.Nt
open Go.ChangeShapes Go.WideShapes Go.ChangeAt Go.RowKit Go.PlainAid Aid Cr
set_option linter.unusedVariables false
set_option linter.unusedSimpArgs false
theorem Row2.of_vec {α : Type} (f : α → Value × Value) {w : World} {e : TypeId} {v : Value} {l : List α} (h : Vec w e 2 v l.length (cells2 f l)) : Row2 f w v l := by
  rcases h.forms with ⟨rfl, h0⟩ | ⟨g, cap, rfl, hg, hn, hc⟩
  · have : l = [] := List.eq_nil_of_length_eq_zero h0
    subst this
    exact Row2.nil f w
  · refine ⟨_, _, rfl, by omega, Or.inr ⟨g, 0, rfl, hg, fun k x hx => ?_⟩⟩
    have key : ∀ (l : List α) (k : Nat) (x : α), l[k]? = some x → (cells2 f l)[k * 2]? = some (f x).1 ∧ (cells2 f l)[k * 2 + 1]? = some (f x).2 := by
      intro l
      induction l with
      | nil => intro k x hx; cases hx
      | cons a l ih =>
        intro k x hx
        cases k with
        | zero => simp at hx; subst hx; simp [cells2]
        | succ k =>
          simp only [List.getElem?_cons_succ] at hx
          have := ih k x hx
          have e : cells2 f (a :: l) = (f a).1 :: (f a).2 :: cells2 f l := by simp [cells2]
          rw [e, show (k + 1) * 2 = k * 2 + 1 + 1 by omega]
          simpa using this
    obtain ⟨h1, h2⟩ := key l k x hx
    rw [Nat.zero_add]
    exact ⟨h.cell h1, h.cell h2⟩
def zeroCells : Array Value := #[.int .i64 0, .int .i64 0, .int .i64 0, .int .i64 0, .slice none 0 0, .int .i64 0, .int .i64 0, .string ⟨#[]⟩, .string ⟨#[]⟩, .slice none 0 0, .slice none 0 0]
theorem eleven {w : World} {g : Nat} {T : TypeId} {a0 a1 a2 a3 a4 a5 a6 a7 a8 a9 a10 : Value} (h : Blk w g T #[a0, a1, a2, a3, a4, a5, a6, a7, a8, a9, a10]) :
    (w.cell? ⟨g, 0, none⟩ = some a0 ∧ w.cell? ⟨g, 1, none⟩ = some a1 ∧ w.cell? ⟨g, 2, none⟩ = some a2 ∧ w.cell? ⟨g, 3, none⟩ = some a3 ∧ w.cell? ⟨g, 4, none⟩ = some a4 ∧ w.cell? ⟨g, 5, none⟩ = some a5 ∧ w.cell? ⟨g, 6, none⟩ = some a6 ∧ w.cell? ⟨g, 7, none⟩ = some a7 ∧ w.cell? ⟨g, 8, none⟩ = some a8 ∧ w.cell? ⟨g, 9, none⟩ = some a9 ∧ w.cell? ⟨g, 10, none⟩ = some a10) ∧
    (w.frozen? ⟨g, 0, none⟩ = false ∧ w.frozen? ⟨g, 1, none⟩ = false ∧ w.frozen? ⟨g, 2, none⟩ = false ∧ w.frozen? ⟨g, 3, none⟩ = false ∧ w.frozen? ⟨g, 4, none⟩ = false ∧ w.frozen? ⟨g, 5, none⟩ = false ∧ w.frozen? ⟨g, 6, none⟩ = false ∧ w.frozen? ⟨g, 7, none⟩ = false ∧ w.frozen? ⟨g, 8, none⟩ = false ∧ w.frozen? ⟨g, 9, none⟩ = false ∧ w.frozen? ⟨g, 10, none⟩ = false) :=
  ⟨⟨h.cell 0, h.cell 1, h.cell 2, h.cell 3, h.cell 4, h.cell 5, h.cell 6, h.cell 7, h.cell 8, h.cell 9, h.cell 10⟩, ⟨h.free 0, h.free 1, h.free 2, h.free 3, h.free 4, h.free 5, h.free 6, h.free 7, h.free 8, h.free 9, h.free 10⟩⟩
section
variable {w0 w : World} {O0 : Nat → Prop} {A : Asn} {g : Nat} {T : TypeId} {a0 a1 a2 a3 a4 a5 a6 a7 a8 a9 a10 : Value}
theorem set_l {cs : Array Value} (h : Own w0 O0 w (Asn.blk g T cs * A)) (i : Nat) (u : Value) (cs' : Array Value) (e : cs.setIfInBounds i u = cs') : Own w0 O0 (w.setCell ⟨g, i, none⟩ u) (Asn.blk g T cs' * A) := e ▸ h.set (Sets.l (sets_blk _ _ _ i u))
/-- A block of eleven cells is written, cell for cell. -/
theorem own_eleven (h : Own w0 O0 w (Asn.blk g T #[a0, a1, a2, a3, a4, a5, a6, a7, a8, a9, a10] * A)) (b0 b1 b2 b3 b4 b5 b6 b7 b8 b9 b10 : Value) :
    Own w0 O0 (((((((((((w.setCell ⟨g, 0, none⟩ b0).setCell ⟨g, 1, none⟩ b1).setCell ⟨g, 2, none⟩ b2).setCell ⟨g, 3, none⟩ b3).setCell ⟨g, 4, none⟩ b4).setCell ⟨g, 5, none⟩ b5).setCell ⟨g, 6, none⟩ b6).setCell ⟨g, 7, none⟩ b7).setCell ⟨g, 8, none⟩ b8).setCell ⟨g, 9, none⟩ b9).setCell ⟨g, 10, none⟩ b10)
      (Asn.blk g T #[b0, b1, b2, b3, b4, b5, b6, b7, b8, b9, b10] * A) := by
  have h0 := set_l h 0 b0 #[b0, a1, a2, a3, a4, a5, a6, a7, a8, a9, a10] rfl
  have h1 := set_l h0 1 b1 #[b0, b1, a2, a3, a4, a5, a6, a7, a8, a9, a10] rfl
  have h2 := set_l h1 2 b2 #[b0, b1, b2, a3, a4, a5, a6, a7, a8, a9, a10] rfl
  have h3 := set_l h2 3 b3 #[b0, b1, b2, b3, a4, a5, a6, a7, a8, a9, a10] rfl
  have h4 := set_l h3 4 b4 #[b0, b1, b2, b3, b4, a5, a6, a7, a8, a9, a10] rfl
  have h5 := set_l h4 5 b5 #[b0, b1, b2, b3, b4, b5, a6, a7, a8, a9, a10] rfl
  have h6 := set_l h5 6 b6 #[b0, b1, b2, b3, b4, b5, b6, a7, a8, a9, a10] rfl
  have h7 := set_l h6 7 b7 #[b0, b1, b2, b3, b4, b5, b6, b7, a8, a9, a10] rfl
  have h8 := set_l h7 8 b8 #[b0, b1, b2, b3, b4, b5, b6, b7, b8, a9, a10] rfl
  have h9 := set_l h8 9 b9 #[b0, b1, b2, b3, b4, b5, b6, b7, b8, b9, a10] rfl
  have h10 := set_l h9 10 b10 #[b0, b1, b2, b3, b4, b5, b6, b7, b8, b9, b10] rfl
  exact h10
end
theorem lists_order {w0 w : World} {O0 : Nat → Prop} {A B C D : Asn} (h : Own w0 O0 w (A * (B * (C * D)))) : Own w0 O0 w ((A * (B * C)) * D) := by
  have h1 := h.assoc'.assoc'
  exact h1.imp (Imp.l (fun _ _ => sep_assoc))
end Go.Proofs.Yteiiogaopgfpfaa.Nt
end

-- joined
section
namespace Go.Proofs.Yteiiogaopgfpfaa.Nt
open Go.ChangeShapes Go.WideShapes Go.ChangeAt Go.RowKit Go.PlainAid Aid Cr
set_option linter.unusedVariables false
set_option linter.unusedSimpArgs false
theorem body_ofL (l : By) : bodyS (ofL l) = ofL (l.take (l.length - 4)) := by unfold bodyS; rw [ofL_sz, ofL_take]
theorem sealed_ofL (l : By) : isSealed (ofL l) = sealedL l := by
  unfold isSealed sealedL endS
  rw [body_ofL]
  by_cases h : 4 ≤ l.length
  · have e : (ofL l).extract ((ofL l).size - 4) (ofL l).size = ofL (l.drop (l.length - 4)) := by rw [← ofL_drop]; rfl
    rw [e, ofL_sz, decide_eq_true h, Bool.true_and, Bool.true_and]
    congr 1
    apply propext
    constructor
    · intro h; exact ofL_inj h
    · intro h; rw [h]; rfl
  · rw [ofL_sz, decide_eq_false h]; rfl
theorem pnum_few (s : By) (h : s.length < 4) : pnum 4 ⟨s, false⟩ = (0, ⟨s, true⟩) := by unfold pnum tk; rw [if_pos h]; rfl
theorem pnum_hd (s : By) (h : ¬ s.length < 4) : pnum 4 ⟨s, false⟩ = (hd s, ⟨s.drop 4, false⟩) := by unfold hd pnum tk; rw [if_neg h]
def openN (s : By) : Value := if few s = true then .tuple #[.string ⟨#[]⟩, .bool false] else if sealedL (s.take (hd s + 8)) = false then .tuple #[.string ⟨#[]⟩, .bool false] else .tuple #[.string (ofL (inner s)), .bool true]
end Go.Proofs.Yteiiogaopgfpfaa.Nt
end
