/- Texts of ours, joined. -/
import Derived.Shelf.Strings.Builder1
import Derived.Shelf.Strings.BuilderF
import Derived.Shelf.Strings.BuilderK
import Derived.Shelf.Strings.BuilderCap
import Derived.Test.YthoaangmekkcmaaProg
import Derived.Test.YthoaangmekkcmaaAid
import Derived.Test.YthoaangmekkcmaaRows
import Derived.Test.YthoaangmekkcmaaSep

-- joined
section
namespace Go.Proofs
open Go.Shelf
def Try.lays169_ren : Go.Shelf.Ren := ⟨fun | 169 => 69 | n => n, fun | 70 => 135 | 9 => 9 | 0 => 0 | 72 => 137 | 37 => 63 | 127 => 149 | 3 => 3 | 5 => 5 | n => n, fun | n => n⟩
theorem Try.lays169 : Go.Proofs.Lays.n169 Try.prog Try.lays169_ren := {
  mixed := by kernel_rfl
  f169 := Try.func69.trans (congrArg some (by kernel_rfl))
  t0 := Try.underlying0
  a0 := Try.isAgg0
  z0 := Try.sizeOf0
  v0 := Try.zeroValue0
  t3 := Try.underlying3
  a3 := Try.isAgg3
  z3 := Try.sizeOf3
  v3 := Try.zeroValue3
  t9 := Try.underlying9
  a9 := Try.isAgg9
  z9 := Try.sizeOf9
  v9 := Try.zeroValue9
  t37 := Try.underlying63
  a37 := Try.isAgg63
  z37 := Try.sizeOf63
  v37 := Try.zeroValue63
  t70 := Try.underlying135
  a70 := Try.isAgg135
  z70 := Try.sizeOf135
  v70 := Try.zeroValue135
  t72 := Try.underlying137
  a72 := Try.isAgg137
  z72 := Try.sizeOf137
  v72 := Try.zeroValue137
  t127 := Try.underlying149
  a127 := Try.isAgg149
  z127 := Try.sizeOf149
  v127 := Try.zeroValue149 }
theorem Try.Builder_Extra_169 : Builder.Extra Try.prog Try.lays169_ren := {
  sizeBuilder := by kernel_rfl
  liesBuilder := by kernel_rfl
  t5 := Try.underlying5
  a5 := Try.isAgg5
  z5 := Try.sizeOf5
  v5 := Try.zeroValue5
  infoByte := by kernel_rfl
  cellsByte := by kernel_rfl
  sizeByte := by kernel_rfl
  neB5 := by decide }
open Go.RowKit in
theorem Try.Builder_String (B b : Nat) (l : List UInt8) (w : World) (h : Lib.IsBuilder 137 5 B b (Lib.byteCells l) w) (h0 : l ≠ []) :
    Calls Try.prog 69 #[.pointer (some ⟨b, 0, none⟩)] w fun e w' => e = .returned (.string ⟨l.toArray⟩) ∧ Below B w w' := Any.Builder_String Try.lays169 Try.Builder_Extra_169 B b l w h h0
open Go.RowKit in
theorem Try.Builder_String_empty (B b : Nat) (w : World) (h : Lib.IsBuilder 137 5 B b [] w) (hBw : B ≤ w.heap.size) :
    Calls Try.prog 69 #[.pointer (some ⟨b, 0, none⟩)] w fun e w' => e = .returned (.string ⟨#[]⟩) ∧ Below B w w' := Any.Builder_String_empty Try.lays169 Try.Builder_Extra_169 B b w h hBw
open Go.RowKit in
theorem Try.Builder_String_any (B b : Nat) (l : List UInt8) (w : World) (h : Lib.IsBuilder 137 5 B b (Lib.byteCells l) w) (hBw : B ≤ w.heap.size) :
    Calls Try.prog 69 #[.pointer (some ⟨b, 0, none⟩)] w fun e w' => e = .returned (.string ⟨l.toArray⟩) ∧ Below B w w' := Any.Builder_String_any Try.lays169 Try.Builder_Extra_169 B b l w h hBw
open Go.RowKit in
theorem Try.Builder_String_f (B b : Nat) (l : List UInt8) (w : World) (h : Lib.IsBuilderF 137 5 B b (Lib.byteCells l) w) (h0 : l ≠ []) :
    Calls Try.prog 69 #[.pointer (some ⟨b, 0, none⟩)] w fun e w' => e = .returned (.string ⟨l.toArray⟩) ∧ (Lib.IsBuilderF 137 5 B b (Lib.byteCells l) w' ∧ Below B w w') := Any.Builder_String_f Try.lays169 Try.Builder_Extra_169 B b l w h h0
open Go.RowKit in
theorem Try.Builder_String_empty_f (B b : Nat) (w : World) (h : Lib.IsBuilderF 137 5 B b [] w) (hBw : B ≤ w.heap.size) :
    Calls Try.prog 69 #[.pointer (some ⟨b, 0, none⟩)] w fun e w' => e = .returned (.string ⟨#[]⟩) ∧ (Lib.IsBuilderF 137 5 B b [] w' ∧ Below B w w') := Any.Builder_String_empty_f Try.lays169 Try.Builder_Extra_169 B b w h hBw
open Go.RowKit in
theorem Try.Builder_String_any_f (B b : Nat) (l : List UInt8) (w : World) (h : Lib.IsBuilderF 137 5 B b (Lib.byteCells l) w) (hBw : B ≤ w.heap.size) :
    Calls Try.prog 69 #[.pointer (some ⟨b, 0, none⟩)] w fun e w' => e = .returned (.string ⟨l.toArray⟩) ∧ (Lib.IsBuilderF 137 5 B b (Lib.byteCells l) w' ∧ Below B w w') := Any.Builder_String_any_f Try.lays169 Try.Builder_Extra_169 B b l w h hBw
open Go.RowKit in
theorem Try.Builder_String_k (B b : Nat) (l : List UInt8) (w : World) (h : Lib.IsBuilderF 137 5 B b (Lib.byteCells l) w) (h0 : l ≠ []) :
    Calls Try.prog 69 #[.pointer (some ⟨b, 0, none⟩)] w fun e w' => e = .returned (.string ⟨l.toArray⟩) ∧ (Lib.IsBuilderF 137 5 B b (Lib.byteCells l) w' ∧ Below B w w' ∧ Lib.OthersKept 5 (some b) w w') := Any.Builder_String_k Try.lays169 Try.Builder_Extra_169 B b l w h h0
open Go.RowKit in
theorem Try.Builder_String_empty_k (B b : Nat) (w : World) (h : Lib.IsBuilderF 137 5 B b [] w) (hBw : B ≤ w.heap.size) :
    Calls Try.prog 69 #[.pointer (some ⟨b, 0, none⟩)] w fun e w' => e = .returned (.string ⟨#[]⟩) ∧ (Lib.IsBuilderF 137 5 B b [] w' ∧ Below B w w' ∧ Lib.OthersKept 5 (some b) w w') := Any.Builder_String_empty_k Try.lays169 Try.Builder_Extra_169 B b w h hBw
open Go.RowKit in
theorem Try.Builder_String_any_k (B b : Nat) (l : List UInt8) (w : World) (h : Lib.IsBuilderF 137 5 B b (Lib.byteCells l) w) (hBw : B ≤ w.heap.size) :
    Calls Try.prog 69 #[.pointer (some ⟨b, 0, none⟩)] w fun e w' => e = .returned (.string ⟨l.toArray⟩) ∧ (Lib.IsBuilderF 137 5 B b (Lib.byteCells l) w' ∧ Below B w w' ∧ Lib.OthersKept 5 (some b) w w') := Any.Builder_String_any_k Try.lays169 Try.Builder_Extra_169 B b l w h hBw
end Go.Proofs
end

-- joined
section
namespace Go.Proofs.Ythoaangmekkcmaa.Cr
open Go.ChangeShapes Go.WideShapes Go.ChangeAt Go.RowKit Go.PlainAid Aid
set_option linter.unusedVariables false
set_option linter.unusedSimpArgs false

theorem nx (a b : BitVec 32) : bits BinOp.xor IntKind.u32 (a.toNat : Int) (b.toNat : Int) = ((a ^^^ b).toNat : Int) := by
  show IntKind.u32.wrap (((BitVec.ofInt 32 (a.toNat : Int)) ^^^ (BitVec.ofInt 32 (b.toNat : Int))).toNat : Int) = _
  rw [BitVec.ofInt_natCast, BitVec.ofInt_natCast, BitVec.ofNat_toNat, BitVec.ofNat_toNat, BitVec.setWidth_eq, BitVec.setWidth_eq, IntKind.wrap_u32]
  have := (a ^^^ b).isLt
  omega
theorem na (a b : BitVec 32) : bits BinOp.and IntKind.u32 (a.toNat : Int) (b.toNat : Int) = ((a &&& b).toNat : Int) := by
  show IntKind.u32.wrap (((BitVec.ofInt 32 (a.toNat : Int)) &&& (BitVec.ofInt 32 (b.toNat : Int))).toNat : Int) = _
  rw [BitVec.ofInt_natCast, BitVec.ofInt_natCast, BitVec.ofNat_toNat, BitVec.ofNat_toNat, BitVec.setWidth_eq, BitVec.setWidth_eq, IntKind.wrap_u32]
  have := (a &&& b).isLt
  omega
theorem nn (a : BitVec 32) : bits BinOp.xor IntKind.u32 IntKind.u32.max (a.toNat : Int) = ((~~~ a).toNat : Int) := by
  have := nx (BitVec.allOnes 32) a
  rw [BitVec.allOnes_xor] at this
  exact this
/-! The document's answer, bit by bit. -/
end Go.Proofs.Ythoaangmekkcmaa.Cr
end

-- joined
section
namespace Go.Proofs.Ythoaangmekkcmaa.Cr
open Go.ChangeShapes Go.WideShapes Go.ChangeAt Go.RowKit Go.PlainAid Aid
set_option linter.unusedVariables false
set_option linter.unusedSimpArgs false

/-! The document's answer. -/
end Go.Proofs.Ythoaangmekkcmaa.Cr
end

-- joined
section
namespace Go.Proofs.Ythoaangmekkcmaa.Nd
open Go.ChangeShapes Go.WideShapes Go.ChangeAt Go.RowKit Go.PlainAid Aid Cr Nt
set_option linter.unusedVariables false
set_option linter.unusedSimpArgs false
theorem ofL_sz (l : By) : (ofL l).size = l.length := rfl
theorem ofL_toList (l : By) : (ofL l).toList = l := by rw [ByteArray.toList_eq]; rfl
theorem less (a b : By) : Go.Op.bytesLess (ofL a).toList (ofL b).toList = lt a b := by rw [ofL_toList, ofL_toList]; rfl

/-- A row of entries. -/
def Row3 (w : World) (v : Value) (l : List Ent) : Prop :=
  ∃ A c, v = .slice A l.length c ∧ l.length ≤ maxLen ∧ (l = [] ∨ ∃ b o, A = some ⟨b, o, none⟩ ∧ b < w.heap.size ∧ ∀ (k : Nat) (x : Ent), l[k]? = some x →
    w.cell? ⟨b, o + k * 3, none⟩ = some (.string (ofL x.key)) ∧ w.cell? ⟨b, o + k * 3 + 1, none⟩ = some (.string (ofL x.val)) ∧ w.cell? ⟨b, o + k * 3 + 2, none⟩ = some (.bool x.ghost))
theorem Row3.keep {w w' : World} {v : Value} {l : List Ent} (h : Row3 w v l) (hb : Below w.heap.size w w') : Row3 w' v l := by
  obtain ⟨A, c, hv, hm, h⟩ := h
  refine ⟨A, c, hv, hm, h.imp_right fun ⟨b, o, hA, hl, hc⟩ => ⟨b, o, hA, by have := hb.size; omega, fun k x hx => ?_⟩⟩
  rw [(bcell hb).1 _ _ hl, (bcell hb).1 _ _ hl, (bcell hb).1 _ _ hl]
  exact hc k x hx
theorem Row3.nil (w : World) : Row3 w (.slice none 0 0) [] := ⟨none, 0, rfl, Nat.zero_le _, Or.inl rfl⟩
theorem Row3.at {w : World} {A : Option Addr} {m c : Nat} {l : List Ent} (h : Row3 w (.slice A m c) l) {k : Nat} {x : Ent} (hx : l[k]? = some x) :
    ∃ b o, A = some ⟨b, o, none⟩ ∧ b < w.heap.size ∧ w.cell? ⟨b, o + k * 3, none⟩ = some (.string (ofL x.key)) ∧ w.cell? ⟨b, o + k * 3 + 1, none⟩ = some (.string (ofL x.val)) ∧ w.cell? ⟨b, o + k * 3 + 2, none⟩ = some (.bool x.ghost) := by
  obtain ⟨A', c', hv, hm, h⟩ := h
  cases hv
  rcases h with rfl | ⟨b, o, rfl, hl, hc⟩
  · cases hx
  · exact ⟨b, o, rfl, hl, hc k x hx⟩
theorem Row3.at' {w : World} {b o m c : Nat} {l : List Ent} (h : Row3 w (.slice (some ⟨b, o, none⟩) m c) l) {k : Nat} {x : Ent} (hx : l[k]? = some x) :
    w.cell? ⟨b, o + k * 3, none⟩ = some (.string (ofL x.key)) ∧ w.cell? ⟨b, o + k * 3 + 1, none⟩ = some (.string (ofL x.val)) ∧ w.cell? ⟨b, o + k * 3 + 2, none⟩ = some (.bool x.ghost) := by
  obtain ⟨b', o', h1, -, h2⟩ := h.at hx
  cases h1
  exact h2
theorem Row3.len {w : World} {A : Option Addr} {m c : Nat} {l : List Ent} (h : Row3 w (.slice A m c) l) : m = l.length ∧ m ≤ maxLen := by
  obtain ⟨A', c', hv, hm, h⟩ := h
  cases hv
  exact ⟨rfl, hm⟩
theorem Row3.slice {w : World} {v : Value} {l : List Ent} (h : Row3 w v l) : ∃ A c, v = .slice A l.length c := by
  obtain ⟨A, c, hv, -⟩ := h; exact ⟨A, c, hv⟩
def entCells (e : Ent) : Array Value := #[.string (ofL e.key), .string (ofL e.val), .bool e.ghost]
def nodCells (n : Nod) (p : Value) : Array Value := #[.int .i64 n.tree, .int .i64 n.level, .int .i64 n.stamp, .bool n.has, .string (ofL n.high), .int .i64 n.right, p]
/-- The value v is the node n. -/
def NodAt (w : World) (v : Value) (n : Nod) : Prop := ∃ p, v = .agg (nodCells n p) ∧ Row3 w p n.list
theorem NodAt.keep {w w' : World} {v : Value} {n : Nod} (h : NodAt w v n) (hb : Below w.heap.size w w') : NodAt w' v n := by
  obtain ⟨p, hv, h1⟩ := h
  exact ⟨p, hv, h1.keep hb⟩
theorem nod_cells {w : World} {g : Nat} {T : TypeId} {a b c d e f p : Value} (h : Blk w g T #[a, b, c, d, e, f, p]) :
    w.cell? ⟨g, 0, none⟩ = some a ∧ w.cell? ⟨g, 1, none⟩ = some b ∧ w.cell? ⟨g, 2, none⟩ = some c ∧ w.cell? ⟨g, 3, none⟩ = some d ∧ w.cell? ⟨g, 4, none⟩ = some e ∧ w.cell? ⟨g, 5, none⟩ = some f ∧ w.cell? ⟨g, 6, none⟩ = some p :=
  ⟨h.cell 0, h.cell 1, h.cell 2, h.cell 3, h.cell 4, h.cell 5, h.cell 6⟩
theorem ent_cells {w : World} {g : Nat} {T : TypeId} {a b c : Value} (h : Blk w g T #[a, b, c]) :
    w.cell? ⟨g, 0, none⟩ = some a ∧ w.cell? ⟨g, 1, none⟩ = some b ∧ w.cell? ⟨g, 2, none⟩ = some c := ⟨h.cell 0, h.cell 1, h.cell 2⟩
theorem nil_str (l : By) : ((ofL l).toList == (⟨#[]⟩ : ByteArray).toList) = decide (l = []) := by
  rw [str_eq]
  congr 1
  apply propext
  constructor
  · intro h; exact ofL_inj (m := []) h
  · rintro rfl; rfl

/-! The parts. -/
set_option maxHeartbeats 400000 in
theorem within_any (n hi : Int) (w : World) :
    Calls Try.prog 63 #[.int .i64 n, .int .i64 hi] w fun e w' => e = .returned (.bool (inN n hi)) ∧ w' = w := by
  unfold inN
  by_cases h : 0 ≤ n
  · go_enter Try.func63, Try.ntmps63
    go_wp2_with fail
    go_returns
    simp [h]
  · go_enter Try.func63, Try.ntmps63
    go_wp2_with fail
    go_returns
    simp [h]
    omega
set_option maxHeartbeats 1000000 in
theorem goodHigh_any (n : Nod) (p : Value) (w : World) :
    Calls Try.prog 64 #[.agg (nodCells n p)] w fun e w' => e = .returned (.bool (gHigh n)) ∧ Below w.heap.size w w' := by
  have S := Lib.hid ((Own.none w).alloc (nodCells n p) 52).left
  unfold gHigh nodCells at *
  generalize n.has = hb at *
  have hz : n.high.length = (ofL n.high).size := rfl
  have hn := nil_str n.high
  rw [hz]
  generalize decide (n.high = []) = q at *
  generalize ofL n.high = h at *
  cases hb
  · go_enter Try.func64, Try.ntmps64
    go_wp2_with fail
    go_returns
    exact ⟨ret_bool (by simpa using hn), S.out.bel⟩
  · clear hn
    by_cases h9 : h.size = 9
    all_goals
      go_enter Try.func64, Try.ntmps64
      go_wp2_with fail
      go_returns
      exact ⟨ret_bool (by simp [h9] <;> omega), S.out.bel⟩
set_option maxHeartbeats 1000000 in
theorem Covers_any (n : Nod) (p : Value) (k : By) (w : World) :
    Calls Try.prog 70 #[.agg (nodCells n p), .string (ofL k)] w fun e w' => e = .returned (.bool (cov n k)) ∧ Below w.heap.size w w' := by
  have S := Lib.hid ((Own.none w).alloc (nodCells n p) 52).left
  unfold cov nodCells at *
  generalize n.has = hb at *
  have hn := less k n.high
  generalize lt k n.high = q at *
  generalize ofL n.high = h at *
  generalize ofL k = x at *
  cases hb
  all_goals
    go_enter Try.func70, Try.ntmps70
    go_wp2_with fail
    go_returns
    exact ⟨ret_bool (by simp [hn]), S.out.bel⟩
set_option maxHeartbeats 1000000 in
theorem goodEntry_any (e : Ent) (lv : Int) (w : World) :
    Calls Try.prog 73 #[.agg (entCells e), .int .i64 lv] w fun r w' => r = .returned (.bool (gEnt lv e)) ∧ Below w.heap.size w w' := by
  have S := Lib.hid ((Own.none w).alloc (entCells e) 44).left
  unfold gEnt entCells at *
  rw [← ofL_sz e.key, ← ofL_sz e.val]
  generalize ofL e.key = x at *
  generalize ofL e.val = y at *
  generalize e.ghost = b at *
  by_cases h1 : x.size = 9
  · by_cases h2 : 0 < lv
    · by_cases h3 : y.size = 2
      all_goals
        go_enter Try.func73, Try.ntmps73
        go_wp2_with fail
        go_returns
        exact ⟨ret_bool (by first | rfl | (simp [h1, h2, h3] <;> omega)), S.out.bel⟩
    · have e : (decide (x.size = 9) && if 0 < lv then decide (y.size = 2) && !b else decide (y.size ≤ 100)) = decide ((y.size : Int) ≤ 100) := by
        rw [decide_eq_true h1, if_neg h2, Bool.true_and]; exact decide_eq_decide.2 (by omega)
      rw [e]
      clear e
      go_enter Try.func73, Try.ntmps73
      go_wp2_with fail
      go_returns
      exact ⟨rfl, S.out.bel⟩
  · have hne : ((x.size : Int) != 9) = true := by simp [bne_iff_ne]; omega
    have hd : decide (x.size = 9) = false := decide_eq_false h1
    rw [hd, Bool.false_and]
    by_cases h2 : 0 < lv
    all_goals
      go_enter Try.func73, Try.ntmps73
      go_wp2_with fail
      go_returns
      exact ⟨rfl, S.out.bel⟩
set_option maxHeartbeats 2000000 in
theorem Size_any (n : Nod) (v : Value) (w : World) (hv : NodAt w v n) (hs : sizeN n < 4611686018427387904) :
    Calls Try.prog 66 #[v] w fun e w' => e = .returned (.int .i64 (sizeN n)) ∧ Below w.heap.size w w' := by
  obtain ⟨p, rfl, hp⟩ := hv
  obtain ⟨A1, m1, rfl⟩ := hp.slice
  have hm1 := hp.len.2
  unfold maxLen at hm1
  have S := Lib.hid ((Own.none w).alloc (nodCells n (.slice A1 n.list.length m1)) 52).left
  have HP := Lib.hid hp
  have HS := Lib.hid hs
  have HZ : Hid (∀ k, 20 + sizeL (n.list.take k) ≤ sizeN n) := Lib.hid (fun k => by have := sizeL_le n.list k; unfold sizeN; omega)
  clear hp hs
  unfold nodCells at *
  go_enter Try.func66, Try.ntmps66
  go_wp2_with fail
  obtain ⟨g, hgz⟩ : ∃ g, g = w.heap.size := ⟨_, rfl⟩
  rw [← hgz] at S ⊢
  clear hgz
  generalize w.alloc _ = w1 at *
  obtain ⟨-, -, -, -, -, -, c6⟩ := nod_cells (S.out.has (has_blk _ _ _))
  go_wp2_with fail
  go_loopw [3, 9] (fun s i wr => ∃ k : Nat, k ≤ n.list.length ∧ i = .int .i64 k ∧ s = .int .i64 ((20 + sizeL (n.list.take k) : Nat) : Int) ∧ Hid (Own w No wr (Asn.blk g 52 (nodCells n (.slice A1 n.list.length m1))))) (fun _ i _ => n.list.length - (intOf i).toNat)
  case atStart => exact ⟨0, Nat.zero_le _, rfl, rfl, S⟩
  case round =>
    clear S c6
    obtain ⟨k, hk, rfl, rfl, X⟩ := hrel
    by_cases hlt : k < n.list.length
    · obtain ⟨x, hx⟩ : ∃ x, n.list[k]? = some x := ⟨n.list[k]'(by omega), List.getElem?_eq_getElem _⟩
      obtain ⟨b, o, rfl, hbl, c0, c1, c2⟩ := (HP.out.keep X.out.bel).at hx
      have X1 := Lib.hid (X.out.alloc (entCells x) 44).right
      have hst := sizeL_take n.list k x hx
      have h1 := HZ.out (k + 1)
      have h2 := HS.out
      rw [hst] at h1
      have HT := Lib.hid hst
      rw [← ofL_sz x.val] at h1
      have hb : Hid ((ofL x.val).size = x.val.length) := Lib.hid rfl
      unfold entCells at *
      generalize ofL x.val = y at *
      generalize ofL x.key = z at *
      clear hst hx X
      go_wp2_with fail
      go_round
      case rel => exact ⟨k + 1, by omega, by go_num, by rw [HT.out, ← hb.out]; go_num, X1⟩
      case measure => simp [intOf]; omega
    · obtain rfl : k = n.list.length := by omega
      rw [List.take_length]
      go_wp2_with fail
      go_returns
      exact ⟨rfl, X.out.bel⟩
end Go.Proofs.Ythoaangmekkcmaa.Nd
end
