/- The document's numbers, and its cursor. -/
import Derived.Test.YtciamgggblajoaaDoorNtR
import Derived.Test.YtciamgggblajoaaDoorNtW
import Derived.Deep.CutBlock
namespace Go.Proofs.YtciamgggblajoaaDoor.Nt
open Go.ChangeShapes Go.WideShapes Go.ChangeAt Go.RowKit Go.PlainAid Aid Cr
set_option linter.unusedVariables false
set_option linter.unusedSimpArgs false
theorem byteInfo2 : (Tryd.prog.info? 5).map (fun i => (i.zero, i.size, i.bytes)) = some (some (.int .u8 0), 1, 1) := by kernel_rfl
theorem byteCells_snoc (l : By) (c : UInt8) : Lib.byteCells (l ++ [c]) = Lib.byteCells l ++ [.int .u8 c.toNat] := by simp [Lib.byteCells]
theorem Own.emptyVec {w : World} (e : TypeId) : Own w No (w.alloc (.cells #[] e)) (Asn.vec e 1 (.slice (some ⟨w.heap.size, 0, none⟩) 0 0) 0 []) :=
  ⟨⟨(VB (.slice (some ⟨w.heap.size, 0, none⟩) 0 0)), ⟨⟨rfl, Or.inr ⟨w.heap.size, 0, #[], rfl, Nat.zero_le _, heap_alloc_new w _, Nat.le_refl _, Nat.zero_le _, rfl, rfl⟩⟩, fun _ => Iff.rfl⟩, fun k hk => Or.inr (by simp only [VB, Value.ownBlock, Option.some.injEq] at hk; omega)⟩, (Chg.refl _ _).alloc _⟩
set_option maxRecDepth 100000 in
set_option maxHeartbeats 4000000 in
theorem refNum_any (n : Nat) (k : Nat) (w : World) (hk : k ≤ 4) (hn : n < 9223372036854775808) :
    Calls Tryd.prog 58 #[.int .i64 n, .int .i64 k] w fun e w' => e = .returned (.string (ofL (numL k n))) ∧ Below w.heap.size w w' := by
  have S := Lib.hid (Own.emptyVec (w := w) 5)
  go_enter Tryd.func58, Tryd.ntmps58
  go_upto_region 2 with fail
  generalize w.alloc _ = w1 at *
  go_wp2_with fail
  go_loopw [5, 6] (fun v i wr => ∃ j : Nat, j ≤ k ∧ i = .int .i64 j ∧ Hid (Own w No wr (Asn.vec 5 1 v j (Lib.byteCells (numL j n))))) (fun _ i _ => k - (intOf i).toNat)
  case atStart => exact ⟨0, Nat.zero_le _, rfl, S⟩
  case round =>
    clear S
    obtain ⟨j, hj, rfl, X⟩ := hrel
    obtain ⟨A, c, rfl⟩ := X.out.addEmp.vec.slice
    by_cases hlt : j < k
    · have hm : j = 0 ∨ j = 1 ∨ j = 2 ∨ j = 3 := by omega
      rcases hm with rfl | rfl | rfl | rfl
      · obtain ⟨y, hy⟩ : ∃ y : UInt8, y = UInt8.ofNat (n / 256 ^ 0 % 256) := ⟨_, rfl⟩
        have hsn : Lib.byteCells (numL (0 + 1) n) = Lib.byteCells (numL 0 n) ++ [.int .u8 y.toNat] := by rw [numL_snoc, byteCells_snoc, ← hy]
        have hyv : (n : Int) % 256 = (y.toNat : Int) := by
          have : y.toNat = n / 256 ^ 0 % 256 := by rw [hy]; simp
          rw [this]; simp
        have HSN := Lib.hid hsn
        clear hy hsn
        have X2 := Lib.hid (X.out.addEmp.alloc #[.int .u8 y.toNat] 5).right
        have CX : Hid (Src Tryd.prog 1 85 (.slice (some ⟨wr.heap.size, 0, none⟩) 1 1) 1 [.int .u8 y.toNat] (wr.alloc (.cells #[.int .u8 y.toNat] 5))) := Lib.hid (Src.ofSlice _ Tryd.underlying85 _ 1 1 _ rfl (append1 ((Blk.new wr #[.int .u8 y.toNat] 5).cell 0)) (by intro u hu; simp at hu; subst hu; rfl))
        go_wp2_with (with_reducible refine wpList_append_vec rfl (.tmp 13) (.tmp 19) 85 85 rfl 5 (.int .u8 0) 1 1 Tryd.underlying85 byteInfo2 ?c1 ?c2 _ 0 (Lib.byteCells (numL 0 n)) ?c7 X2.out.vec (.slice (some ⟨wr.heap.size, 0, none⟩) 1 1) ?c8 1 _ CX.out ?c3 ?c4 ?_)
        case c1 => rfl
        case c2 => decide
        case c3 => unfold maxLen; omega
        case c4 => omega
        case c7 => rfl
        case c8 => rfl
        intro v' w3 hv hc hf
        have S4 := Lib.hid (X2.out.app hv hc hf)
        obtain ⟨A', c', rfl⟩ := hv.slice
        clear X2 CX hv hc hf
        go_wp2_with fail
        go_round
        case rel => exact ⟨0 + 1, by omega, by go_num, by rw [HSN.out]; exact Lib.hid S4.out.left⟩
        case measure => simp [intOf]; omega
      · obtain ⟨y, hy⟩ : ∃ y : UInt8, y = UInt8.ofNat (n / 256 ^ 1 % 256) := ⟨_, rfl⟩
        have hsn : Lib.byteCells (numL (1 + 1) n) = Lib.byteCells (numL 1 n) ++ [.int .u8 y.toNat] := by rw [numL_snoc, byteCells_snoc, ← hy]
        have hyv : (n : Int) / 256 % 256 = (y.toNat : Int) := by
          have : y.toNat = n / 256 ^ 1 % 256 := by rw [hy]; simp
          rw [this]; simp
        have HSN := Lib.hid hsn
        clear hy hsn
        have X2 := Lib.hid (X.out.addEmp.alloc #[.int .u8 y.toNat] 5).right
        have CX : Hid (Src Tryd.prog 1 85 (.slice (some ⟨wr.heap.size, 0, none⟩) 1 1) 1 [.int .u8 y.toNat] (wr.alloc (.cells #[.int .u8 y.toNat] 5))) := Lib.hid (Src.ofSlice _ Tryd.underlying85 _ 1 1 _ rfl (append1 ((Blk.new wr #[.int .u8 y.toNat] 5).cell 0)) (by intro u hu; simp at hu; subst hu; rfl))
        go_wp2_with (with_reducible refine wpList_append_vec rfl (.tmp 13) (.tmp 19) 85 85 rfl 5 (.int .u8 0) 1 1 Tryd.underlying85 byteInfo2 ?c1 ?c2 _ 1 (Lib.byteCells (numL 1 n)) ?c7 X2.out.vec (.slice (some ⟨wr.heap.size, 0, none⟩) 1 1) ?c8 1 _ CX.out ?c3 ?c4 ?_)
        case c1 => rfl
        case c2 => decide
        case c3 => unfold maxLen; omega
        case c4 => omega
        case c7 => rfl
        case c8 => rfl
        intro v' w3 hv hc hf
        have S4 := Lib.hid (X2.out.app hv hc hf)
        obtain ⟨A', c', rfl⟩ := hv.slice
        clear X2 CX hv hc hf
        go_wp2_with fail
        go_round
        case rel => exact ⟨1 + 1, by omega, by go_num, by rw [HSN.out]; exact Lib.hid S4.out.left⟩
        case measure => simp [intOf]; omega
      · obtain ⟨y, hy⟩ : ∃ y : UInt8, y = UInt8.ofNat (n / 256 ^ 2 % 256) := ⟨_, rfl⟩
        have hsn : Lib.byteCells (numL (2 + 1) n) = Lib.byteCells (numL 2 n) ++ [.int .u8 y.toNat] := by rw [numL_snoc, byteCells_snoc, ← hy]
        have hyv : (n : Int) / 65536 % 256 = (y.toNat : Int) := by
          have : y.toNat = n / 256 ^ 2 % 256 := by rw [hy]; simp
          rw [this]; simp
        have HSN := Lib.hid hsn
        clear hy hsn
        have X2 := Lib.hid (X.out.addEmp.alloc #[.int .u8 y.toNat] 5).right
        have CX : Hid (Src Tryd.prog 1 85 (.slice (some ⟨wr.heap.size, 0, none⟩) 1 1) 1 [.int .u8 y.toNat] (wr.alloc (.cells #[.int .u8 y.toNat] 5))) := Lib.hid (Src.ofSlice _ Tryd.underlying85 _ 1 1 _ rfl (append1 ((Blk.new wr #[.int .u8 y.toNat] 5).cell 0)) (by intro u hu; simp at hu; subst hu; rfl))
        go_wp2_with (with_reducible refine wpList_append_vec rfl (.tmp 13) (.tmp 19) 85 85 rfl 5 (.int .u8 0) 1 1 Tryd.underlying85 byteInfo2 ?c1 ?c2 _ 2 (Lib.byteCells (numL 2 n)) ?c7 X2.out.vec (.slice (some ⟨wr.heap.size, 0, none⟩) 1 1) ?c8 1 _ CX.out ?c3 ?c4 ?_)
        case c1 => rfl
        case c2 => decide
        case c3 => unfold maxLen; omega
        case c4 => omega
        case c7 => rfl
        case c8 => rfl
        intro v' w3 hv hc hf
        have S4 := Lib.hid (X2.out.app hv hc hf)
        obtain ⟨A', c', rfl⟩ := hv.slice
        clear X2 CX hv hc hf
        go_wp2_with fail
        go_round
        case rel => exact ⟨2 + 1, by omega, by go_num, by rw [HSN.out]; exact Lib.hid S4.out.left⟩
        case measure => simp [intOf]; omega
      · obtain ⟨y, hy⟩ : ∃ y : UInt8, y = UInt8.ofNat (n / 256 ^ 3 % 256) := ⟨_, rfl⟩
        have hsn : Lib.byteCells (numL (3 + 1) n) = Lib.byteCells (numL 3 n) ++ [.int .u8 y.toNat] := by rw [numL_snoc, byteCells_snoc, ← hy]
        have hyv : (n : Int) / 16777216 % 256 = (y.toNat : Int) := by
          have : y.toNat = n / 256 ^ 3 % 256 := by rw [hy]; simp
          rw [this]; simp
        have HSN := Lib.hid hsn
        clear hy hsn
        have X2 := Lib.hid (X.out.addEmp.alloc #[.int .u8 y.toNat] 5).right
        have CX : Hid (Src Tryd.prog 1 85 (.slice (some ⟨wr.heap.size, 0, none⟩) 1 1) 1 [.int .u8 y.toNat] (wr.alloc (.cells #[.int .u8 y.toNat] 5))) := Lib.hid (Src.ofSlice _ Tryd.underlying85 _ 1 1 _ rfl (append1 ((Blk.new wr #[.int .u8 y.toNat] 5).cell 0)) (by intro u hu; simp at hu; subst hu; rfl))
        go_wp2_with (with_reducible refine wpList_append_vec rfl (.tmp 13) (.tmp 19) 85 85 rfl 5 (.int .u8 0) 1 1 Tryd.underlying85 byteInfo2 ?c1 ?c2 _ 3 (Lib.byteCells (numL 3 n)) ?c7 X2.out.vec (.slice (some ⟨wr.heap.size, 0, none⟩) 1 1) ?c8 1 _ CX.out ?c3 ?c4 ?_)
        case c1 => rfl
        case c2 => decide
        case c3 => unfold maxLen; omega
        case c4 => omega
        case c7 => rfl
        case c8 => rfl
        intro v' w3 hv hc hf
        have S4 := Lib.hid (X2.out.app hv hc hf)
        obtain ⟨A', c', rfl⟩ := hv.slice
        clear X2 CX hv hc hf
        go_wp2_with fail
        go_round
        case rel => exact ⟨3 + 1, by omega, by go_num, by rw [HSN.out]; exact Lib.hid S4.out.left⟩
        case measure => simp [intOf]; omega
    · obtain rfl : j = k := by omega
      have hcv := X.out.addEmp.vec.conv (P := Tryd.prog) (src := 85) (dst := 9) (s := ofL (numL j n)) Tryd.underlying85 Tryd.underlying5 Tryd.underlying9
      generalize hx : ofL (numL j n) = x at *
      have HX := Lib.hid hx
      clear hx
      go_wp2_with fail
      go_returns
      exact ⟨ret_str HX.out.symm, X.out.bel⟩
theorem refNumI (n : Int) (k : Nat) (w : World) (hk : k ≤ 4) (h0 : 0 ≤ n) (hn : n < 9223372036854775808) :
    Calls Tryd.prog 58 #[.int .i64 n, .int .i64 k] w fun e w' => e = .returned (.string (ofL (numI k n))) ∧ Below w.heap.size w w' := by
  have := refNum_any n.toNat k w hk (by omega)
  rw [Int.toNat_of_nonneg h0] at this
  exact this
def aC (g : Nat) (s : St) : Asn := aSt 113 g s
set_option maxRecDepth 100000 in
set_option maxHeartbeats 1000000 in
theorem cTake (g n : Nat) (s : St) :
    Tr Tryd.prog 64 #[bPtr g, .int .i64 n] (aC g s) (.string (ofL (tk n s).1)) (aC g (tk n s).2) := by
  intro w O hA
  obtain ⟨l, b⟩ := s
  have S := Lib.hid (Own.start hA)
  obtain ⟨c0, c1, f0, f1⟩ := st_cells hA.1
  have hz : (ofL l).size = l.length := rfl
  by_cases h : l.length < n
  · have e : tk n ⟨l, b⟩ = ([], ⟨l, true⟩) := by unfold tk; rw [if_pos h]
    rw [e]
    have hs : Hid (aC g ⟨l, true⟩ = Asn.blk g 113 #[.string (ofL l), .bool true]) := Lib.hid rfl
    have hlt : ((ofL l).size : Int) < n := by omega
    have he : ofL ([] : By) = ⟨#[]⟩ := rfl
    dsimp only
    rw [he]
    unfold aC aSt at S
    dsimp only at S c0 c1
    clear hA e hz
    generalize ofL l = x at *
    unfold bPtr at *
    go_enter Tryd.func64, Tryd.ntmps64
    go_wp2_with fail
    go_returns
    rw [hs.out]
    exact ⟨rfl, S.out.set (sets_blk _ _ _ 1 (.bool true))⟩
  · have e : tk n ⟨l, b⟩ = (l.take n, ⟨l.drop n, b⟩) := by unfold tk; rw [if_neg h]
    rw [e]
    have hs : Hid (aC g ⟨l.drop n, b⟩ = Asn.blk g 113 #[.string (ofL (l.drop n)), .bool b]) := Lib.hid rfl
    have hlt : ¬ ((ofL l).size : Int) < n := by omega
    have hs1 := slice_to (P := Tryd.prog) Tryd.underlying9 (ofL l) n n rfl (by omega)
    have hs2 := slice_from (P := Tryd.prog) Tryd.underlying9 (ofL l) n n rfl (by omega)
    rw [ofL_take] at hs1
    rw [ofL_drop] at hs2
    dsimp only
    unfold aC aSt at S
    dsimp only at S c0 c1
    clear hA e hz
    generalize ofL (l.drop n) = z at *
    generalize ofL (l.take n) = y at *
    generalize ofL l = x at *
    unfold bPtr at *
    go_enter Tryd.func64, Tryd.ntmps64
    go_wp2_with fail
    go_returns
    rw [hs.out]
    exact ⟨rfl, S.out.set (sets_blk _ _ _ 0 (.string z))⟩
theorem unnum_drop (t : By) (k : Nat) (x : UInt8) (hx : t[k]? = some x) : unnum (t.drop k) = x.toNat + 256 * unnum (t.drop (k + 1)) := by
  have hk : k < t.length := (List.getElem?_eq_some_iff.1 hx).1
  rw [List.drop_eq_getElem_cons hk]
  have : t[k] = x := by have := (List.getElem?_eq_some_iff.1 hx).2; exact this
  rw [this]; rfl
set_option maxRecDepth 100000 in
set_option maxHeartbeats 4000000 in
theorem cNum (g k : Nat) (s : St) (hk : k ≤ 4) :
    Tr Tryd.prog 63 #[bPtr g, .int .i64 k] (aC g s) (.int .i64 ((pnum k s).1 : Nat)) (aC g (pnum k s).2) := by
  intro w O hA
  have S := Lib.hid (Own.start hA)
  have HT := Lib.hid (cTake g k s)
  have hlen : (tk k s).1.length ≤ 4 := by unfold tk; split <;> simp; omega
  unfold pnum
  generalize (tk k s).1 = t at *
  generalize (tk k s).2 = s' at *
  have hz : (ofL t).size = t.length := rfl
  have hbt : ∀ j x, t[j]? = some x → bt (ofL t) j = (x.toNat : Int) := fun j x hx => by rw [bt_list, ofL_list, List.getD, hx]; rfl
  have HBT := Lib.hid hbt
  have hgb := get_bt (ofL t)
  have hb4 : ∀ j, unnum (t.drop j) < 4294967296 := fun j => by
    have h1 := unnum_lt (t.drop j)
    have h2 : 256 ^ (t.drop j).length ≤ 256 ^ 4 := Nat.pow_le_pow_right (by decide) (by rw [List.length_drop]; omega)
    omega
  have HB4 := Lib.hid hb4
  clear hA hbt hb4
  generalize ofL t = x at *
  unfold bPtr at *
  go_enter Tryd.func63, Tryd.ntmps63
  go_wp2_with fail
  refine (S.out.call (HT.out)).mono ?_
  rintro e w1 ⟨rfl, hX⟩
  have S1 := Lib.hid hX
  clear hX S 
  go_wp2_with fail
  go_loop [6, 7] (fun n i => ∃ j : Nat, j ≤ t.length ∧ i = .int .i64 ((j : Int) - 1) ∧ n = .int .i64 ((unnum (t.drop j) : Nat) : Int)) (fun _ i => (intOf i + 1).toNat)
  case atStart => exact ⟨t.length, Nat.le_refl _, by first | rfl | (rw [hz]; done) | simp [hz], by simp [unnum]⟩
  case round =>
    obtain ⟨j, hj, rfl, rfl⟩ := hrel
    by_cases h0 : j = 0
    · subst h0
      rw [List.drop_zero]
      go_wp2_with fail
      go_returns
      exact ⟨rfl, S1.out⟩
    · obtain ⟨i, rfl⟩ : ∃ i, j = i + 1 := ⟨j - 1, by omega⟩
      obtain ⟨y, hy⟩ : ∃ y, t[i]? = some y := ⟨t[i]'(by omega), List.getElem?_eq_getElem _⟩
      have hd := unnum_drop t i y hy
      have hyb := HBT.out i y hy
      have hlt := HB4.out (i + 1)
      have hlt2 := HB4.out i
      have hy2 : y.toNat < 256 := y.toNat_lt
      have HD := Lib.hid hd
      have e1 : (((i + 1 : Nat) : Int) - 1) = (i : Int) := by omega
      rw [e1]
      generalize unnum (t.drop (i + 1)) = n at *
      have hix : (i : Int) < (x.size : Int) := by rw [hz]; omega
      have hw1 : IntKind.i64.wrap ((n : Int) * 256) = (n : Int) * 256 := by rw [IntKind.wrap_i64]; omega
      clear hd hy
      go_wp2_with fail
      go_round
      case rel => exact ⟨i, by omega, rfl, by rw [HD.out]; congr 1; omega⟩
      case measure => simp [intOf]
end Go.Proofs.YtciamgggblajoaaDoor.Nt
