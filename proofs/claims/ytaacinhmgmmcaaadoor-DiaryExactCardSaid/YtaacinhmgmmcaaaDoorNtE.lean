/- The document's numbers, and its cursor. -/
import Derived.Test.YtaacinhmgmmcaaaDoorNtR
import Derived.Test.YtaacinhmgmmcaaaDoorNtW
import Derived.Deep.CutBlock
namespace Go.Proofs.YtaacinhmgmmcaaaDoor.Nt
open Go.ChangeShapes Go.WideShapes Go.ChangeAt Go.RowKit Go.PlainAid Aid Cr
set_option linter.unusedVariables false
set_option linter.unusedSimpArgs false
theorem byteInfo2 : (Tryd.prog.info? 5).map (fun i => (i.zero, i.size, i.bytes)) = some (some (.int .u8 0), 1, 1) := by kernel_rfl
theorem byteCells_snoc (l : By) (c : UInt8) : Lib.byteCells (l ++ [c]) = Lib.byteCells l ++ [.int .u8 c.toNat] := by simp [Lib.byteCells]
theorem Own.emptyVec {w : World} (e : TypeId) : Own w No (w.alloc (.cells #[] e)) (Asn.vec e 1 (.slice (some ⟨w.heap.size, 0, none⟩) 0 0) 0 []) :=
  ⟨⟨(VB (.slice (some ⟨w.heap.size, 0, none⟩) 0 0)), ⟨⟨rfl, Or.inr ⟨w.heap.size, 0, #[], rfl, Nat.zero_le _, heap_alloc_new w _, Nat.le_refl _, Nat.zero_le _, rfl, rfl⟩⟩, fun _ => Iff.rfl⟩, fun k hk => Or.inr (by simp only [VB, Value.ownBlock, Option.some.injEq] at hk; omega)⟩, (Chg.refl _ _).alloc _⟩
set_option maxRecDepth 100000 in
set_option maxHeartbeats 4000000 in
theorem refNum_any (n : Nat) (k : Nat) (w : World) (hk : k ≤ 4) (hn : n < 9223372036854775808) :
    Calls Tryd.prog 32 #[.int .i64 n, .int .i64 k] w fun e w' => e = .returned (.string (ofL (numL k n))) ∧ Below w.heap.size w w' := by
  have S := Lib.hid (Own.emptyVec (w := w) 5)
  go_enter Tryd.func32, Tryd.ntmps32
  go_upto_region 2 with fail
  generalize w.alloc _ = w1 at *
  go_wp2_with fail
  go_loopw [5, 6] (fun v i wr => ∃ j : Nat, j ≤ k ∧ i = .int .i64 j ∧ Hid (Own w No wr (Asn.vec 5 1 v j (Lib.byteCells (numL j n))))) (fun _ i _ => k - (intOf i).toNat)
  case atStart => exact ⟨0, Nat.zero_le _, rfl, S⟩
  case round =>
    clear S
    obtain ⟨j, hj, rfl, X⟩ := hrel
    obtain ⟨A, c, rfl⟩ := X.out.addEmp.vec.slice
    by_cases hlt : j < k
    · have hm : j = 0 ∨ j = 1 ∨ j = 2 ∨ j = 3 := by omega
      rcases hm with rfl | rfl | rfl | rfl
      · obtain ⟨y, hy⟩ : ∃ y : UInt8, y = UInt8.ofNat (n / 256 ^ 0 % 256) := ⟨_, rfl⟩
        have hsn : Lib.byteCells (numL (0 + 1) n) = Lib.byteCells (numL 0 n) ++ [.int .u8 y.toNat] := by rw [numL_snoc, byteCells_snoc, ← hy]
        have hyv : (n : Int) % 256 = (y.toNat : Int) := by
          have : y.toNat = n / 256 ^ 0 % 256 := by rw [hy]; simp
          rw [this]; simp
        have HSN := Lib.hid hsn
        clear hy hsn
        have X2 := Lib.hid (X.out.addEmp.alloc #[.int .u8 y.toNat] 5).right
        have CX : Hid (Src Tryd.prog 1 69 (.slice (some ⟨wr.heap.size, 0, none⟩) 1 1) 1 [.int .u8 y.toNat] (wr.alloc (.cells #[.int .u8 y.toNat] 5))) := Lib.hid (Src.ofSlice _ Tryd.underlying69 _ 1 1 _ rfl (append1 ((Blk.new wr #[.int .u8 y.toNat] 5).cell 0)) (by intro u hu; simp at hu; subst hu; rfl))
        go_wp2_with (with_reducible refine wpList_append_vec rfl (.tmp 13) (.tmp 19) 69 69 rfl 5 (.int .u8 0) 1 1 Tryd.underlying69 byteInfo2 ?c1 ?c2 _ 0 (Lib.byteCells (numL 0 n)) ?c7 X2.out.vec (.slice (some ⟨wr.heap.size, 0, none⟩) 1 1) ?c8 1 _ CX.out ?c3 ?c4 ?_)
        case c1 => rfl
        case c2 => decide
        case c3 => unfold maxLen; omega
        case c4 => omega
        case c7 => rfl
        case c8 => rfl
        intro v' w3 hv hc hf
        have S4 := Lib.hid (X2.out.app hv hc hf)
        obtain ⟨A', c', rfl⟩ := hv.slice
        clear X2 CX hv hc hf
        go_wp2_with fail
        go_round
        case rel => exact ⟨0 + 1, by omega, by go_num, by rw [HSN.out]; exact Lib.hid S4.out.left⟩
        case measure => simp [intOf]; omega
      · obtain ⟨y, hy⟩ : ∃ y : UInt8, y = UInt8.ofNat (n / 256 ^ 1 % 256) := ⟨_, rfl⟩
        have hsn : Lib.byteCells (numL (1 + 1) n) = Lib.byteCells (numL 1 n) ++ [.int .u8 y.toNat] := by rw [numL_snoc, byteCells_snoc, ← hy]
        have hyv : (n : Int) / 256 % 256 = (y.toNat : Int) := by
          have : y.toNat = n / 256 ^ 1 % 256 := by rw [hy]; simp
          rw [this]; simp
        have HSN := Lib.hid hsn
        clear hy hsn
        have X2 := Lib.hid (X.out.addEmp.alloc #[.int .u8 y.toNat] 5).right
        have CX : Hid (Src Tryd.prog 1 69 (.slice (some ⟨wr.heap.size, 0, none⟩) 1 1) 1 [.int .u8 y.toNat] (wr.alloc (.cells #[.int .u8 y.toNat] 5))) := Lib.hid (Src.ofSlice _ Tryd.underlying69 _ 1 1 _ rfl (append1 ((Blk.new wr #[.int .u8 y.toNat] 5).cell 0)) (by intro u hu; simp at hu; subst hu; rfl))
        go_wp2_with (with_reducible refine wpList_append_vec rfl (.tmp 13) (.tmp 19) 69 69 rfl 5 (.int .u8 0) 1 1 Tryd.underlying69 byteInfo2 ?c1 ?c2 _ 1 (Lib.byteCells (numL 1 n)) ?c7 X2.out.vec (.slice (some ⟨wr.heap.size, 0, none⟩) 1 1) ?c8 1 _ CX.out ?c3 ?c4 ?_)
        case c1 => rfl
        case c2 => decide
        case c3 => unfold maxLen; omega
        case c4 => omega
        case c7 => rfl
        case c8 => rfl
        intro v' w3 hv hc hf
        have S4 := Lib.hid (X2.out.app hv hc hf)
        obtain ⟨A', c', rfl⟩ := hv.slice
        clear X2 CX hv hc hf
        go_wp2_with fail
        go_round
        case rel => exact ⟨1 + 1, by omega, by go_num, by rw [HSN.out]; exact Lib.hid S4.out.left⟩
        case measure => simp [intOf]; omega
      · obtain ⟨y, hy⟩ : ∃ y : UInt8, y = UInt8.ofNat (n / 256 ^ 2 % 256) := ⟨_, rfl⟩
        have hsn : Lib.byteCells (numL (2 + 1) n) = Lib.byteCells (numL 2 n) ++ [.int .u8 y.toNat] := by rw [numL_snoc, byteCells_snoc, ← hy]
        have hyv : (n : Int) / 65536 % 256 = (y.toNat : Int) := by
          have : y.toNat = n / 256 ^ 2 % 256 := by rw [hy]; simp
          rw [this]; simp
        have HSN := Lib.hid hsn
        clear hy hsn
        have X2 := Lib.hid (X.out.addEmp.alloc #[.int .u8 y.toNat] 5).right
        have CX : Hid (Src Tryd.prog 1 69 (.slice (some ⟨wr.heap.size, 0, none⟩) 1 1) 1 [.int .u8 y.toNat] (wr.alloc (.cells #[.int .u8 y.toNat] 5))) := Lib.hid (Src.ofSlice _ Tryd.underlying69 _ 1 1 _ rfl (append1 ((Blk.new wr #[.int .u8 y.toNat] 5).cell 0)) (by intro u hu; simp at hu; subst hu; rfl))
        go_wp2_with (with_reducible refine wpList_append_vec rfl (.tmp 13) (.tmp 19) 69 69 rfl 5 (.int .u8 0) 1 1 Tryd.underlying69 byteInfo2 ?c1 ?c2 _ 2 (Lib.byteCells (numL 2 n)) ?c7 X2.out.vec (.slice (some ⟨wr.heap.size, 0, none⟩) 1 1) ?c8 1 _ CX.out ?c3 ?c4 ?_)
        case c1 => rfl
        case c2 => decide
        case c3 => unfold maxLen; omega
        case c4 => omega
        case c7 => rfl
        case c8 => rfl
        intro v' w3 hv hc hf
        have S4 := Lib.hid (X2.out.app hv hc hf)
        obtain ⟨A', c', rfl⟩ := hv.slice
        clear X2 CX hv hc hf
        go_wp2_with fail
        go_round
        case rel => exact ⟨2 + 1, by omega, by go_num, by rw [HSN.out]; exact Lib.hid S4.out.left⟩
        case measure => simp [intOf]; omega
      · obtain ⟨y, hy⟩ : ∃ y : UInt8, y = UInt8.ofNat (n / 256 ^ 3 % 256) := ⟨_, rfl⟩
        have hsn : Lib.byteCells (numL (3 + 1) n) = Lib.byteCells (numL 3 n) ++ [.int .u8 y.toNat] := by rw [numL_snoc, byteCells_snoc, ← hy]
        have hyv : (n : Int) / 16777216 % 256 = (y.toNat : Int) := by
          have : y.toNat = n / 256 ^ 3 % 256 := by rw [hy]; simp
          rw [this]; simp
        have HSN := Lib.hid hsn
        clear hy hsn
        have X2 := Lib.hid (X.out.addEmp.alloc #[.int .u8 y.toNat] 5).right
        have CX : Hid (Src Tryd.prog 1 69 (.slice (some ⟨wr.heap.size, 0, none⟩) 1 1) 1 [.int .u8 y.toNat] (wr.alloc (.cells #[.int .u8 y.toNat] 5))) := Lib.hid (Src.ofSlice _ Tryd.underlying69 _ 1 1 _ rfl (append1 ((Blk.new wr #[.int .u8 y.toNat] 5).cell 0)) (by intro u hu; simp at hu; subst hu; rfl))
        go_wp2_with (with_reducible refine wpList_append_vec rfl (.tmp 13) (.tmp 19) 69 69 rfl 5 (.int .u8 0) 1 1 Tryd.underlying69 byteInfo2 ?c1 ?c2 _ 3 (Lib.byteCells (numL 3 n)) ?c7 X2.out.vec (.slice (some ⟨wr.heap.size, 0, none⟩) 1 1) ?c8 1 _ CX.out ?c3 ?c4 ?_)
        case c1 => rfl
        case c2 => decide
        case c3 => unfold maxLen; omega
        case c4 => omega
        case c7 => rfl
        case c8 => rfl
        intro v' w3 hv hc hf
        have S4 := Lib.hid (X2.out.app hv hc hf)
        obtain ⟨A', c', rfl⟩ := hv.slice
        clear X2 CX hv hc hf
        go_wp2_with fail
        go_round
        case rel => exact ⟨3 + 1, by omega, by go_num, by rw [HSN.out]; exact Lib.hid S4.out.left⟩
        case measure => simp [intOf]; omega
    · obtain rfl : j = k := by omega
      have hcv := X.out.addEmp.vec.conv (P := Tryd.prog) (src := 69) (dst := 9) (s := ofL (numL j n)) Tryd.underlying69 Tryd.underlying5 Tryd.underlying9
      generalize hx : ofL (numL j n) = x at *
      have HX := Lib.hid hx
      clear hx
      go_wp2_with fail
      go_returns
      exact ⟨ret_str HX.out.symm, X.out.bel⟩
theorem refNumI (n : Int) (k : Nat) (w : World) (hk : k ≤ 4) (h0 : 0 ≤ n) (hn : n < 9223372036854775808) :
    Calls Tryd.prog 32 #[.int .i64 n, .int .i64 k] w fun e w' => e = .returned (.string (ofL (numI k n))) ∧ Below w.heap.size w w' := by
  have := refNum_any n.toNat k w hk (by omega)
  rw [Int.toNat_of_nonneg h0] at this
  exact this
theorem unnum_drop (t : By) (k : Nat) (x : UInt8) (hx : t[k]? = some x) : unnum (t.drop k) = x.toNat + 256 * unnum (t.drop (k + 1)) := by
  have hk : k < t.length := (List.getElem?_eq_some_iff.1 hx).1
  rw [List.drop_eq_getElem_cons hk]
  have : t[k] = x := by have := (List.getElem?_eq_some_iff.1 hx).2; exact this
  rw [this]; rfl
end Go.Proofs.YtaacinhmgmmcaaaDoor.Nt
