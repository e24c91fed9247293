/- The document's Code. -/
import Derived.Test.YtoofoalpffoheaaWdG
import Derived.Test.YtoofoalpffoheaaBld
namespace Go.Proofs.Ytoofoalpffoheaa.Wd
open Go.ChangeShapes Go.WideShapes Go.ChangeAt Go.RowKit Go.PlainAid Aid
set_option linter.unusedVariables false
set_option linter.unusedSimpArgs false
theorem infoU8 : (Try.prog.info? 5).map (fun i => (i.zero, i.size, i.bytes)) = some (some (.int .u8 0), 1, 1) := by kernel_rfl
/-- Numbers as bytes' cells. -/
def numC (xs : List Int) : List Value := xs.map fun n => .int .u8 n
theorem numC_snoc (xs : List Int) (k : Nat) (hk : k < xs.length) : numC (xs.take k) ++ [.int .u8 (xs.getD k 0)] = numC (xs.take (k + 1)) := by
  unfold numC
  rw [List.take_add_one, List.map_append, List.getD, List.getElem?_eq_getElem hk]
  rfl
theorem numC_bytes (xs : List Int) (h : ∀ x ∈ xs, 0 ≤ x ∧ x < 256) : numC xs = byteCells (strOfNums xs) := by
  unfold numC byteCells
  rw [strOfNums_data, List.map_map]
  apply List.map_congr_left
  intro x hx
  have := h x hx
  show Value.int .u8 x = Value.int .u8 ((UInt8.ofNat x.toNat).toNat : Int)
  rw [UInt8.toNat_ofNat', show ((x.toNat % 2 ^ 8 : Nat) : Int) = x by omega]
theorem codeL_hi (h l : Int) (k : Nat) (hk : k < 8) : IntKind.u64.wrap h / 2 ^ (56 - 8 * k) % 256 = (codeL h l).getD k 0 := by
  rw [IntKind.wrap_u64]
  rcases (by omega : k = 0 ∨ k = 1 ∨ k = 2 ∨ k = 3 ∨ k = 4 ∨ k = 5 ∨ k = 6 ∨ k = 7) with rfl | rfl | rfl | rfl | rfl | rfl | rfl | rfl <;> simp [codeL] <;> omega
theorem codeL_lo (h l : Int) (k : Nat) (hk : k < 8) : l / 2 ^ (56 - 8 * k) % 256 = (codeL h l).getD (8 + k) 0 := by
  rcases (by omega : k = 0 ∨ k = 1 ∨ k = 2 ∨ k = 3 ∨ k = 4 ∨ k = 5 ∨ k = 6 ∨ k = 7) with rfl | rfl | rfl | rfl | rfl | rfl | rfl | rfl <;> simp [codeL]
theorem blkvec {w0 w : World} {O0 : Nat → Prop} {A : Asn} {g : Nat} {e : TypeId} {cs : Array Value} (m : Nat) (hm : cs.size = m) (hl : m ≤ maxLen) (h : Own w0 O0 w (Asn.blk g e cs * A)) : Own w0 O0 w (Asn.vec e 1 (.slice (some ⟨g, 0, none⟩) m m) m cs.toList * A) :=
  h.imp (Imp.l fun w O hb => ⟨⟨by rw [Array.length_toList, hm, Nat.mul_one], Or.inr ⟨g, m, cs, rfl, Nat.zero_le _, hb.1, Nat.le_refl _, hl, by rw [hm, Nat.mul_one], by rw [List.take_of_length_le]; rw [Array.length_toList, hm, Nat.mul_one]; exact Nat.le_refl _⟩⟩, fun k => (hb.2 k).trans ⟨fun e => by simp [VB, Value.ownBlock, e], fun e => by simp [VB, Value.ownBlock] at e; exact e.symm⟩⟩)
theorem srcblk {P : Program} {size : Nat} {tx e' T : TypeId} (hk : P.underlying tx = some (.slice e')) {W : World} {g : Nat} {cs : List Value} (h : Blk W g T cs.toArray) (hl : cs.length = 1 * size) (hu : ∀ u, u ∈ cs → u.oneCell' = true) : Src P size tx (.slice (some ⟨g, 0, none⟩) 1 1) 1 cs W :=
  Src.ofSlice _ hk _ 1 1 _ hl (fun j u hj => by rw [addr_zero, h.cell]; simpa using hj) hu
set_option maxHeartbeats 2000000 in
theorem refCode_any (H L : Int) (w : World) :
    Calls Try.prog 24 #[.agg #[.int .i64 H, .int .u64 L]] w fun e w' => e = .returned (.string (strOfNums (codeL H L))) ∧ Below w.heap.size w w' := by
  have K1 := Lib.hid (codeL_hi H L)
  have K2 := Lib.hid (codeL_lo H L)
  have hlen : (codeL H L).length = 16 := rfl
  have HLen := Lib.hid hlen
  clear hlen
  have HB := Lib.hid (numC_bytes _ (codeL_bd H L))
  generalize codeL H L = cs at *
  have S0 := Lib.hid ((Own.none w).alloc #[.int .i64 H, .int .u64 L] 24)
  go_enter Try.func24, Try.ntmps24
  go_upto_region 1 with fail
  obtain ⟨g1, hgz⟩ : ∃ g, g = w.heap.size := ⟨_, rfl⟩
  rw [← hgz] at S0 ⊢
  clear hgz
  generalize World.alloc w _ = w1 at *
  have S1 : Hid (Own w No (w1.alloc (.cells #[] 5)) (Asn.vec 5 1 (.slice (some ⟨w1.heap.size, 0, none⟩) 0 0) 0 (numC (cs.take 0)) * (Asn.blk g1 24 #[.int .i64 H, .int .u64 L] * Asn.emp))) := Lib.hid (blkvec 0 rfl (by decide) (S0.out.alloc #[] 5))
  clear S0
  go_wp2_with fail
  obtain ⟨v0, hv0⟩ : ∃ v, v = Value.slice (some ⟨w1.heap.size, 0, none⟩) 0 0 := ⟨_, rfl⟩
  rw [← hv0] at S1 ⊢
  clear hv0
  generalize World.alloc w1 _ = w2 at *
  go_loopw [3, 4] (fun v i wr => ∃ k : Nat, k ≤ 8 ∧ i = .int .i64 k ∧ Hid (Own w No wr (Asn.vec 5 1 v k (numC (cs.take k)) * (Asn.blk g1 24 #[.int .i64 H, .int .u64 L] * Asn.emp)))) (fun _ i _ => 8 - (intOf i).toNat)
  case atStart => exact ⟨0, by omega, rfl, S1⟩
  case round =>
    clear S1
    obtain ⟨k, hk, rfl, hS⟩ := hrel
    by_cases hlt : k < 8
    · obtain ⟨⟨a0, a1⟩, -⟩ := two_of (hS.out.has (Has.r (Has.l (has_blk g1 _ _))))
      have hq : IntKind.u64.wrap H / 2 ^ (56 - 8 * k) % 256 = cs.getD k 0 := K1.out k hlt
      have hl : k < cs.length := by rw [HLen.out]; omega
      have HQ := Lib.hid (numC_snoc cs k hl)
      clear hl
      generalize cs.getD k 0 = B at *
      have S2q := Lib.hid ((hS.out.alloc #[.int .u8 B] 5).re (Asn.swap _ _ _))
      have S2x : Hid (Src Try.prog 1 60 (.slice (some ⟨wr.heap.size, 0, none⟩) 1 1) 1 [.int .u8 B] (wr.alloc (.cells #[.int .u8 B] 5))) := Lib.hid (srcblk Try.underlying60 (S2q.out.has (Has.r (Has.l (has_blk _ _ _)))) rfl (by intro u hu; simp at hu; rw [hu]; rfl))
      go_wp2_with (with_reducible refine wpList_append_vec rfl (.tmp 11) (.tmp 20) 60 60 rfl 5 _ 1 1 Try.underlying60 infoU8 ?ax ?bx _ k (numC (cs.take k)) ?cx S2q.out.vec (.slice (some ⟨wr.heap.size, 0, none⟩) 1 1) ?dx 1 _ S2x.out ?ex ?fx ?_)
      case ax => rfl
      case bx => decide
      try (case cx => rfl)
      try (case dx => rfl)
      case ex => unfold maxLen; omega
      case fx => omega
      intro v3 w3 hv3 hc3 hf3
      have S3 := Lib.hid (((S2q.out.app hv3 hc3 hf3).re (Asn.swap _ _ _)).right)
      rw [HQ.out] at S3
      clear hS S2q S2x hv3 hc3 hf3 HQ hq a0 a1
      go_wp2_with fail
      go_round
      case rel => exact ⟨k + 1, by omega, by go_num, S3⟩
      case measure => simp [intOf]; omega
    · obtain rfl : k = 8 := by omega
      have S5 : Hid (Own w No wr (Asn.vec 5 1 _ (8 + 0) (numC (cs.take (8 + 0))) * (Asn.blk g1 24 #[.int .i64 H, .int .u64 L] * Asn.emp))) := hS
      clear hS
      rw [show ((8 : Nat) : Int) = 8 from rfl]
      go_wp2_with fail
      go_loopw [3, 5] (fun v i wr => ∃ k : Nat, k ≤ 8 ∧ i = .int .i64 k ∧ Hid (Own w No wr (Asn.vec 5 1 v (8 + k) (numC (cs.take (8 + k))) * (Asn.blk g1 24 #[.int .i64 H, .int .u64 L] * Asn.emp)))) (fun _ i _ => 8 - (intOf i).toNat)
      case atStart => exact ⟨0, by omega, rfl, S5⟩
      case round =>
        clear S5
        obtain ⟨k, hk, rfl, hS⟩ := hrel
        by_cases hlt : k < 8
        · obtain ⟨⟨a0, a1⟩, -⟩ := two_of (hS.out.has (Has.r (Has.l (has_blk g1 _ _))))
          have hq : L / 2 ^ (56 - 8 * k) % 256 = cs.getD (8 + k) 0 := K2.out k hlt
          have hl : (8 + k) < cs.length := by rw [HLen.out]; omega
          have HQ := Lib.hid (numC_snoc cs (8 + k) hl)
          clear hl
          generalize cs.getD (8 + k) 0 = B at *
          have S2q := Lib.hid ((hS.out.alloc #[.int .u8 B] 5).re (Asn.swap _ _ _))
          have S2x : Hid (Src Try.prog 1 60 (.slice (some ⟨wr.heap.size, 0, none⟩) 1 1) 1 [.int .u8 B] (wr.alloc (.cells #[.int .u8 B] 5))) := Lib.hid (srcblk Try.underlying60 (S2q.out.has (Has.r (Has.l (has_blk _ _ _)))) rfl (by intro u hu; simp at hu; rw [hu]; rfl))
          go_wp2_with (with_reducible refine wpList_append_vec rfl (.tmp 26) (.tmp 34) 60 60 rfl 5 _ 1 1 Try.underlying60 infoU8 ?aq2 ?bq2 _ (8 + k) (numC (cs.take (8 + k))) ?cq2 S2q.out.vec (.slice (some ⟨wr.heap.size, 0, none⟩) 1 1) ?dq2 1 _ S2x.out ?eq2 ?fq2 ?_)
          case aq2 => rfl
          case bq2 => decide
          try (case cq2 => rfl)
          try (case dq2 => rfl)
          case eq2 => unfold maxLen; omega
          case fq2 => omega
          intro v3 w3 hv3 hc3 hf3
          have S3 := Lib.hid (((S2q.out.app hv3 hc3 hf3).re (Asn.swap _ _ _)).right)
          rw [HQ.out] at S3
          clear hS S2q S2x hv3 hc3 hf3 HQ hq a0 a1
          go_wp2_with fail
          go_round
          case rel => exact ⟨k + 1, by omega, by go_num, S3⟩
          case measure => simp [intOf]; omega
        · obtain rfl : k = 8 := by omega
          rw [show cs.take (8 + 8) = cs by rw [List.take_of_length_le]; rw [HLen.out]; exact Nat.le_refl _, HB.out] at hS
          have hcv := Vec.conv Try.underlying60 Try.underlying5 Try.underlying9 hS.out.vec
          have SB := Lib.hid hS.out.bel
          clear hS HB
          go_wp2_with fail
          go_returns
          exact ⟨rfl, SB.out⟩
end Go.Proofs.Ytoofoalpffoheaa.Wd
