/- Texts of ours, joined. -/
import Derived.Test.YtapdpdhibpblgaaGreatDoorNtB
import Derived.Deep.CutBlock
import Derived.Test.YtapdpdhibpblgaaGreatDoorBld

-- joined
section
namespace Go.Proofs.YtapdpdhibpblgaaGreatDoor.Nt
open Go.ChangeShapes Go.WideShapes Go.ChangeAt Go.RowKit Go.PlainAid Aid Cr
set_option linter.unusedVariables false
set_option linter.unusedSimpArgs false
def rV (o : Option (Rec × Nat)) (v : Value) : Value := match o with
  | none => .tuple #[v, .int .i64 0, .int .i64 3]
  | some q => .tuple #[v, .int .i64 (q.2 : Nat), .int .i64 0]
def rR (o : Option (Rec × Nat)) : Rec := match o with
  | none => Rec.none
  | some q => q.1
def fitO (f : Bool) (q : Rec × Nat) : Option (Rec × Nat) := if f then some q else none
theorem zero_rec (w : World) : RecAt w (.agg zeroCells) Rec.none := ⟨_, _, _, rfl, Row2.nil _ _, Row2.nil _ _, Row2.nil _ _⟩
def aZero (g : Nat) : Asn := Asn.blk g 50 zeroCells
theorem ofL_ne (l : By) : ((ofL l).toList == ([] : List UInt8)) = decide (l = []) := by
  have := str_eq (ofL l) ⟨#[]⟩
  rw [show (⟨#[]⟩ : ByteArray).toList = ([] : List UInt8) by rw [ByteArray.toList_eq]] at this
  rw [this]
  congr 1
  apply propext
  exact ⟨fun h => ofL_inj (m := []) h, fun h => by rw [h]; rfl⟩
set_option maxRecDepth 100000 in
set_option maxHeartbeats 4000000 in
theorem Read_shut (s : By) (w : World) (hs : s.length ≤ 140737488355328) (ht : Tab w) (ho : openN s = .tuple #[.string ⟨#[]⟩, .bool false]) :
    Calls Tryz.prog 96 #[.string (ofL s)] w fun e w' => e = .returned (rV none (.agg zeroCells)) ∧ Below w.heap.size w w' := by
  have S := Lib.hid ((Own.none w).alloc zeroCells 50).left
  have HT := Lib.hid ht
  have HO := Lib.hid (fun w' ht => open_any s w' hs ht)
  rw [ho] at HO
  clear ht ho
  generalize ofL s = x at *
  unfold rV
  unfold zeroCells at *
  go_enter Tryz.func96, Tryz.ntmps96
  go_wp2_with fail
  obtain ⟨gz, hgz⟩ : ∃ g, g = w.heap.size := ⟨_, rfl⟩
  rw [← hgz] at S ⊢
  clear hgz
  generalize w.alloc _ = w1 at *
  refine (HO.out _ (Tab.own HT.out S.out)).mono ?_
  rintro e w2 ⟨rfl, hX⟩
  have S1 := Lib.hid (S.out.below hX).addEmp
  clear hX S
  obtain ⟨⟨c0, c1, c2, c3, c4, c5, c6, c7, c8, c9, c10⟩, f0, f1, f2, f3, f4, f5, f6, f7, f8, f9, f10⟩ := eleven (S1.out.has (Has.l (has_blk _ _ _)))
  go_wp2_with fail
  have S2 := Lib.hid (own_eleven S1.out (.int .i64 0) (.int .i64 0) (.int .i64 0) (.int .i64 0) (.slice none 0 0) (.int .i64 0) (.int .i64 0) (.string ⟨#[]⟩) (.string ⟨#[]⟩) (.slice none 0 0) (.slice none 0 0))
  clear S1 c0 c1 c2 c3 c4 c5 c6 c7 c8 c9 c10 f0 f1 f2 f3 f4 f5 f6 f7 f8 f9 f10
  generalize World.setCell (World.setCell (World.setCell (World.setCell (World.setCell (World.setCell (World.setCell (World.setCell (World.setCell (World.setCell (World.setCell w2 _ _) _ _) _ _) _ _) _ _) _ _) _ _) _ _) _ _) _ _) _ _ = w3 at *
  obtain ⟨⟨c0, c1, c2, c3, c4, c5, c6, c7, c8, c9, c10⟩, -⟩ := eleven (S2.out.has (Has.l (has_blk _ _ _)))
  exact bodyPost_ret (v := .tuple #[.agg #[.int .i64 0, .int .i64 0, .int .i64 0, .int .i64 0, .slice none 0 0, .int .i64 0, .int .i64 0, .string ⟨#[]⟩, .string ⟨#[]⟩, .slice none 0 0, .slice none 0 0], .int .i64 0, .int .i64 3]) (by simp [results, Tryz.results96, go_sem, c0, c1, c2, c3, c4, c5, c6, c7, c8, c9, c10]) rfl ⟨rfl, S2.out.bel⟩
set_option maxRecDepth 100000 in
set_option maxHeartbeats 8000000 in
theorem Read_open (s b : By) (N : Nat) (w : World) (hs : s.length ≤ 140737488355328) (ht : Tab w) (ho : openN s = .tuple #[.string (ofL b), .bool true]) (hN : b.length = N) (hN2 : N ≤ 140737488355328) :
    Calls Tryz.prog 96 #[.string (ofL s)] w fun e w' => (∃ v, e = .returned (rV (fitO (fits (pRec ⟨b, false⟩)) ((pRec ⟨b, false⟩).1, N + 8)) v) ∧ RecAt w' v (rR (fitO (fits (pRec ⟨b, false⟩)) ((pRec ⟨b, false⟩).1, N + 8)))) ∧ Below w.heap.size w w' := by
  have S := Lib.hid ((Own.none w).alloc zeroCells 50).left
  have HT := Lib.hid ht
  have HO := Lib.hid (fun w' ht => open_any s w' hs ht)
  rw [ho] at HO
  have HR := Lib.hid (fun g => tRec g ⟨b, false⟩)
  have hzb : (ofL b).size = N := hN
  generalize pRec ⟨b, false⟩ = q at *
  obtain ⟨r, st⟩ := q
  have hfit : fits (r, st) = (!st.bad && (decide ((ofL st.rest).size = 0) && goodB r)) := by
    unfold fits
    congr 2
    rw [ofL_sz]; simp
  generalize fits (r, st) = F at *
  have HF := Lib.hid hfit
  unfold aR aSt at HR
  dsimp only at HR
  clear ht ho hN hs hfit
  generalize ofL b = y at *
  generalize ofL s = x at *
  have HG := Lib.hid (fun v w' (h : RecAt w' v r) => Good_any r v w' h)
  unfold zeroCells at *
  unfold bPtr at *
  go_enter Tryz.func96, Tryz.ntmps96
  go_wp2_with fail
  obtain ⟨gz, hgz⟩ : ∃ g, g = w.heap.size := ⟨_, rfl⟩
  rw [← hgz] at S ⊢
  clear hgz
  generalize w.alloc _ = w1 at *
  refine (HO.out _ (Tab.own HT.out S.out)).mono ?_
  rintro e w2 ⟨rfl, hX⟩
  have S1 := Lib.hid ((S.out.below hX).alloc #[.string y, .bool false] 210)
  clear hX S
  go_wp2_with fail
  obtain ⟨gr, hgz⟩ : ∃ g, g = w2.heap.size := ⟨_, rfl⟩
  rw [← hgz] at S1 ⊢
  clear hgz
  generalize w2.alloc _ = w3 at *
  refine (S1.out.callE (HR.out gr).l).mono ?_
  rintro e w4 ⟨⟨p, o, d⟩, rfl, hX⟩
  have S2 := Lib.hid hX
  clear hX S1 HR
  obtain ⟨A1, m1, rfl⟩ := S2.out.left.left.vec.slice
  obtain ⟨A2, m2, rfl⟩ := S2.out.left.left.right.vec.slice
  obtain ⟨A3, m3, rfl⟩ := S2.out.left.left.right.vecR.slice
  have S3 := Lib.hid (S2.out.alloc (recCells r (.slice A1 r.pages.length m1) (.slice A2 r.opn.length m2) (.slice A3 r.dty.length m3)) 50)
  dsimp only
  unfold recCells at *
  clear S2
  go_upto_region 6 with fail
  obtain ⟨gq, hgz⟩ : ∃ g, g = w4.heap.size := ⟨_, rfl⟩
  rw [← hgz] at S3 ⊢
  clear hgz
  generalize w4.alloc _ = w5 at *
  obtain ⟨d0, d1, -, -⟩ := st_cells (S3.out.has (Has.r (Has.l (Has.r (has_blk _ _ _)))))
  have S4 := Lib.hid S3.out.right.comm
  generalize ofL st.rest = z at *
  cases hb : st.bad with
  | true =>
    rw [hb] at d1
    obtain ⟨⟨c0, c1, c2, c3, c4, c5, c6, c7, c8, c9, c10⟩, f0, f1, f2, f3, f4, f5, f6, f7, f8, f9, f10⟩ := eleven (S4.out.has (Has.l (has_blk _ _ _)))
    go_wp2_with fail
    have hF : F = false := by rw [HF.out]; simp [hb]
    have S5 := Lib.hid (own_eleven S4.out (.int .i64 0) (.int .i64 0) (.int .i64 0) (.int .i64 0) (.slice none 0 0) (.int .i64 0) (.int .i64 0) (.string ⟨#[]⟩) (.string ⟨#[]⟩) (.slice none 0 0) (.slice none 0 0))
    clear S4 S3 c0 c1 c2 c3 c4 c5 c6 c7 c8 c9 c10 f0 f1 f2 f3 f4 f5 f6 f7 f8 f9 f10
    generalize World.setCell (World.setCell (World.setCell (World.setCell (World.setCell (World.setCell (World.setCell (World.setCell (World.setCell (World.setCell (World.setCell w5 _ _) _ _) _ _) _ _) _ _) _ _) _ _) _ _) _ _) _ _) _ _ = w6 at *
    obtain ⟨⟨c0, c1, c2, c3, c4, c5, c6, c7, c8, c9, c10⟩, -⟩ := eleven (S5.out.has (Has.l (has_blk _ _ _)))
    exact bodyPost_ret (v := .tuple #[.agg zeroCells, .int .i64 0, .int .i64 3]) (by simp [results, Tryz.results96, go_sem, zeroCells, c0, c1, c2, c3, c4, c5, c6, c7, c8, c9, c10]) rfl ⟨⟨.agg zeroCells, by rw [hF]; rfl, by rw [hF]; exact zero_rec _⟩, S5.out.bel⟩
  | false =>
    rw [hb] at d1
    by_cases hz0 : z.size = 0
    · have hze : z.toList.isEmpty = true := by rw [toList_isEmpty, decide_eq_true hz0]
      have HV := Lib.hid (lists_at S3.out.right.left.left)
      unfold recCells at HV
      dsimp only at HV
      obtain ⟨⟨c0, c1, c2, c3, c4, c5, c6, c7, c8, c9, c10⟩, -⟩ := eleven (S3.out.has (Has.l (has_blk _ _ _)))
      go_wp2_with fail
      refine (HG.out _ _ HV.out).mono ?_
      rintro e w6 ⟨rfl, hX⟩
      have S5 := Lib.hid (S3.out.below hX)
      have S6 := Lib.hid S5.out.right.comm
      clear hX S4 S3 HV c0 c1 c2 c3 c4 c5 c6 c7 c8 c9 c10 d0 d1
      cases hgb : goodB r with
      | false =>
        obtain ⟨⟨c0, c1, c2, c3, c4, c5, c6, c7, c8, c9, c10⟩, f0, f1, f2, f3, f4, f5, f6, f7, f8, f9, f10⟩ := eleven (S6.out.has (Has.l (has_blk _ _ _)))
        go_wp2_with fail
        have hF : F = false := by rw [HF.out]; simp [hgb]
        have S7 := Lib.hid (own_eleven S6.out (.int .i64 0) (.int .i64 0) (.int .i64 0) (.int .i64 0) (.slice none 0 0) (.int .i64 0) (.int .i64 0) (.string ⟨#[]⟩) (.string ⟨#[]⟩) (.slice none 0 0) (.slice none 0 0))
        clear S6 S5 c0 c1 c2 c3 c4 c5 c6 c7 c8 c9 c10 f0 f1 f2 f3 f4 f5 f6 f7 f8 f9 f10
        generalize World.setCell (World.setCell (World.setCell (World.setCell (World.setCell (World.setCell (World.setCell (World.setCell (World.setCell (World.setCell (World.setCell w6 _ _) _ _) _ _) _ _) _ _) _ _) _ _) _ _) _ _) _ _) _ _ = w7 at *
        obtain ⟨⟨c0, c1, c2, c3, c4, c5, c6, c7, c8, c9, c10⟩, -⟩ := eleven (S7.out.has (Has.l (has_blk _ _ _)))
        exact bodyPost_ret (v := .tuple #[.agg zeroCells, .int .i64 0, .int .i64 3]) (by simp [results, Tryz.results96, go_sem, zeroCells, c0, c1, c2, c3, c4, c5, c6, c7, c8, c9, c10]) rfl ⟨⟨.agg zeroCells, by rw [hF]; rfl, by rw [hF]; exact zero_rec _⟩, S7.out.bel⟩
      | true =>
        obtain ⟨⟨b0, b1, b2, b3, b4, b5, b6, b7, b8, b9, b10⟩, -⟩ := eleven (S5.out.has (Has.l (has_blk _ _ _)))
        obtain ⟨⟨c0, c1, c2, c3, c4, c5, c6, c7, c8, c9, c10⟩, f0, f1, f2, f3, f4, f5, f6, f7, f8, f9, f10⟩ := eleven (S6.out.has (Has.l (has_blk _ _ _)))
        have hF : F = true := by rw [HF.out]; simp [hb, hz0, hgb]
        have hw1 : IntKind.i64.wrap (4 + (y.size : Int)) = 4 + (y.size : Int) := by rw [IntKind.wrap_i64]; omega
        have hw2 : IntKind.i64.wrap (4 + (y.size : Int) + 4) = 4 + (y.size : Int) + 4 := by rw [IntKind.wrap_i64]; omega
        go_wp2_with fail
        have S7 := Lib.hid (own_eleven S6.out (.int .i64 r.kind) (.int .i64 r.deal) (.int .i64 r.prev) (.int .i64 r.next) (.slice A1 r.pages.length m1) (.int .i64 r.und.kind) (.int .i64 r.und.tree) (.string (ofL r.und.key)) (.string (ofL r.und.val)) (.slice A2 r.opn.length m2) (.slice A3 r.dty.length m3))
        clear S5 S6 b0 b1 b2 b3 b4 b5 b6 b7 b8 b9 b10 c0 c1 c2 c3 c4 c5 c6 c7 c8 c9 c10 f0 f1 f2 f3 f4 f5 f6 f7 f8 f9 f10
        generalize World.setCell (World.setCell (World.setCell (World.setCell (World.setCell (World.setCell (World.setCell (World.setCell (World.setCell (World.setCell (World.setCell w6 _ _) _ _) _ _) _ _) _ _) _ _) _ _) _ _) _ _) _ _) _ _ = w7 at *
        obtain ⟨⟨c0, c1, c2, c3, c4, c5, c6, c7, c8, c9, c10⟩, -⟩ := eleven (S7.out.has (Has.l (has_blk _ _ _)))
        have HV := lists_at S7.out.right.left
        unfold recCells at HV
        dsimp only at HV
        exact bodyPost_ret (v := .tuple #[.agg #[.int .i64 r.kind, .int .i64 r.deal, .int .i64 r.prev, .int .i64 r.next, .slice A1 r.pages.length m1, .int .i64 r.und.kind, .int .i64 r.und.tree, .string (ofL r.und.key), .string (ofL r.und.val), .slice A2 r.opn.length m2, .slice A3 r.dty.length m3], .int .i64 (4 + (N : Int) + 4), .int .i64 0]) (by simp [results, Tryz.results96, go_sem, c0, c1, c2, c3, c4, c5, c6, c7, c8, c9, c10]) rfl ⟨⟨_, by rw [hF, show (4 + (N : Int) + 4) = ((N + 8 : Nat) : Int) by omega]; rfl, by rw [hF]; exact HV⟩, S7.out.bel⟩
    · have hze : z.toList.isEmpty = false := by rw [toList_isEmpty, decide_eq_false hz0]
      obtain ⟨⟨c0, c1, c2, c3, c4, c5, c6, c7, c8, c9, c10⟩, f0, f1, f2, f3, f4, f5, f6, f7, f8, f9, f10⟩ := eleven (S4.out.has (Has.l (has_blk _ _ _)))
      go_wp2_with fail
      have hF : F = false := by rw [HF.out]; simp [hz0]
      have S5 := Lib.hid (own_eleven S4.out (.int .i64 0) (.int .i64 0) (.int .i64 0) (.int .i64 0) (.slice none 0 0) (.int .i64 0) (.int .i64 0) (.string ⟨#[]⟩) (.string ⟨#[]⟩) (.slice none 0 0) (.slice none 0 0))
      clear S4 S3 c0 c1 c2 c3 c4 c5 c6 c7 c8 c9 c10 f0 f1 f2 f3 f4 f5 f6 f7 f8 f9 f10
      generalize World.setCell (World.setCell (World.setCell (World.setCell (World.setCell (World.setCell (World.setCell (World.setCell (World.setCell (World.setCell (World.setCell w5 _ _) _ _) _ _) _ _) _ _) _ _) _ _) _ _) _ _) _ _) _ _ = w6 at *
      obtain ⟨⟨c0, c1, c2, c3, c4, c5, c6, c7, c8, c9, c10⟩, -⟩ := eleven (S5.out.has (Has.l (has_blk _ _ _)))
      exact bodyPost_ret (v := .tuple #[.agg zeroCells, .int .i64 0, .int .i64 3]) (by simp [results, Tryz.results96, go_sem, zeroCells, c0, c1, c2, c3, c4, c5, c6, c7, c8, c9, c10]) rfl ⟨⟨.agg zeroCells, by rw [hF]; rfl, by rw [hF]; exact zero_rec _⟩, S5.out.bel⟩

theorem Read_any (s : By) (w : World) (hs : s.length ≤ 140737488355328) (ht : Tab w) :
    Calls Tryz.prog 96 #[.string (ofL s)] w fun e w' => (∃ v, e = .returned (rV (readR s) v) ∧ RecAt w' v (rR (readR s))) ∧ Below w.heap.size w w' := by
  by_cases h1 : few s = true
  · have e1 : openN s = .tuple #[.string ⟨#[]⟩, .bool false] := by unfold openN; rw [if_pos h1]
    have e2 : readR s = none := by unfold readR; rw [if_pos h1]
    rw [e2]
    exact (Read_shut s w hs ht e1).mono fun e w' ⟨he, hb⟩ => ⟨⟨_, he, zero_rec _⟩, hb⟩
  by_cases h2 : sealedL (s.take (hd s + 8)) = false
  · have e1 : openN s = .tuple #[.string ⟨#[]⟩, .bool false] := by unfold openN; rw [if_neg h1, if_pos h2]
    have e2 : readR s = none := by unfold readR; rw [if_neg h1, if_pos h2]
    rw [e2]
    exact (Read_shut s w hs ht e1).mono fun e w' ⟨he, hb⟩ => ⟨⟨_, he, zero_rec _⟩, hb⟩
  have e1 : openN s = .tuple #[.string (ofL (inner s)), .bool true] := by unfold openN; rw [if_neg h1, if_neg h2]
  have e2 : readR s = fitO (fits (pRec ⟨inner s, false⟩)) ((pRec ⟨inner s, false⟩).1, hd s + 8) := by unfold readR; rw [if_neg h1, if_neg h2]; rfl
  rw [e2]
  obtain ⟨h4, h8⟩ := few_no h1
  exact Read_open s (inner s) (hd s) w hs ht e1 (inner_len s h8) (by omega)
end Go.Proofs.YtapdpdhibpblgaaGreatDoor.Nt
end

-- joined
section
namespace Go.Proofs.YtapdpdhibpblgaaGreatDoor.Nt
open Go.ChangeShapes Go.WideShapes Go.ChangeAt Go.RowKit Go.PlainAid Aid Cr
set_option linter.unusedVariables false
set_option linter.unusedSimpArgs false
theorem numL_snoc (k n : Nat) : numL (k + 1) n = numL k n ++ [UInt8.ofNat (n / 256 ^ k % 256)] := by
  induction k generalizing n with
  | zero => simp [numL]
  | succ k ih =>
    rw [numL, ih (n / 256), numL, List.cons_append, Nat.div_div_eq_div_mul, Nat.pow_succ, Nat.mul_comm 256]
theorem bldW : BldT 146 := by unfold BldT; kernel_rfl
def aW (g : Nat) (l : By) : Asn := aBld 146 g l
theorem tByte (g : Nat) (l : By) (c : Int) (h0 : 0 ≤ c) (h1 : c < 256) (hl : l.length < 140737488355328) :
    Tr Tryz.prog 109 #[bPtr g, .int .u8 c] (aW g l) .nilIface (aW g (l ++ [UInt8.ofNat c.toNat])) := by
  have e : (UInt8.ofNat c.toNat).toNat = c.toNat := by simp; omega
  have := bWriteByte 146 bldW g l (UInt8.ofNat c.toNat) hl
  rw [e, Int.toNat_of_nonneg h0] at this
  exact this
theorem tStr (g : Nat) (l s : By) (hl : l.length + s.length ≤ 140737488355328) :
    Tr Tryz.prog 111 #[bPtr g, .string (ofL s)] (aW g l) (.tuple #[.int .i64 s.length, .nilIface]) (aW g (l ++ s)) := bWriteString 146 bldW g l s hl
set_option maxHeartbeats 1000000 in
theorem tNum (g : Nat) (l : By) (n k : Nat) (hl : l.length + k < 140737488355328) (hn : n < 9223372036854775808) :
    Tr Tryz.prog 63 #[bPtr g, .int .i64 n, .int .i64 k] (aW g l) (.tuple #[]) (aW g (l ++ numL k n)) := by
  intro w O hA
  have S := Lib.hid (Own.start hA)
  have HB := Lib.hid (tByte g)
  clear hA
  unfold bPtr at *
  go_enter Tryz.func63, Tryz.ntmps63
  go_wp2_with fail
  go_loopw [1, 7] (fun x i wr => ∃ j : Nat, j ≤ k ∧ i = .int .i64 j ∧ x = .int .i64 ((n / 256 ^ j : Nat) : Int) ∧ Hid (Own w O wr (aW g (l ++ numL j n)))) (fun _ i _ => k - (intOf i).toNat)
  case atStart => exact ⟨0, Nat.zero_le _, rfl, by simp, by simpa [numL] using S⟩
  case round =>
    clear S
    obtain ⟨j, hj, rfl, rfl, S⟩ := hrel
    by_cases hlt : j < k
    · have hsn := numL_snoc j n
      have hle : n / 256 ^ j ≤ n := Nat.div_le_self _ _
      have hnx : n / 256 ^ (j + 1) = n / 256 ^ j / 256 := by rw [Nat.pow_succ, Nat.div_div_eq_div_mul]
      have hll : (l ++ numL j n).length < 140737488355328 := by rw [List.length_append, numL_length]; omega
      generalize n / 256 ^ j = x at *
      have HC := Lib.hid (HB.out (l ++ numL j n) ((x : Int) % 256) (by omega) (by omega) hll)
      have e2 : l ++ numL j n ++ [UInt8.ofNat ((x : Int) % 256).toNat] = l ++ numL (j + 1) n := by
        rw [hsn, List.append_assoc]; congr 4
      have HNX := Lib.hid hnx
      rw [e2] at HC
      clear hsn hnx e2 hll
      go_wp2_with fail
      refine (S.out.call HC.out).mono ?_
      rintro e w2 ⟨rfl, h2⟩
      have S2 := Lib.hid h2
      clear h2 S HC
      go_wp2_with fail
      go_round
      case rel => exact ⟨j + 1, by omega, by go_num, by rw [HNX.out]; rfl, S2⟩
      case measure => simp [intOf]; omega
    · obtain rfl : j = k := by omega
      go_wp2_with fail
      go_end0
      exact ⟨rfl, S.out⟩
theorem tNumI (g : Nat) (l : By) (n : Int) (k : Nat) (hl : l.length + k < 140737488355328) (h0 : 0 ≤ n) (hn : n < 9223372036854775808) :
    Tr Tryz.prog 63 #[bPtr g, .int .i64 n, .int .i64 k] (aW g l) (.tuple #[]) (aW g (l ++ numI k n)) := by
  have := tNum g l n.toNat k hl (by omega)
  rw [Int.toNat_of_nonneg h0] at this
  exact this
set_option maxHeartbeats 1000000 in
theorem tText (g : Nat) (l t : By) (hl : l.length + t.length + 1 < 140737488355328) :
    Tr Tryz.prog 139 #[bPtr g, .string (ofL t)] (aW g l) (.tuple #[]) (aW g (l ++ bText t)) := by
  intro w O hA
  have S := Lib.hid (Own.start hA)
  have hz : t.length = (ofL t).size := rfl
  have H1 := Lib.hid (tNum g l t.length 1 (by omega) (by omega))
  have H2 := Lib.hid (tStr g (l ++ numL 1 t.length) t (by rw [List.length_append, numL_length]; omega))
  rw [hz] at H1 hl
  rw [List.append_assoc, show numL 1 t.length ++ t = bText t from rfl] at H2
  generalize bText t = b at *
  have HZ := Lib.hid hz
  rw [hz] at H2
  clear hz
  generalize ofL t = x at *
  clear HZ
  clear hA
  unfold bPtr at *
  go_enter Tryz.func139, Tryz.ntmps139
  go_wp2_with fail
  refine (S.out.call (H1.out)).mono ?_
  rintro e w1 ⟨rfl, hX⟩
  have S1 := Lib.hid hX
  clear hX S 
  go_wp2_with fail
  refine (S1.out.call (H2.out)).mono ?_
  rintro e w2 ⟨rfl, hX⟩
  have S2 := Lib.hid hX
  clear hX S1 
  go_wp2_with fail
  go_end0
  exact ⟨rfl, S2.out⟩
theorem und_cells {w : World} {g : Nat} {k t : Int} {a b : ByteArray} (h : Blk w g 46 #[.int .i64 k, .int .i64 t, .string a, .string b]) :
    w.cell? ⟨g, 0, none⟩ = some (.int .i64 k) ∧ w.cell? ⟨g, 1, none⟩ = some (.int .i64 t) ∧ w.cell? ⟨g, 2, none⟩ = some (.string a) ∧ w.cell? ⟨g, 3, none⟩ = some (.string b) := ⟨h.cell 0, h.cell 1, h.cell 2, h.cell 3⟩
set_option maxHeartbeats 1000000 in
theorem tUndo (g : Nat) (l : By) (u : Und) (hk : 0 ≤ u.kind) (hk2 : u.kind ≤ 4) (ht : 0 ≤ u.tree) (ht2 : u.tree ≤ 255) (ha : u.key.length ≤ 255) (hb : u.val.length ≤ 255) (hl : l.length < 1000000) :
    Tr Tryz.prog 110 #[bPtr g, undV u] (aW g l) (.tuple #[]) (aW g (l ++ bUnd u)) := by
  intro w O hA
  have S := Lib.hid ((Own.start hA).alloc #[.int .i64 u.kind, .int .i64 u.tree, .string (ofL u.key), .string (ofL u.val)] 46)
  have H1 := Lib.hid (tNumI g l u.kind 1 (by omega) hk (by omega))
  have H2 := Lib.hid (tNumI g (l ++ numI 1 u.kind) u.tree 1 (by simp only [List.length_append, numI, numL_length]; omega) ht (by omega))
  have H3 := Lib.hid (tText g (l ++ numI 1 u.kind ++ numI 1 u.tree) u.key (by simp only [List.length_append, numI, numL_length]; omega))
  have H4 := Lib.hid (tText g (l ++ numI 1 u.kind ++ numI 1 u.tree ++ bText u.key) u.val (by simp only [List.length_append, numI, bText, numL_length]; omega))
  rw [show l ++ numI 1 u.kind ++ numI 1 u.tree ++ bText u.key ++ bText u.val = l ++ bUnd u by simp only [bUnd, List.append_assoc]] at H4
  generalize bUnd u = bu at *
  clear hA hk hk2 ht ht2 ha hb hl
  unfold undV
  unfold bPtr at *
  go_enter Tryz.func110, Tryz.ntmps110
  go_wp2_with fail
  obtain ⟨gu, hgz⟩ : ∃ g, g = w.heap.size := ⟨_, rfl⟩
  rw [← hgz] at S ⊢
  clear hgz
  generalize w.alloc _ = w1 at *
  refine (S.out.call H1.out.r).mono ?_
  rintro e w2 ⟨rfl, hX⟩
  have S2 := Lib.hid hX
  clear hX S
  obtain ⟨-, c1, -, -⟩ := und_cells (S2.out.has (Has.l (has_blk _ _ _)))
  go_wp2_with fail
  refine (S2.out.call (H2.out.r)).mono ?_
  rintro e w3 ⟨rfl, hX⟩
  have S3 := Lib.hid hX
  clear hX S2 c1
  obtain ⟨-, -, c2, -⟩ := und_cells (S3.out.has (Has.l (has_blk _ _ _)))
  go_wp2_with fail
  refine (S3.out.call (H3.out.r)).mono ?_
  rintro e w4 ⟨rfl, hX⟩
  have S4 := Lib.hid hX
  clear hX S3 c2
  obtain ⟨-, -, -, c3⟩ := und_cells (S4.out.has (Has.l (has_blk _ _ _)))
  go_wp2_with fail
  refine (S4.out.call (H4.out.r)).mono ?_
  rintro e w5 ⟨rfl, hX⟩
  have S5 := Lib.hid hX
  clear hX S4 c3
  go_wp2_with fail
  go_end0
  exact ⟨rfl, S5.out.right⟩
end Go.Proofs.YtapdpdhibpblgaaGreatDoor.Nt
end
