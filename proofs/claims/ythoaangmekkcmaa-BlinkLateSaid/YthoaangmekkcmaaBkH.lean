/- The way down. -/
import Derived.Test.YthoaangmekkcmaaBkF
namespace Go.Proofs.Ythoaangmekkcmaa.Bk
open Go.ChangeShapes Go.WideShapes Go.ChangeAt Go.RowKit Go.PlainAid Aid Nt Nd Tr
set_option linter.unusedVariables false
set_option linter.unusedSimpArgs false
set_option linter.unusedSectionVars false
def Low63 (n : Nod) : Prop := n.level ≤ 9223372036854775807
def LvOk (S : Sf) : Prop := ∀ p, p < 256 → Low63 (S p)
theorem none_low : Low63 Nod.none := by unfold Low63; decide
theorem at_low {S : Sf} (h : LvOk S) {p : Int} {n : Nod} (e : at_ S p = some n) : Low63 n := by
  unfold at_ at e
  split at e
  · rename_i hp; cases e; exact h _ (by omega)
  · cases e
theorem vis_low {S : Sf} (h : LvOk S) (l : Nat) (p : Int) : Low63 (vis S l p).nd := by
  cases l with
  | zero => exact none_low
  | succ l =>
    rw [vis_succ]
    cases hp : at_ S p with
    | none => exact none_low
    | some n => exact at_low h hp
theorem rgt_low {S : Sf} (h : LvOk S) (key : By) : ∀ (l : Nat) (p : Int) (n : Nod), Low63 n → Low63 (rgt S key l p n).nd
  | 0, p, n, hn => by rw [rgt_zero]; split; exact none_low; exact hn
  | l + 1, p, n, hn => by
    rw [rgt_succ]
    split
    · cases hp : at_ S n.right with
      | none => exact none_low
      | some m => exact rgt_low h key l _ _ (at_low h hp)
    · exact hn
theorem blw_low {S : Sf} (h : LvOk S) (l : Nat) (n : Nod) (i : Int) : Low63 (blw S l n i).nd := by
  unfold blw
  split
  · exact none_low
  · split
    · exact none_low
    · split
      · dsimp only
        split
        · split
          · exact vis_low h _ _
          · exact none_low
        · exact none_low
      · exact none_low
theorem lastLe_lt (l : List Ent) (key : By) : ∀ k, lastLe l key k < (k : Int)
  | 0 => by unfold lastLe; omega
  | k + 1 => by
    have := lastLe_lt l key k
    unfold lastLe
    split
    · split <;> omega
    · omega
theorem infoSpot : (Try.prog.info? 100).map (fun i => (i.zero, i.size, i.bytes)) = some (some (.agg #[.int .i64 0, .int .i64 0, .int .i64 0, .int .i64 0, .bool false, .string ⟨#[]⟩, .int .i64 0, .slice none 0 0]), 8, 88) := by kernel_rfl
theorem src_blk {P : Program} {size : Nat} {tx e' T : TypeId} (hk : P.underlying tx = some (.slice e')) {W : World} {g : Nat} {cs : List Value} (h : Blk W g T cs.toArray) (hl : cs.length = 1 * size) (hu : ∀ u, u ∈ cs → u.oneCell' = true) : Src P size tx (.slice (some ⟨g, 0, none⟩) 1 1) 1 cs W :=
  Src.ofSlice _ hk _ 1 1 _ hl (fun j u hj => by rw [addr_zero, h.cell]; simpa using hj) hu
theorem step_store_w {P : Program} {ops : Array Oper} {o : Oper} {a : Act} {K : Act → World → Prop} {Q : Exit → Act → World → Prop} {E : Prop} {w : World} (hgd : o.guard = none) (hd : o.dst = none) (p x : Operand) (t : TypeId) (ho : o.op = .store t p x)
    (pv xv : Value) (hp : a.eval p = pv) (hx : a.eval x = xv) (w' : World) (hr : (Instr.storeAt t pv xv).run P w = .ok () w') (h : K a w') : if Region.wanted o (yielded ops a.tmps) = true then Oper.wp P o a w K Q else E := by
  rw [if_pos (by simp [Region.wanted, hgd])]
  unfold Oper.wp execOp
  subst hp hx
  simp only [ho, Sem.run_bind, Sem.run_pure, Result.andThen_ok, hr]
  rw [Oper.upon_skip, hd]
  exact h
section
variable (gs : Nat) (S : Sf) (V : Nat → Value)
theorem below_any (hs : Small S) (gg left : Nat) (hl : left ≤ 256) (n : Nod) (v : Value) (i : Int) (hi : i < n.list.length) (hn : Low63 n) (w0 w : World) (C : Asn) (hS : Own w0 No w (aEnts n v * (aG gg gs left * (aSf gs S V * C)))) :
    Calls Try.prog 48 #[sPtr gg, .agg (nodCells n v), .int .i64 i] w fun e w' => ∃ v', e = .returned (.tuple #[.agg (spotC (blw S left n i).pg (blw S left n i).nd v'), .int .i64 (blw S left n i).err]) ∧
      Own w0 No w' (aEnts (blw S left n i).nd v' * (aG gg gs (blw S left n i).left * (aSf gs S V * (aEnts n v * C)))) := by
  by_cases h1 : i < 0
  · have e : blw S left n i = no left 3 := by unfold blw; rw [if_pos (Or.inl h1)]
    rw [e]
    exact below_no gs S V gg left n v i hi (Or.inl h1) w0 w C hS
  by_cases h2 : n.level < 1
  · have e : blw S left n i = no left 3 := by unfold blw; rw [if_pos (Or.inr h2)]
    rw [e]
    exact below_no gs S V gg left n v i hi (Or.inr (Or.inl h2)) w0 w C hS
  obtain ⟨q, rfl⟩ : ∃ q : Nat, i = q := ⟨i.toNat, by omega⟩
  have hq : q < n.list.length := by omega
  have he : n.list[q]? = some (n.list[q]'hq) := List.getElem?_eq_getElem hq
  generalize n.list[q]'hq = e at he
  cases hle : leadsB e with
  | false =>
    have e : blw S left n (q : Int) = no left 3 := by
      unfold blw
      rw [if_neg (by omega), Int.toNat_natCast, he]
      dsimp only
      rw [hle]
      rfl
    rw [e]
    exact below_no gs S V gg left n v q hi (Or.inr (Or.inr ⟨_, by rw [Int.toNat_natCast]; exact he, hle⟩)) w0 w C hS
  | true => exact below_yes gs S V hs gg left hl n v q e he (by omega) hn hle w0 w C hS
set_option maxRecDepth 100000 in
set_option maxHeartbeats 32000000 in
theorem seek_any (hs : Small S) (hv : LvOk S) (gg left : Nat) (hl : left ≤ 256) (root level : Int) (key : By) (w0 w : World) (C : Asn) (hS : Own w0 No w (aG gg gs left * (aSf gs S V * C))) :
    Calls Try.prog 39 #[sPtr gg, .int .i64 root, .int .i64 level, .string (ofL key)] w fun e w' => ∃ (pv : Value) (L : List Sp), e = .returned (.tuple #[pv, .int .i64 (seek S left root level key).2.1]) ∧ plain L = (seek S left root level key).2.2 ∧
      Own w0 No w' (Asn.vec 100 8 pv L.length (spL L) * (aLs L * (aG gg gs (seek S left root level key).1 * (aSf gs S V * C)))) := by
  obtain ⟨r, hr⟩ : ∃ r, r = seek S left root level key := ⟨_, rfl⟩
  rw [← hr]
  have HRR : Hid (sk S level key 300 (vis S left root) [] = r) := Lib.hid (by rw [hr]; rfl)
  clear hr
  have hx0l := vis_left S left root
  have hx0w := vis_low hv left root
  have HVv := Lib.hid (visit_any gs S V hs gg left hl root w0 w C hS)
  clear hS
  obtain ⟨x0, hx0⟩ : ∃ x, x = vis S left root := ⟨_, rfl⟩
  rw [← hx0] at HRR HVv hx0l hx0w
  clear hx0
  unfold spotC sPtr at *
  have HRt := Lib.hid (fun l hl p n v W C h => right_any gs S V hs gg l hl p n v key w0 W C h)
  have HBl := Lib.hid (fun l hl n v i hi hn W C h => below_any gs S V hs gg l hl n v i hi hn w0 W C h)
  have HFd := Lib.hid (fun n v W (h : NodAt W v n) => Find_any n key v W h)
  unfold spotC sPtr at HRt HBl
  go_enter Try.func39, Try.ntmps39
  go_wp2_with fail
  refine HVv.out.mono ?_
  rintro e w1 ⟨v, rfl, hX⟩
  obtain ⟨A1, c1, rfl⟩ := (show Own w0 No w1 (Asn.vec 44 3 v x0.nd.list.length (cells3 x0.nd.list) * _) from hX).vec.slice
  have S0 := Lib.hid (((hX.alloc #[.int .i64 x0.pg, .int .i64 x0.nd.tree, .int .i64 x0.nd.level, .int .i64 x0.nd.stamp, .bool x0.nd.has, .string (ofL x0.nd.high), .int .i64 x0.nd.right, .slice A1 x0.nd.list.length c1] 100).nilVec 100 8).re (show _ = Asn.blk w1.heap.size 100 #[.int .i64 x0.pg, .int .i64 x0.nd.tree, .int .i64 x0.nd.level, .int .i64 x0.nd.stamp, .bool x0.nd.has, .string (ofL x0.nd.high), .int .i64 x0.nd.right, .slice A1 x0.nd.list.length c1] * (aEnts x0.nd (.slice A1 x0.nd.list.length c1) * (aG gg gs x0.left * (aSf gs S V * (Asn.vec 100 8 (.slice none 0 0) ([] : List Sp).length (spL []) * (aLs [] * C))))) by rw [show aLs [] = Asn.emp from rfl, emp_mul]; show Asn.vec 100 8 (.slice none 0 0) 0 [] * _ = _; ac_rfl))
  clear hX HVv
  go_upto_region 2 with fail
  obtain ⟨g10, hgz⟩ : ∃ g, g = w1.heap.size := ⟨_, rfl⟩
  rw [← hgz] at S0 ⊢
  clear hgz
  generalize World.alloc _ _ = w2 at *
  go_wp2_with fail
  go_loopw [11, 12] (fun p11 p12 wr => ∃ (f : Nat) (x : Vi) (A1 : Option Addr) (c1 : Nat) (L : List Sp), p11 = .int .i64 (x.err : Int) ∧ (x.err = 0 → x.left + 2 ≤ f) ∧ 1 ≤ f ∧ (x.err = 0 → L.length + x.left ≤ 257) ∧ x.left ≤ 256 ∧ Hid (Low63 x.nd) ∧ Hid (sk S level key f x (plain L) = r) ∧
    Hid (Own w0 No wr (Asn.blk g10 100 #[.int .i64 x.pg, .int .i64 x.nd.tree, .int .i64 x.nd.level, .int .i64 x.nd.stamp, .bool x.nd.has, .string (ofL x.nd.high), .int .i64 x.nd.right, .slice A1 x.nd.list.length c1] * (aEnts x.nd (.slice A1 x.nd.list.length c1) * (aG gg gs x.left * (aSf gs S V * (Asn.vec 100 8 p12 L.length (spL L) * (aLs L * C)))))))) (fun p11 _ wr => 2 * (256 - intOf ((wr.cell? ⟨gg, 1, none⟩).getD undef)).toNat + (if intOf p11 = 0 then 1 else 0))
  case atStart => exact ⟨300, x0, A1, c1, [], rfl, fun _ => by omega, by omega, fun _ => by show 0 + _ ≤ _; omega, by omega, Lib.hid hx0w, HRR, S0⟩
  case round =>
    clear S0 HRR hx0l hx0w
    obtain ⟨f, x, A1, c1, L, rfl, hf, hf1, hLl, hxl, HXW, HRR, S0⟩ := hrel
    obtain ⟨pv, hpv⟩ : ∃ q, q = u12 := ⟨_, rfl⟩
    rw [← hpv] at S0 ⊢
    clear hpv
    obtain ⟨f, rfl⟩ : ∃ f', f = f' + 1 := ⟨f - 1, by omega⟩
    by_cases he : x.err = 0
    · have he0 : ((x.err : Nat) : Int) = 0 := by rw [he]; rfl
      have hf2 := hf he
      rw [he0]
      have hgc : wr.cell? ⟨gg, 1, none⟩ = some (.int .i64 (256 - (x.left : Int))) := (S0.out.right.right.has (Has.l (has_blk _ _ _))).cell 1
      have HMS : Hid ((256 - intOf ((wr.cell? ⟨gg, 1, none⟩).getD undef)).toNat = x.left) := Lib.hid (by rw [hgc]; simp [intOf]; omega)
      obtain ⟨k0, k1, k2, k3, k4, k5, k6, k7⟩ := eight_of (S0.out.has (Has.l (has_blk _ _ _)))
      obtain ⟨s, hs'⟩ : ∃ s, s = rgt S key x.left x.pg x.nd := ⟨_, rfl⟩
      have HSR := Lib.hid hs'
      have hsl : s.left ≤ x.left := by rw [hs']; exact rgt_left ..
      have hsw : Low63 s.nd := by rw [hs']; exact rgt_low hv key _ _ _ HXW.out
      have HRv := Lib.hid (HRt.out x.left hxl x.pg x.nd (.slice A1 x.nd.list.length c1) wr _ (S0.out.re (show _ = aEnts x.nd (.slice A1 x.nd.list.length c1) * (aG gg gs x.left * (aSf gs S V * (Asn.blk g10 100 #[.int .i64 x.pg, .int .i64 x.nd.tree, .int .i64 x.nd.level, .int .i64 x.nd.stamp, .bool x.nd.has, .string (ofL x.nd.high), .int .i64 x.nd.right, .slice A1 x.nd.list.length c1] * (Asn.vec 100 8 pv L.length (spL L) * (aLs L * C))))) by ac_rfl)))
      rw [← hs'] at HRv
      clear hs' hgc
      go_wp2_with fail
      refine HRv.out.mono ?_
      rintro e w3 ⟨v3, rfl, hX⟩
      obtain ⟨A2, c2, rfl⟩ := (show Own w0 No w3 (Asn.vec 44 3 v3 s.nd.list.length (cells3 s.nd.list) * _) from hX).vec.slice
      have S1 := Lib.hid (hX.re (show _ = Asn.blk g10 100 #[.int .i64 x.pg, .int .i64 x.nd.tree, .int .i64 x.nd.level, .int .i64 x.nd.stamp, .bool x.nd.has, .string (ofL x.nd.high), .int .i64 x.nd.right, .slice A1 x.nd.list.length c1] * (aEnts s.nd (.slice A2 s.nd.list.length c2) * (aG gg gs s.left * (aSf gs S V * (Asn.vec 100 8 pv L.length (spL L) * (aLs L * C))))) by ac_rfl))
      have HST := Lib.hid (store8 (S1.out.has (Has.l (has_blk _ _ _))) s.pg s.nd.tree s.nd.level s.nd.stamp s.nd.right s.nd.has (ofL s.nd.high) A2 s.nd.list.length c2)
      have S2 := Lib.hid (own_8 S1.out (.int .i64 s.pg) (.int .i64 s.nd.tree) (.int .i64 s.nd.level) (.int .i64 s.nd.stamp) (.bool s.nd.has) (.string (ofL s.nd.high)) (.int .i64 s.nd.right) (.slice A2 s.nd.list.length c2))
      clear hX S0 S1 HRv k0 k1 k2 k3 k4 k5 k6 k7
      go_upto_region 5 with (with_reducible refine step_store rfl rfl (.tmp 10) (.tmp 26) 100 rfl (.pointer (some ⟨g10, 0, none⟩)) (.agg #[.int .i64 s.pg, .int .i64 s.nd.tree, .int .i64 s.nd.level, .int .i64 s.nd.stamp, .bool s.nd.has, .string (ofL s.nd.high), .int .i64 s.nd.right, .slice A2 s.nd.list.length c2]) ?c1 ?c2 _ HST.out ?_)
      try (case c1 => rfl)
      try (case c2 => rfl)
      clear HST
      generalize World.setCell (World.setCell (World.setCell (World.setCell (World.setCell (World.setCell (World.setCell (World.setCell w3 _ _) _ _) _ _) _ _) _ _) _ _) _ _) _ _ = w4 at *
      by_cases hse : s.err = 0
      · have hse0 : ((s.err : Nat) : Int) = 0 := by rw [hse]; rfl
        rw [hse0]
        have hk8 := eight_of (S2.out.has (Has.l (has_blk _ _ _)))
        obtain ⟨k0, k1, k2, k3, k4, k5, k6, k7⟩ := hk8
        have S3 := Lib.hid ((S2.out.alloc #[.int .i64 s.pg, .int .i64 s.nd.tree, .int .i64 s.nd.level, .int .i64 s.nd.stamp, .bool s.nd.has, .string (ofL s.nd.high), .int .i64 s.nd.right, .slice A2 s.nd.list.length c2] 100).re (show _ = Asn.vec 100 8 pv L.length (spL L) * (Asn.blk w4.heap.size 100 #[.int .i64 s.pg, .int .i64 s.nd.tree, .int .i64 s.nd.level, .int .i64 s.nd.stamp, .bool s.nd.has, .string (ofL s.nd.high), .int .i64 s.nd.right, .slice A2 s.nd.list.length c2] * (Asn.blk g10 100 #[.int .i64 s.pg, .int .i64 s.nd.tree, .int .i64 s.nd.level, .int .i64 s.nd.stamp, .bool s.nd.has, .string (ofL s.nd.high), .int .i64 s.nd.right, .slice A2 s.nd.list.length c2] * (aEnts s.nd (.slice A2 s.nd.list.length c2) * (aG gg gs s.left * (aSf gs S V * (aLs L * C)))))) by ac_rfl))
        have CX : Hid (Src Try.prog 8 96 (.slice (some ⟨w4.heap.size, 0, none⟩) 1 1) 1 [.int .i64 s.pg, .int .i64 s.nd.tree, .int .i64 s.nd.level, .int .i64 s.nd.stamp, .bool s.nd.has, .string (ofL s.nd.high), .int .i64 s.nd.right, .slice A2 s.nd.list.length c2] (w4.alloc (.cells #[.int .i64 s.pg, .int .i64 s.nd.tree, .int .i64 s.nd.level, .int .i64 s.nd.stamp, .bool s.nd.has, .string (ofL s.nd.high), .int .i64 s.nd.right, .slice A2 s.nd.list.length c2] 100))) := Lib.hid (src_blk Try.underlying96 (Blk.new w4 #[.int .i64 s.pg, .int .i64 s.nd.tree, .int .i64 s.nd.level, .int .i64 s.nd.stamp, .bool s.nd.has, .string (ofL s.nd.high), .int .i64 s.nd.right, .slice A2 s.nd.list.length c2] 100) rfl (by intro u hu; simp at hu; rcases hu with rfl | rfl | rfl | rfl | rfl | rfl | rfl | rfl <;> rfl))
        have hLl2 := hLl he
        clear S2
        go_wp2_with (with_reducible refine wpList_append_vec rfl (.tmp 30) (.tmp 32) 96 96 rfl 100 _ 8 88 Try.underlying96 infoSpot ?c1 ?c2 pv L.length (spL L) ?c7 S3.out.vec (.slice (some ⟨w4.heap.size, 0, none⟩) 1 1) ?c8 1 _ CX.out ?c3 ?c4 ?_)
        case c1 => rfl
        case c2 => decide
        case c3 => unfold maxLen; omega
        case c4 => omega
        case c7 => rfl
        case c8 => rfl
        intro v' w5 hv hc hf5
        have S4 := Lib.hid (S3.out.app hv hc hf5)
        obtain ⟨A5, c5, rfl⟩ := hv.slice
        clear S3 CX hv hc hf5 k0 k1 k2 k3 k4 k5 k6 k7
        obtain ⟨x1, hx1⟩ : ∃ x1 : Sp, x1 = ⟨s.pg, s.nd, .slice A2 s.nd.list.length c2⟩ := ⟨_, rfl⟩
        have S5 : Hid (Own w0 No w5 (Asn.blk g10 100 #[.int .i64 s.pg, .int .i64 s.nd.tree, .int .i64 s.nd.level, .int .i64 s.nd.stamp, .bool s.nd.has, .string (ofL s.nd.high), .int .i64 s.nd.right, .slice A2 s.nd.list.length c2] * (aEnts s.nd (.slice A2 s.nd.list.length c2) * (aG gg gs s.left * (aSf gs S V * (Asn.vec 100 8 (.slice A5 (L.length + 1) c5) (L.length + 1) (spL L ++ [.int .i64 s.pg, .int .i64 s.nd.tree, .int .i64 s.nd.level, .int .i64 s.nd.stamp, .bool s.nd.has, .string (ofL s.nd.high), .int .i64 s.nd.right, .slice A2 s.nd.list.length c2]) * (aLs L * C))))))) := Lib.hid (S4.out.re (show _ = Asn.blk w4.heap.size 100 #[.int .i64 s.pg, .int .i64 s.nd.tree, .int .i64 s.nd.level, .int .i64 s.nd.stamp, .bool s.nd.has, .string (ofL s.nd.high), .int .i64 s.nd.right, .slice A2 s.nd.list.length c2] * (Asn.blk g10 100 #[.int .i64 s.pg, .int .i64 s.nd.tree, .int .i64 s.nd.level, .int .i64 s.nd.stamp, .bool s.nd.has, .string (ofL s.nd.high), .int .i64 s.nd.right, .slice A2 s.nd.list.length c2] * (aEnts s.nd (.slice A2 s.nd.list.length c2) * (aG gg gs s.left * (aSf gs S V * (Asn.vec 100 8 (.slice A5 (L.length + 1) c5) (L.length + 1) (spL L ++ [.int .i64 s.pg, .int .i64 s.nd.tree, .int .i64 s.nd.level, .int .i64 s.nd.stamp, .bool s.nd.has, .string (ofL s.nd.high), .int .i64 s.nd.right, .slice A2 s.nd.list.length c2]) * (aLs L * C)))))) by ac_rfl)).right
        have HSPL : Hid (spL L ++ [.int .i64 s.pg, .int .i64 s.nd.tree, .int .i64 s.nd.level, .int .i64 s.nd.stamp, .bool s.nd.has, .string (ofL s.nd.high), .int .i64 s.nd.right, .slice A2 s.nd.list.length c2] = spL (L ++ [x1]) ∧ L.length + 1 = (L ++ [x1]).length ∧ aEnts s.nd (.slice A2 s.nd.list.length c2) * aLs L = aLs (L ++ [x1]) ∧ plain L ++ [(s.pg, s.nd)] = plain (L ++ [x1])) := Lib.hid ⟨by rw [spL_app, hx1]; rfl, by simp, by rw [aLs_snoc, hx1], by rw [plain_snoc, hx1]⟩
        clear S4 hx1
        obtain ⟨k0, k1, k2, k3, k4, k5, k6, k7⟩ := eight_of (S5.out.has (Has.l (has_blk _ _ _)))
        by_cases hle1 : s.nd.level = level
        · have hb1 : (s.nd.level == level) = true := beq_iff_eq.2 hle1
          have hrr := HRR.out
          rw [sk_at S level key f x s _ he HSR.out hse hle1] at hrr
          subst hrr
          have S6 := Lib.hid ((S5.out.re (show _ = Asn.blk g10 100 #[.int .i64 s.pg, .int .i64 s.nd.tree, .int .i64 s.nd.level, .int .i64 s.nd.stamp, .bool s.nd.has, .string (ofL s.nd.high), .int .i64 s.nd.right, .slice A2 s.nd.list.length c2] * (Asn.vec 100 8 (.slice A5 (L.length + 1) c5) (L.length + 1) (spL L ++ [.int .i64 s.pg, .int .i64 s.nd.tree, .int .i64 s.nd.level, .int .i64 s.nd.stamp, .bool s.nd.has, .string (ofL s.nd.high), .int .i64 s.nd.right, .slice A2 s.nd.list.length c2]) * ((aEnts s.nd (.slice A2 s.nd.list.length c2) * aLs L) * (aG gg gs s.left * (aSf gs S V * C)))) by ac_rfl)).right)
          rw [HSPL.out.1, HSPL.out.2.2.1] at S6
          have S7 : Hid (Own w0 No w5 (Asn.vec 100 8 (.slice A5 (L.length + 1) c5) (L ++ [x1]).length (spL (L ++ [x1])) * (aLs (L ++ [x1]) * (aG gg gs s.left * (aSf gs S V * C))))) := Lib.hid (by rw [← HSPL.out.2.1]; exact S6.out)
          have hpl := HSPL.out.2.2.2
          clear S5 S6 HSPL HRR hf hf2 hle1 HRt HBl HFd HXW HSR HMS
          go_wp2_with fail
          go_returns
          exact ⟨_, rfl, L ++ [x1], rfl, S7.out⟩
        · have hb1 : (s.nd.level == level) = false := beq_eq_false_iff_ne.2 hle1
          by_cases hlt1 : s.nd.level < level
          · have hrr := HRR.out
            rw [sk_lo S level key f x s _ he HSR.out hse hlt1] at hrr
            subst hrr
            have S6 := Lib.hid ((S5.out.re (show _ = (Asn.blk g10 100 #[.int .i64 s.pg, .int .i64 s.nd.tree, .int .i64 s.nd.level, .int .i64 s.nd.stamp, .bool s.nd.has, .string (ofL s.nd.high), .int .i64 s.nd.right, .slice A2 s.nd.list.length c2] * (aEnts s.nd (.slice A2 s.nd.list.length c2) * (Asn.vec 100 8 (.slice A5 (L.length + 1) c5) (L.length + 1) (spL L ++ [.int .i64 s.pg, .int .i64 s.nd.tree, .int .i64 s.nd.level, .int .i64 s.nd.stamp, .bool s.nd.has, .string (ofL s.nd.high), .int .i64 s.nd.right, .slice A2 s.nd.list.length c2]) * aLs L))) * (aG gg gs s.left * (aSf gs S V * C)) by ac_rfl)).right.nilVec 100 8)
            clear S5 HSPL HRR hf hf2 hle1 HRt HBl HFd HXW HSR HMS
            go_wp2_with fail
            go_returns
            refine ⟨.slice none 0 0, rfl, [], rfl, ?_⟩
            rw [show aLs [] = Asn.emp from rfl, emp_mul]
            exact S6.out
          · have hrr := HRR.out
            rw [sk_go S level key f x s _ he HSR.out hse (by omega), HSPL.out.2.2.2] at hrr
            have HRR2 := Lib.hid hrr
            clear hrr HRR
            go_upto_region 11 with fail
            obtain ⟨ix, hix⟩ : ∃ i, i = lastLe s.nd.list key s.nd.list.length := ⟨_, rfl⟩
            have hil : ix < (s.nd.list.length : Int) := by rw [hix]; exact lastLe_lt ..
            obtain ⟨y, hy⟩ : ∃ y, y = blw S s.left s.nd ix := ⟨_, rfl⟩
            have hyl : y.left ≤ s.left := by rw [hy]; exact blw_left ..
            have hyl2 : y.err = 0 → y.left + 1 = s.left := fun h => by rw [hy] at h ⊢; exact blw_less _ _ _ _ h
            have hyw : Low63 y.nd := by rw [hy]; exact blw_low hv ..
            have S5d := Lib.hid S5.out.drew
            have HFd1 := Lib.hid (HFd.out s.nd (.agg (nodCells s.nd (.slice A2 s.nd.list.length c2))) w5.drew (ents_at (S5d.out.re (show _ = aEnts s.nd (.slice A2 s.nd.list.length c2) * (Asn.blk g10 100 #[.int .i64 s.pg, .int .i64 s.nd.tree, .int .i64 s.nd.level, .int .i64 s.nd.stamp, .bool s.nd.has, .string (ofL s.nd.high), .int .i64 s.nd.right, .slice A2 s.nd.list.length c2] * (aG gg gs s.left * (aSf gs S V * (Asn.vec 100 8 (.slice A5 (L.length + 1) c5) (L.length + 1) (spL L ++ [.int .i64 s.pg, .int .i64 s.nd.tree, .int .i64 s.nd.level, .int .i64 s.nd.stamp, .bool s.nd.has, .string (ofL s.nd.high), .int .i64 s.nd.right, .slice A2 s.nd.list.length c2]) * (aLs L * C))))) by ac_rfl)).left))
            have HBl1 := Lib.hid (fun W (h : Own w0 No W (Asn.blk g10 100 #[.int .i64 s.pg, .int .i64 s.nd.tree, .int .i64 s.nd.level, .int .i64 s.nd.stamp, .bool s.nd.has, .string (ofL s.nd.high), .int .i64 s.nd.right, .slice A2 s.nd.list.length c2] * (aEnts s.nd (.slice A2 s.nd.list.length c2) * (aG gg gs s.left * (aSf gs S V * (Asn.vec 100 8 (.slice A5 (L.length + 1) c5) (L.length + 1) (spL L ++ [.int .i64 s.pg, .int .i64 s.nd.tree, .int .i64 s.nd.level, .int .i64 s.nd.stamp, .bool s.nd.has, .string (ofL s.nd.high), .int .i64 s.nd.right, .slice A2 s.nd.list.length c2]) * (aLs L * C))))))) => HBl.out s.left (by omega) s.nd (.slice A2 s.nd.list.length c2) ix hil hsw W _ (h.re (show _ = aEnts s.nd (.slice A2 s.nd.list.length c2) * (aG gg gs s.left * (aSf gs S V * (Asn.blk g10 100 #[.int .i64 s.pg, .int .i64 s.nd.tree, .int .i64 s.nd.level, .int .i64 s.nd.stamp, .bool s.nd.has, .string (ofL s.nd.high), .int .i64 s.nd.right, .slice A2 s.nd.list.length c2] * (Asn.vec 100 8 (.slice A5 (L.length + 1) c5) (L.length + 1) (spL L ++ [.int .i64 s.pg, .int .i64 s.nd.tree, .int .i64 s.nd.level, .int .i64 s.nd.stamp, .bool s.nd.has, .string (ofL s.nd.high), .int .i64 s.nd.right, .slice A2 s.nd.list.length c2]) * (aLs L * C))))) by ac_rfl)))
            rw [← hy] at HBl1
            rw [← hix] at HFd1 HRR2
            rw [← hy] at HRR2
            unfold nodCells at HFd1 HBl1
            have tA := eight_of (S5d.out.has (Has.l (has_blk _ _ _)))
            clear hix hy hil k0 k1 k2 k3 k4 k5 k6 k7 HFd HBl hle1 hlt1 HSR
            obtain ⟨k0, k1, k2, k3, k4, k5, k6, k7⟩ := tA
            go_region_law (first
              | (go_simp; go_at_call 47; refine HFd1.out.mono ?_; rintro e w6 ⟨rfl, hX⟩; have S6 := Lib.hid (S5d.out.below hX); obtain ⟨m0, m1, m2, m3, m4, m5, m6, m7⟩ := eight_of (S6.out.has (Has.l (has_blk _ _ _))))
              | (go_simp; go_at_call 48; refine (HBl1.out _ S6.out).mono ?_; rintro e w7 ⟨v7, rfl, hX⟩; obtain ⟨A7, c7, rfl⟩ := (show Own w0 No w7 (Asn.vec 44 3 v7 y.nd.list.length (cells3 y.nd.list) * _) from hX).vec.slice; have S7 := Lib.hid (hX.re (show _ = Asn.blk g10 100 #[.int .i64 s.pg, .int .i64 s.nd.tree, .int .i64 s.nd.level, .int .i64 s.nd.stamp, .bool s.nd.has, .string (ofL s.nd.high), .int .i64 s.nd.right, .slice A2 s.nd.list.length c2] * (aEnts y.nd (.slice A7 y.nd.list.length c7) * (aG gg gs y.left * (aSf gs S V * (aEnts s.nd (.slice A2 s.nd.list.length c2) * (Asn.vec 100 8 (.slice A5 (L.length + 1) c5) (L.length + 1) (spL L ++ [.int .i64 s.pg, .int .i64 s.nd.tree, .int .i64 s.nd.level, .int .i64 s.nd.stamp, .bool s.nd.has, .string (ofL s.nd.high), .int .i64 s.nd.right, .slice A2 s.nd.list.length c2]) * (aLs L * C)))))) by ac_rfl)); have hB := S7.out.has (Has.l (has_blk _ _ _)); obtain ⟨q0, q1, q2, q3, q4, q5, q6, q7⟩ := eight_of hB; have f0 := hB.free 0; have f1 := hB.free 1; have f2 := hB.free 2; have f3 := hB.free 3; have f4 := hB.free 4; have f5 := hB.free 5; have f6 := hB.free 6; have f7 := hB.free 7))
            all_goals
              have S8 := Lib.hid (own_8 S7.out (.int .i64 y.pg) (.int .i64 y.nd.tree) (.int .i64 y.nd.level) (.int .i64 y.nd.stamp) (.bool y.nd.has) (.string (ofL y.nd.high)) (.int .i64 y.nd.right) (.slice A7 y.nd.list.length c7))
              clear hB q0 q1 q2 q3 q4 q5 q6 q7 f0 f1 f2 f3 f4 f5 f6 f7
              generalize World.setCell (World.setCell (World.setCell (World.setCell (World.setCell (World.setCell (World.setCell (World.setCell w7 _ _) _ _) _ _) _ _) _ _) _ _) _ _) _ _ = w8 at *
              have S9 : Hid (Own w0 No w8 (Asn.blk g10 100 #[.int .i64 y.pg, .int .i64 y.nd.tree, .int .i64 y.nd.level, .int .i64 y.nd.stamp, .bool y.nd.has, .string (ofL y.nd.high), .int .i64 y.nd.right, .slice A7 y.nd.list.length c7] * (aEnts y.nd (.slice A7 y.nd.list.length c7) * (aG gg gs y.left * (aSf gs S V * (Asn.vec 100 8 (.slice A5 (L.length + 1) c5) (L ++ [x1]).length (spL (L ++ [x1])) * (aLs (L ++ [x1]) * C))))))) := Lib.hid (S8.out.re (by rw [← HSPL.out.1, ← HSPL.out.2.1, ← HSPL.out.2.2.1]; ac_rfl))
              have hgc2 := (S9.out.right.right.has (Has.l (has_blk _ _ _))).cell 1
              have HG2 := Lib.hid hgc2
              clear hgc2 S8 S7 S6 S5d S5
              have hll : (L ++ [x1]).length = L.length + 1 := by simp
              simp only [List.getElem_toArray, List.getElem_cons_succ, List.getElem_cons_zero, Act.put, List.setIfInBounds_toArray, List.set_cons_zero, List.set_cons_succ]
              go_roundw
              case rel => exact ⟨_, _, _, _, _, _, _, _, _, _, _, _, _, _, _, _, _, _, _, _, _, _, _, _, _, _, _, _, _, _, _, _, _, _, _, _, _, _, _, _, _, ⟨f, y, A7, c7, L ++ [x1], rfl, fun h => by have := hyl2 h; omega, by omega, fun h => by have := hyl2 h; omega, by omega, Lib.hid hyw, HRR2, S9⟩, rfl⟩
              case measure =>
                rw [HMS.out]
                simp only [HG2.out, Option.getD_some, intOf, List.getD_eq_getElem?_getD, Array.getD_eq_getD_getElem?, List.getElem?_toArray, List.getElem?_cons_succ, List.getElem?_cons_zero]
                by_cases hye : y.err = 0
                · have := hyl2 hye
                  rw [hye]
                  simp
                  omega
                · have hne : ¬ ((y.err : Nat) : Int) = 0 := by omega
                  rw [if_neg hne]
                  simp
                  omega
      · have hse1 : (((s.err : Nat) : Int) == 0) = false := beq_eq_false_iff_ne.2 (by omega)
        have hrr := HRR.out
        rw [sk_rgt S level key f x _ he (by rw [← HSR.out]; exact hse), ← HSR.out] at hrr
        subst hrr
        have S3 := Lib.hid ((S2.out.re (show _ = (Asn.blk g10 100 #[.int .i64 s.pg, .int .i64 s.nd.tree, .int .i64 s.nd.level, .int .i64 s.nd.stamp, .bool s.nd.has, .string (ofL s.nd.high), .int .i64 s.nd.right, .slice A2 s.nd.list.length c2] * (aEnts s.nd (.slice A2 s.nd.list.length c2) * (Asn.vec 100 8 pv L.length (spL L) * aLs L))) * (aG gg gs s.left * (aSf gs S V * C)) by ac_rfl)).right.nilVec 100 8)
        clear S2 he hse HRR hf hf2
        go_wp2_with fail
        go_returns
        refine ⟨.slice none 0 0, rfl, [], rfl, ?_⟩
        rw [show aLs [] = Asn.emp from rfl, emp_mul]
        exact S3.out
    · have he1 : (((x.err : Nat) : Int) == 0) = false := beq_eq_false_iff_ne.2 (by omega)
      have hrr := HRR.out
      rw [sk_err S level key f x _ he] at hrr
      subst hrr
      have S1 := Lib.hid ((S0.out.re (show _ = (Asn.blk g10 100 #[.int .i64 x.pg, .int .i64 x.nd.tree, .int .i64 x.nd.level, .int .i64 x.nd.stamp, .bool x.nd.has, .string (ofL x.nd.high), .int .i64 x.nd.right, .slice A1 x.nd.list.length c1] * (aEnts x.nd (.slice A1 x.nd.list.length c1) * (Asn.vec 100 8 pv L.length (spL L) * aLs L))) * (aG gg gs x.left * (aSf gs S V * C)) by ac_rfl)).right.nilVec 100 8)
      clear S0 he HRR hf
      go_wp2_with fail
      go_returns
      refine ⟨.slice none 0 0, rfl, [], rfl, ?_⟩
      rw [show aLs [] = Asn.emp from rfl, emp_mul]
      exact S1.out
end
end Go.Proofs.Ythoaangmekkcmaa.Bk
