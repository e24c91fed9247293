/- Texts of ours, joined. -/
import Derived.Test.YthoaangmekkcmaaTrP
import Derived.Test.YthoaangmekkcmaaNtH
import Derived.Test.YthoaangmekkcmaaNtA
import Derived.Test.YthoaangmekkcmaaNdV
import Derived.Test.YthoaangmekkcmaaNdR
import Derived.Deep.CutBlock
import Derived.Deep.Draws

-- joined
section
namespace Go.Proofs.Ythoaangmekkcmaa.Nt
open Go.ChangeShapes Go.WideShapes Go.ChangeAt Go.RowKit Go.PlainAid Aid
set_option linter.unusedVariables false
set_option linter.unusedSimpArgs false
end Go.Proofs.Ythoaangmekkcmaa.Nt
end

-- joined
section
namespace Go.Proofs.Ythoaangmekkcmaa.Nt
open Go.ChangeShapes Go.WideShapes Go.ChangeAt Go.RowKit Go.PlainAid Aid Cr
set_option linter.unusedVariables false
set_option linter.unusedSimpArgs false
section
variable (g gr m size : Nat) (v : Value) (L : List Rec) (safe held : Nat)
end
end Go.Proofs.Ythoaangmekkcmaa.Nt
end

-- joined
section
namespace Go.Proofs.Ythoaangmekkcmaa.Nt
open Go.ChangeShapes Go.WideShapes Go.ChangeAt Go.RowKit Go.PlainAid Aid Cr
set_option linter.unusedVariables false
set_option linter.unusedSimpArgs false
section
variable (g gr m size : Nat) (v : Value) (L : List Rec) (safe held : Nat)
end
end Go.Proofs.Ythoaangmekkcmaa.Nt
end

-- joined
section
namespace Go.Proofs.Ythoaangmekkcmaa.Nt
open Go.ChangeShapes Go.WideShapes Go.ChangeAt Go.RowKit Go.PlainAid Aid Cr
set_option linter.unusedVariables false
set_option linter.unusedSimpArgs false
end Go.Proofs.Ythoaangmekkcmaa.Nt
end

-- joined
section
namespace Go.Proofs.Ythoaangmekkcmaa.Nt
open Go.ChangeShapes Go.WideShapes Go.ChangeAt Go.RowKit Go.PlainAid Aid Cr
set_option linter.unusedVariables false
set_option linter.unusedSimpArgs false
section
variable (g gr m size : Nat) (v : Value) (L : List Rec) (safe held : Nat)
theorem own_front {w0 w : World} {O0 : Nat → Prop} {A B C : Asn} (h : Own w0 O0 w (A * (B * C))) : Own w0 O0 w (B * (A * C)) := (h.assoc'.imp (Imp.l (fun _ _ => sep_comm))).assoc
section
variable {w0 w : World} {O0 : Nat → Prop} {A B C R M V : Asn}
end
theorem own_join {w0 w w' : World} {O0 : Nat → Prop} {A B : Asn} (h : Own w0 O0 w A) (k : Own w No w' B) : Own w0 O0 w' (B * A) :=
  h.then fun O hO => k.frame hO (fun _ h => h.elim) (fun _ => ⟨Or.inr, fun h => h.elim (fun x => x.elim) id⟩)
end
end Go.Proofs.Ythoaangmekkcmaa.Nt
end

-- joined
section
namespace Go.Proofs.Ythoaangmekkcmaa.Tr
open Go.ChangeShapes Go.WideShapes Go.ChangeAt Go.RowKit Go.PlainAid Aid Nt Nd
set_option linter.unusedVariables false
set_option linter.unusedSimpArgs false
theorem vecChg {w0 w w' : World} {O0 : Nat → Prop} {C : Asn} {e : TypeId} {size n n' : Nat} {v v' : Value} {xs xs' : List Value} (h : Own w0 O0 w (Asn.vec e size v n xs * C)) (h1 : Vec w' e size v' n' xs') (h2 : Chg (VB v) w w') (h3 : Fresh w (VB v) (VB v')) : Own w0 O0 w' (Asn.vec e size v' n' xs' * C) :=
  h.then fun O ⟨X, Y, hX, hC, hd, hO⟩ => (show Own w X w' (Asn.vec e size v' n' xs') from ⟨⟨VB v', ⟨h1, fun _ => Iff.rfl⟩, fun k hk => (h3 k hk).imp (fun x => (hX.2 k).2 x) id⟩, h2.mono (fun i _ hi => (hX.2 i).2 hi)⟩).frame hC hd hO
theorem ents_len (l : List Ent) : (cells3 l).length = l.length * 3 := by
  unfold cells3
  induction l with
  | nil => rfl
  | cons a l ih => rw [List.flatMap_cons, List.length_append, ih, List.length_cons]; simp only [List.length_cons, List.length_nil]; omega
theorem ents_one (l : List Ent) : ∀ v ∈ cells3 l, v.oneCell' = true := by
  intro v hv
  unfold cells3 at hv
  obtain ⟨x, -, hx⟩ := List.mem_flatMap.1 hv
  simp only [List.mem_cons, List.not_mem_nil, or_false] at hx
  rcases hx with rfl | rfl | rfl <;> rfl
theorem ents_src {w W : World} {A : Option Addr} {m c : Nat} {l : List Ent} (h : Row3 w (.slice A m c) l) (hb : Below w.heap.size w W) : l = [] ∨ ∃ a, A = some a ∧ ∀ j u, (cells3 l)[j]? = some u → W.cell? (a.add j) = some u := by
  obtain ⟨A', c', hv, hm, h9⟩ := h.keep hb
  clear h
  cases hv
  rcases h9 with rfl | ⟨b, o, rfl, hl, hc⟩
  · exact Or.inl rfl
  · refine Or.inr ⟨_, rfl, fun j u hj => ?_⟩
    have hlt : j < l.length * 3 := by rw [← ents_len]; exact (List.getElem?_eq_some_iff.1 hj).1
    obtain ⟨x, hx⟩ : ∃ x, l[j / 3]? = some x := ⟨l[j / 3]'(by omega), List.getElem?_eq_getElem _⟩
    obtain ⟨c0, c1, c2⟩ := hc _ _ hx
    have hf := flatMap_at (fun x : Ent => [Value.string (ofL x.key), .string (ofL x.val), .bool x.ghost]) 3 (fun _ => rfl) l (j / 3) (j % 3) x hx (Nat.mod_lt _ (by decide))
    rw [show j / 3 * 3 + j % 3 = j by omega] at hf
    unfold cells3 at hj
    rw [hj] at hf
    rw [Addr.add_lit]
    have h3 : j % 3 = 0 ∨ j % 3 = 1 ∨ j % 3 = 2 := by omega
    rcases h3 with h3 | h3 | h3
    · rw [h3] at hf
      simp only [List.getElem?_cons_zero, Option.some.injEq] at hf
      rw [hf, ← c0]; congr 2; omega
    · rw [h3] at hf
      simp only [List.getElem?_cons_succ, List.getElem?_cons_zero, Option.some.injEq] at hf
      rw [hf, ← c1]; congr 2; omega
    · rw [h3] at hf
      simp only [List.getElem?_cons_succ, List.getElem?_cons_zero, Option.some.injEq] at hf
      rw [hf, ← c2]; congr 2; omega
set_option maxRecDepth 100000 in
set_option maxHeartbeats 2000000 in
theorem clone_ents (p : Value) (l : List Ent) (w : World) (h : Row3 w p l) (hl : l.length ≤ 100000) :
    Calls Try.prog 40 #[p] w fun e w' => ∃ p', e = .returned p' ∧ Own w No w' (Asn.vec 44 3 p' l.length (cells3 l)) := by
  obtain ⟨A, c, rfl⟩ := h.slice
  have hq := fun (a : Option Addr) (n c : Nat) (w : World) => Lib.run_eql_slice_nil (P := Try.prog) w 27 44 a n c 0 0 Try.underlying27
  cases A with
  | none =>
    have hq1 : ∀ w, _ := fun w => hq none 0 c w
    simp only [Option.isNone_none] at hq1
    clear hq
    obtain ⟨A', c', hv, -, h2⟩ := h
    cases hv
    have hnil : l = [] := by
      rcases h2 with h2 | ⟨b, o, h2, -⟩
      · exact h2
      · cases h2
    subst hnil
    go_enter Try.func40, Try.ntmps40
    go_wp2_with fail
    go_returns
    exact ⟨_, rfl, ((Own.none w).nilVec _ _).left⟩
  | some a =>
    have hq1 : ∀ w, _ := fun w => hq (some a) l.length c w
    simp only [Option.isNone_some] at hq1
    clear hq
    obtain ⟨W1, hW1⟩ : ∃ W1, W1 = w.alloc (.cells #[] 44) := ⟨_, rfl⟩
    have hb1 : Below w.heap.size w W1 := by rw [hW1]; exact blA (Below.refl _ _) _
    have hown : Vec W1 44 3 (.slice (some ⟨w.heap.size, 0, none⟩) 0 0) 0 [] := Vec.built [] (by rw [hW1]; exact heap_alloc_new w _) (Nat.le_refl _) (Nat.zero_le _) rfl rfl
    have hsrc : Src Try.prog 3 27 (.slice (some a) l.length c) l.length (cells3 l) W1 := Src.ofSlice W1 Try.underlying27 a l.length c (cells3 l) (ents_len l) (by
      rcases ents_src h hb1 with rfl | ⟨a', ha, hc⟩
      · intro j u hj; cases hj
      · cases ha; exact hc) (ents_one l)
    have HO := Lib.hid hown
    have HS := Lib.hid hsrc
    have HB := Lib.hid hb1
    clear h hown hsrc hb1
    subst hW1
    go_enter Try.func40, Try.ntmps40
    go_wp2_with (at_builtin; refine wpList_append_vec rfl _ _ 27 27 rfl 44 _ 3 40 Try.underlying27 infoEnt (by kernel_rfl) (by decide) (.slice (some ⟨w.heap.size, 0, none⟩) 0 0) 0 [] rfl HO.out _ rfl l.length (cells3 l) HS.out (by unfold maxLen; omega) (by omega) ?_; intro v' w' h1 h2 h3)
    go_returns
    have hS : Own w No (w.alloc (.cells #[] 44)) (Asn.vec 44 3 (.slice (some ⟨w.heap.size, 0, none⟩) 0 0) 0 []) := ⟨⟨VB (.slice (some ⟨w.heap.size, 0, none⟩) 0 0), ⟨HO.out, fun _ => Iff.rfl⟩, fun k hk => Or.inr (by simp only [VB, Value.ownBlock, Option.some.injEq] at hk; omega)⟩, Chg.of_below HB.out⟩
    have hS := hS.addEmp
    have h9 := (vecChg hS h1 h2 h3).left
    rw [Nat.zero_add, List.nil_append] at h9
    exact ⟨v', rfl, h9⟩
theorem seven7 {w : World} {g : Nat} {T : TypeId} {a0 a1 a2 a3 a4 a5 a6 : Value} (h : Blk w g T #[a0, a1, a2, a3, a4, a5, a6]) :
    (w.cell? ⟨g, 0, none⟩ = some a0 ∧ w.cell? ⟨g, 1, none⟩ = some a1 ∧ w.cell? ⟨g, 2, none⟩ = some a2 ∧ w.cell? ⟨g, 3, none⟩ = some a3 ∧ w.cell? ⟨g, 4, none⟩ = some a4 ∧ w.cell? ⟨g, 5, none⟩ = some a5 ∧ w.cell? ⟨g, 6, none⟩ = some a6) ∧
    (w.frozen? ⟨g, 0, none⟩ = false ∧ w.frozen? ⟨g, 1, none⟩ = false ∧ w.frozen? ⟨g, 2, none⟩ = false ∧ w.frozen? ⟨g, 3, none⟩ = false ∧ w.frozen? ⟨g, 4, none⟩ = false ∧ w.frozen? ⟨g, 5, none⟩ = false ∧ w.frozen? ⟨g, 6, none⟩ = false) :=
  ⟨⟨h.cell 0, h.cell 1, h.cell 2, h.cell 3, h.cell 4, h.cell 5, h.cell 6⟩, h.free 0, h.free 1, h.free 2, h.free 3, h.free 4, h.free 5, h.free 6⟩
end Go.Proofs.Ythoaangmekkcmaa.Tr
end

-- joined
section
namespace Go.Proofs.Ythoaangmekkcmaa.Nd
open Go.ChangeShapes Go.WideShapes Go.ChangeAt Go.RowKit Go.PlainAid Aid Cr Nt
set_option linter.unusedVariables false
set_option linter.unusedSimpArgs false
theorem cb_step (a b : ByteArray) (k : Nat) (h1 : k < a.size) (h2 : k < b.size) : Lib.compareBytes (a.data.toList.drop k) (b.data.toList.drop k) = if bt a k < bt b k then -1 else if bt b k < bt a k then 1 else Lib.compareBytes (a.data.toList.drop (k + 1)) (b.data.toList.drop (k + 1)) := by
  have la : k < a.data.toList.length := by rw [← Lib.size_eq]; exact h1
  have lb : k < b.data.toList.length := by rw [← Lib.size_eq]; exact h2
  rw [List.drop_eq_getElem_cons la, List.drop_eq_getElem_cons lb, Lib.compareBytes, bt_list, bt_list, List.getD, List.getD, List.getElem?_eq_getElem la, List.getElem?_eq_getElem lb]
  simp only [UInt8.lt_iff_toNat_lt, Option.getD_some, Int.ofNat_lt]
theorem cb_end (a b : ByteArray) (k : Nat) (h1 : k ≤ a.size) (h2 : k ≤ b.size) (h : k = a.size ∨ k = b.size) : Lib.compareBytes (a.data.toList.drop k) (b.data.toList.drop k) = if a.size < b.size then -1 else if b.size < a.size then 1 else 0 := by
  have la : (a.data.toList.drop k).length = a.size - k := by rw [List.length_drop, ← Lib.size_eq]
  have lb : (b.data.toList.drop k).length = b.size - k := by rw [List.length_drop, ← Lib.size_eq]
  generalize a.data.toList.drop k = x at *
  generalize b.data.toList.drop k = y at *
  cases x with
  | nil =>
    simp only [List.length_nil] at la
    cases y with
    | nil => simp only [List.length_nil] at lb; rw [if_neg (by omega), if_neg (by omega)]; rfl
    | cons c y => simp only [List.length_cons] at lb; rw [if_pos (by omega)]; rfl
  | cons c x =>
    simp only [List.length_cons] at la
    cases y with
    | nil => simp only [List.length_nil] at lb; rw [if_neg (by omega), if_pos (by omega)]; rfl
    | cons d y => simp only [List.length_cons] at lb; omega
set_option maxHeartbeats 1000000 in
theorem Texts_q (a b : ByteArray) (w : World) (ha : a.size ≤ maxLen) (hb : b.size ≤ maxLen) :
    Calls Try.prog 18 #[.string a, .string b] w fun e w' => e = .returned (.int .i64 (Lib.compareBytes a.data.toList b.data.toList)) ∧ ∃ n, w' = w.drewN n := by
  unfold maxLen at ha hb
  have ga := get_bt a
  have gb := get_bt b
  have hR : Lib.compareBytes a.data.toList b.data.toList = Lib.compareBytes (a.data.toList.drop 0) (b.data.toList.drop 0) := rfl
  generalize Lib.compareBytes a.data.toList b.data.toList = R at *
  have HR := Lib.hid hR
  clear hR
  go_enter Try.func18, Try.ntmps18
  go_wp2_with fail
  go_loopw [5] (fun i wr => ∃ k : Nat, k ≤ a.size ∧ k ≤ b.size ∧ i = .int .i64 k ∧ Hid (R = Lib.compareBytes (a.data.toList.drop k) (b.data.toList.drop k)) ∧ Hid (∃ n, wr = w.drewN n)) (fun i _ => a.size - (intOf i).toNat)
  case atStart => exact ⟨0, by omega, by omega, rfl, HR, Lib.hid ⟨0, rfl⟩⟩
  case round =>
    obtain ⟨k, hk1, hk2, rfl, HR2, hN⟩ := hrel
    clear HR
    by_cases h1 : k < a.size
    · by_cases h2 : k < b.size
      · have hs := cb_step a b k h1 h2
        have HS := Lib.hid hs
        have kk : (0 : Int) ≤ (k : Int) := by omega
        have kt : (k : Int).toNat = k := by simp
        clear hs
        by_cases hl : bt a k < bt b k
        · go_wp2_with fail
          go_quiet (fail)
          go_wp2_with fail
          go_returns
          obtain ⟨n, rfl⟩ := hN.out
          exact ⟨ret_int (by rw [HR2.out, HS.out, if_pos hl]), _, World.drewN_drewN _ _ _⟩
        · by_cases hg : bt b k < bt a k
          · go_wp2_with fail
            go_quiet (fail)
            go_wp2_with fail
            go_quiet (fail)
            go_wp2_with fail
            go_returns
            obtain ⟨n, rfl⟩ := hN.out
            exact ⟨ret_int (by rw [HR2.out, HS.out, if_neg (by omega), if_pos (by omega)]), _, by rw [World.drewN_drewN, World.drewN_drewN]⟩
          · go_wp2_with fail
            go_quiet (fail)
            go_wp2_with fail
            go_quiet (fail)
            go_wp2_with fail
            go_roundw
            case rel => exact ⟨k + 1, by omega, by omega, by go_num, Lib.hid (by rw [HR2.out, HS.out, if_neg (by omega), if_neg (by omega)]), by obtain ⟨n, hn⟩ := hN.out; exact Lib.hid ⟨_, by rw [hn]; first | rw [World.drewN_drewN, World.drewN_drewN] | rw [World.drewN_drewN]⟩⟩
            case measure => simp [intOf]; omega
      · have he := cb_end a b k hk1 hk2 (by omega)
        have HE := Lib.hid he
        clear he
        go_wp2_with fail
        all_goals go_returns
        all_goals obtain ⟨n, rfl⟩ := hN.out
        all_goals refine ⟨ret_int ?_, n, rfl⟩
        all_goals rw [HR2.out, HE.out]
        all_goals first | (rw [if_pos (by omega)]; done) | (rw [if_neg (by omega), if_pos (by omega)]; done) | (rw [if_neg (by omega), if_neg (by omega)]; done)
    · have he := cb_end a b k hk1 hk2 (by omega)
      have HE := Lib.hid he
      clear he
      go_wp2_with fail
      all_goals go_returns
      all_goals obtain ⟨n, rfl⟩ := hN.out
      all_goals refine ⟨ret_int ?_, n, rfl⟩
      all_goals rw [HR2.out, HE.out]
      all_goals first | (rw [if_pos (by omega)]; done) | (rw [if_neg (by omega), if_pos (by omega)]; done) | (rw [if_neg (by omega), if_neg (by omega)]; done)
set_option maxRecDepth 100000 in
set_option maxHeartbeats 4000000 in
theorem Find_any (n : Nod) (key : By) (v : Value) (w : World) (hv : NodAt w v n) :
    Calls Try.prog 47 #[v, .string (ofL key)] w fun e w' => e = .returned (.int .i64 (lastLe n.list key n.list.length)) ∧ Below w.heap.size w w' := by
  obtain ⟨p, rfl, hp⟩ := hv
  obtain ⟨A1, m1, rfl⟩ := hp.slice
  have hm1 := hp.len.2
  unfold maxLen at hm1
  have HP := Lib.hid hp
  have S := Lib.hid ((Own.none w).alloc (nodCells n (.slice A1 n.list.length m1)) 52).left
  have HK := Lib.hid (fun (x : Ent) => show Go.Op.bytesLess (ofL x.key).toList (ofL key).toList = lt x.key key from less x.key key)
  have HK2 := Lib.hid (fun (x : Ent) => show ((ofL x.key).toList == (ofL key).toList) = decide (x.key = key) from (str_eq _ _).trans (decide_eq_decide.2 ⟨ofL_inj, fun h => by rw [h]⟩))
  generalize hky : ofL key = ky at *
  clear hp hky
  unfold nodCells at *
  go_enter Try.func47, Try.ntmps47
  go_upto_region 1 with fail
  obtain ⟨g, hgz⟩ : ∃ g, g = w.heap.size := ⟨_, rfl⟩
  rw [← hgz] at S ⊢
  clear hgz
  generalize w.alloc _ = w1 at *
  obtain ⟨-, -, -, -, -, -, c6⟩ := nod_cells (S.out.has (has_blk _ _ _))
  have hw0 : IntKind.i64.wrap ((n.list.length : Int) - 1) = (n.list.length : Int) - 1 := by rw [IntKind.wrap_i64]; omega
  go_wp2_with fail
  go_loop [5] (fun i => ∃ k : Nat, k ≤ n.list.length ∧ i = .int .i64 ((k : Int) - 1) ∧ Hid (lastLe n.list key n.list.length = lastLe n.list key k)) (fun i => (intOf i + 1).toNat)
  case atStart => exact ⟨n.list.length, Nat.le_refl _, by first | rfl | rw [hw0], Lib.hid rfl⟩
  case round =>
    clear hw0
    obtain ⟨k, hk, rfl, hL⟩ := hrel
    cases k with
    | zero =>
      go_wp2_with fail
      go_returns
      exact ⟨ret_int (by rw [hL.out]; rfl), S.out.bel⟩
    | succ j =>
      obtain ⟨x, hx⟩ : ∃ x, n.list[j]? = some x := ⟨n.list[j]'(by omega), List.getElem?_eq_getElem _⟩
      obtain ⟨b, o, rfl, hbl, a0, -, -⟩ := (HP.out.keep S.out.bel).at hx
      have hkx := HK.out x
      have hkx2 := HK2.out x
      have hgt : ∀ W : World, (binOp .gtr 9 (.string (ofL x.key)) (.string ky)).run Try.prog W = .ok (.bool (!le x.key key)) W := fun W => by
        unfold le
        rw [← hkx, ← hkx2]
        first | rfl | (simp [binOp, go_sem]; done)
      have h1 := fun h => lastLe_hit n.list key j x hx h
      have h2 := fun h => lastLe_miss n.list key j x hx h
      have H1 := Lib.hid h1
      have H2 := Lib.hid h2
      have e1 : (((j + 1 : Nat) : Int) - 1) = (j : Int) := by omega
      rw [e1]
      unfold le at hgt H1 H2
      clear h1 h2 hx e1
      generalize ofL x.key = xk at *
      generalize lt x.key key = bl at *
      generalize decide (x.key = key) = be at *
      have hj0 : (0 : Int) ≤ (j : Int) := by omega
      have hj1 : (j : Int) < (n.list.length : Int) := by omega
      cases bl with
      | false =>
        cases be with
        | false =>
          go_wp2_with fail
          go_round
          case rel => exact ⟨j, by omega, by go_num, Lib.hid (by rw [hL.out, H2.out (by first | rfl | trivial)])⟩
          case measure => simp [intOf] <;> omega
        | true =>
          go_wp2_with fail
          go_returns
          exact ⟨ret_int (by rw [hL.out, H1.out (by first | rfl | trivial)]), S.out.bel⟩
      | true =>
        go_wp2_with fail
        go_returns
        exact ⟨ret_int (by rw [hL.out, H1.out (by first | rfl | trivial)]), S.out.bel⟩
end Go.Proofs.Ythoaangmekkcmaa.Nd
end
