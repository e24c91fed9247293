/- Which text stands ahead, the document's; the place of a key. -/
import Derived.Test.YtmibcodobicmnaaDoorNdB
import Derived.Deep.CutBlock
import Derived.Deep.Draws
namespace Go.Proofs.YtmibcodobicmnaaDoor.Nd
open Go.ChangeShapes Go.WideShapes Go.ChangeAt Go.RowKit Go.PlainAid Aid Cr Nt
set_option linter.unusedVariables false
set_option linter.unusedSimpArgs false
theorem cb_step (a b : ByteArray) (k : Nat) (h1 : k < a.size) (h2 : k < b.size) : Lib.compareBytes (a.data.toList.drop k) (b.data.toList.drop k) = if bt a k < bt b k then -1 else if bt b k < bt a k then 1 else Lib.compareBytes (a.data.toList.drop (k + 1)) (b.data.toList.drop (k + 1)) := by
  have la : k < a.data.toList.length := by rw [← Lib.size_eq]; exact h1
  have lb : k < b.data.toList.length := by rw [← Lib.size_eq]; exact h2
  rw [List.drop_eq_getElem_cons la, List.drop_eq_getElem_cons lb, Lib.compareBytes, bt_list, bt_list, List.getD, List.getD, List.getElem?_eq_getElem la, List.getElem?_eq_getElem lb]
  simp only [UInt8.lt_iff_toNat_lt, Option.getD_some, Int.ofNat_lt]
theorem cb_end (a b : ByteArray) (k : Nat) (h1 : k ≤ a.size) (h2 : k ≤ b.size) (h : k = a.size ∨ k = b.size) : Lib.compareBytes (a.data.toList.drop k) (b.data.toList.drop k) = if a.size < b.size then -1 else if b.size < a.size then 1 else 0 := by
  have la : (a.data.toList.drop k).length = a.size - k := by rw [List.length_drop, ← Lib.size_eq]
  have lb : (b.data.toList.drop k).length = b.size - k := by rw [List.length_drop, ← Lib.size_eq]
  generalize a.data.toList.drop k = x at *
  generalize b.data.toList.drop k = y at *
  cases x with
  | nil =>
    simp only [List.length_nil] at la
    cases y with
    | nil => simp only [List.length_nil] at lb; rw [if_neg (by omega), if_neg (by omega)]; rfl
    | cons c y => simp only [List.length_cons] at lb; rw [if_pos (by omega)]; rfl
  | cons c x =>
    simp only [List.length_cons] at la
    cases y with
    | nil => simp only [List.length_nil] at lb; rw [if_neg (by omega), if_pos (by omega)]; rfl
    | cons d y => simp only [List.length_cons] at lb; omega
theorem cmp_swap (a b : By) : Lib.compareBytes a b = - Lib.compareBytes b a := by
  induction a generalizing b with
  | nil => cases b <;> rfl
  | cons x a ih =>
    cases b with
    | nil => rfl
    | cons y b =>
      rw [Lib.compareBytes, Lib.compareBytes]
      by_cases h1 : x < y
      · have h2 : ¬ y < x := by rw [UInt8.lt_iff_toNat_lt] at *; omega
        simp [h1, h2]
      · by_cases h2 : y < x
        · simp [h1, h2]
        · simp [h1, h2, ih b]
set_option maxHeartbeats 1000000 in
theorem Texts_q (a b : ByteArray) (w : World) (ha : a.size ≤ maxLen) (hb : b.size ≤ maxLen) :
    Calls Tryd.prog 42 #[.string a, .string b] w fun e w' => e = .returned (.int .i64 (Lib.compareBytes a.data.toList b.data.toList)) ∧ ∃ n, w' = w.drewN n := by
  unfold maxLen at ha hb
  have ga := get_bt a
  have gb := get_bt b
  have hR : Lib.compareBytes a.data.toList b.data.toList = Lib.compareBytes (a.data.toList.drop 0) (b.data.toList.drop 0) := rfl
  generalize Lib.compareBytes a.data.toList b.data.toList = R at *
  have HR := Lib.hid hR
  clear hR
  go_enter Tryd.func42, Tryd.ntmps42
  go_wp2_with fail
  go_loopw [5] (fun i wr => ∃ k : Nat, k ≤ a.size ∧ k ≤ b.size ∧ i = .int .i64 k ∧ Hid (R = Lib.compareBytes (a.data.toList.drop k) (b.data.toList.drop k)) ∧ Hid (∃ n, wr = w.drewN n)) (fun i _ => a.size - (intOf i).toNat)
  case atStart => exact ⟨0, by omega, by omega, rfl, HR, Lib.hid ⟨0, rfl⟩⟩
  case round =>
    obtain ⟨k, hk1, hk2, rfl, HR2, hN⟩ := hrel
    clear HR
    by_cases h1 : k < a.size
    · by_cases h2 : k < b.size
      · have hs := cb_step a b k h1 h2
        have HS := Lib.hid hs
        have kk : (0 : Int) ≤ (k : Int) := by omega
        have kt : (k : Int).toNat = k := by simp
        clear hs
        by_cases hl : bt a k < bt b k
        · go_wp2_with fail
          go_quiet (fail)
          go_wp2_with fail
          go_returns
          obtain ⟨n, rfl⟩ := hN.out
          exact ⟨ret_int (by rw [HR2.out, HS.out, if_pos hl]), _, World.drewN_drewN _ _ _⟩
        · by_cases hg : bt b k < bt a k
          · go_wp2_with fail
            go_quiet (fail)
            go_wp2_with fail
            go_quiet (fail)
            go_wp2_with fail
            go_returns
            obtain ⟨n, rfl⟩ := hN.out
            exact ⟨ret_int (by rw [HR2.out, HS.out, if_neg (by omega), if_pos (by omega)]), _, by rw [World.drewN_drewN, World.drewN_drewN]⟩
          · go_wp2_with fail
            go_quiet (fail)
            go_wp2_with fail
            go_quiet (fail)
            go_wp2_with fail
            go_roundw
            case rel => exact ⟨k + 1, by omega, by omega, by go_num, Lib.hid (by rw [HR2.out, HS.out, if_neg (by omega), if_neg (by omega)]), by obtain ⟨n, hn⟩ := hN.out; exact Lib.hid ⟨_, by rw [hn]; first | rw [World.drewN_drewN, World.drewN_drewN] | rw [World.drewN_drewN]⟩⟩
            case measure => simp [intOf]; omega
      · have he := cb_end a b k hk1 hk2 (by omega)
        have HE := Lib.hid he
        clear he
        go_wp2_with fail
        all_goals go_returns
        all_goals obtain ⟨n, rfl⟩ := hN.out
        all_goals refine ⟨ret_int ?_, n, rfl⟩
        all_goals rw [HR2.out, HE.out]
        all_goals first | (rw [if_pos (by omega)]; done) | (rw [if_neg (by omega), if_pos (by omega)]; done) | (rw [if_neg (by omega), if_neg (by omega)]; done)
    · have he := cb_end a b k hk1 hk2 (by omega)
      have HE := Lib.hid he
      clear he
      go_wp2_with fail
      all_goals go_returns
      all_goals obtain ⟨n, rfl⟩ := hN.out
      all_goals refine ⟨ret_int ?_, n, rfl⟩
      all_goals rw [HR2.out, HE.out]
      all_goals first | (rw [if_pos (by omega)]; done) | (rw [if_neg (by omega), if_pos (by omega)]; done) | (rw [if_neg (by omega), if_neg (by omega)]; done)
set_option maxRecDepth 100000 in
set_option maxHeartbeats 4000000 in
theorem Find_any (n : Nod) (key : By) (v : Value) (w : World) (hv : NodAt w v n) :
    Calls Tryd.prog 43 #[v, .string (ofL key)] w fun e w' => e = .returned (.int .i64 (lastLe n.list key n.list.length)) ∧ Below w.heap.size w w' := by
  obtain ⟨p, rfl, hp⟩ := hv
  obtain ⟨A1, m1, rfl⟩ := hp.slice
  have hm1 := hp.len.2
  unfold maxLen at hm1
  have HP := Lib.hid hp
  have S := Lib.hid ((Own.none w).alloc (nodCells n (.slice A1 n.list.length m1)) 64).left
  have HK := Lib.hid (fun (x : Ent) => show Go.Op.bytesLess (ofL x.key).toList (ofL key).toList = lt x.key key from less x.key key)
  have HK2 := Lib.hid (fun (x : Ent) => show ((ofL x.key).toList == (ofL key).toList) = decide (x.key = key) from (str_eq _ _).trans (decide_eq_decide.2 ⟨ofL_inj, fun h => by rw [h]⟩))
  generalize hky : ofL key = ky at *
  clear hp hky
  unfold nodCells at *
  go_enter Tryd.func43, Tryd.ntmps43
  go_upto_region 1 with fail
  obtain ⟨g, hgz⟩ : ∃ g, g = w.heap.size := ⟨_, rfl⟩
  rw [← hgz] at S ⊢
  clear hgz
  generalize w.alloc _ = w1 at *
  obtain ⟨-, -, -, -, -, -, c6⟩ := nod_cells (S.out.has (has_blk _ _ _))
  have hw0 : IntKind.i64.wrap ((n.list.length : Int) - 1) = (n.list.length : Int) - 1 := by rw [IntKind.wrap_i64]; omega
  go_wp2_with fail
  go_loop [5] (fun i => ∃ k : Nat, k ≤ n.list.length ∧ i = .int .i64 ((k : Int) - 1) ∧ Hid (lastLe n.list key n.list.length = lastLe n.list key k)) (fun i => (intOf i + 1).toNat)
  case atStart => exact ⟨n.list.length, Nat.le_refl _, by first | rfl | rw [hw0], Lib.hid rfl⟩
  case round =>
    clear hw0
    obtain ⟨k, hk, rfl, hL⟩ := hrel
    cases k with
    | zero =>
      go_wp2_with fail
      go_returns
      exact ⟨ret_int (by rw [hL.out]; rfl), S.out.bel⟩
    | succ j =>
      obtain ⟨x, hx⟩ : ∃ x, n.list[j]? = some x := ⟨n.list[j]'(by omega), List.getElem?_eq_getElem _⟩
      obtain ⟨b, o, rfl, hbl, a0, -, -⟩ := (HP.out.keep S.out.bel).at hx
      have hkx := HK.out x
      have hkx2 := HK2.out x
      have hgt : ∀ W : World, (binOp .gtr 9 (.string (ofL x.key)) (.string ky)).run Tryd.prog W = .ok (.bool (!le x.key key)) W := fun W => by
        unfold le
        rw [← hkx, ← hkx2]
        first | rfl | (simp [binOp, go_sem]; done)
      have h1 := fun h => lastLe_hit n.list key j x hx h
      have h2 := fun h => lastLe_miss n.list key j x hx h
      have H1 := Lib.hid h1
      have H2 := Lib.hid h2
      have e1 : (((j + 1 : Nat) : Int) - 1) = (j : Int) := by omega
      rw [e1]
      clear h1 h2 hx e1 hkx hkx2
      generalize ofL x.key = xk at *
      generalize le x.key key = q at *
      have hj0 : (0 : Int) ≤ (j : Int) := by omega
      have hj1 : (j : Int) < (n.list.length : Int) := by omega
      cases q with
      | false =>
        go_wp2_with fail
        go_round
        case rel => exact ⟨j, by omega, by go_num, Lib.hid (by rw [hL.out, H2.out (by first | rfl | trivial)])⟩
        case measure => simp [intOf] <;> omega
      | true =>
        go_wp2_with fail
        go_returns
        exact ⟨ret_int (by rw [hL.out, H1.out (by first | rfl | trivial)]), S.out.bel⟩
end Go.Proofs.YtmibcodobicmnaaDoor.Nd
