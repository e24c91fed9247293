/- Texts of ours, joined. -/
import Derived.Test.YtmnfoafpjmlbfaaGreatDoorOpenB
import Derived.Test.YtmnfoafpjmlbfaaGreatDoorRlB
import Derived.Test.YtmnfoafpjmlbfaaGreatDoorTrA
import Derived.Test.YtmnfoafpjmlbfaaGreatDoorNdB
import Derived.Deep.CutBlock
import Derived.Deep.Draws

-- joined
section
namespace Go.Proofs.YtmnfoafpjmlbfaaGreatDoor.Tr
open Go.ChangeShapes Go.WideShapes Go.ChangeAt Go.RowKit Go.PlainAid Aid Nd Nt
set_option linter.unusedVariables false
set_option linter.unusedSimpArgs false
set_option maxRecDepth 100000 in
set_option maxHeartbeats 4000000 in
theorem great_list (n : Nod) (v : Value) (w : World) (hv : NodAt w v n) :
    Calls Tryz.prog 8 #[v] w fun e w' => (e = .returned (.bool true) ∨ (e = .returned (.bool false) ∧ n.list.length ≤ 40)) ∧ Below w.heap.size w w' := by
  obtain ⟨p, rfl, hp⟩ := hv
  obtain ⟨A1, m1, rfl⟩ := hp.slice
  have hm1 := hp.len.2
  unfold maxLen at hm1
  have HP := Lib.hid hp
  have S := Lib.hid ((Own.none w).alloc (nodCells n (.slice A1 n.list.length m1)) 31).left
  clear hp
  unfold nodCells at *
  generalize ofL n.high = hi at *
  go_enter Tryz.func8, Tryz.ntmps8
  go_upto_region 1 with fail
  obtain ⟨g, hgz⟩ : ∃ g, g = w.heap.size := ⟨_, rfl⟩
  rw [← hgz] at S ⊢
  clear hgz
  generalize w.alloc _ = w1 at *
  obtain ⟨-, -, -, -, c4, -, c6⟩ := nod_cells (S.out.has (has_blk _ _ _))
  by_cases h1 : 40 < n.list.length
  · go_wp2_with fail
    go_returns
    exact ⟨Or.inl rfl, S.out.bel⟩
  by_cases h2 : 100 < hi.size
  · go_wp2_with fail
    go_returns
    exact ⟨Or.inl rfl, S.out.bel⟩
  have H1 := Lib.hid h1
  go_wp2_with fail
  go_loop [3] (fun i => ∃ k : Nat, k ≤ n.list.length ∧ i = .int .i64 k) (fun i => n.list.length - (intOf i).toNat)
  case atStart => exact ⟨0, Nat.zero_le _, rfl⟩
  case round =>
    obtain ⟨k, hk, rfl⟩ := hrel
    by_cases hlt : k < n.list.length
    · obtain ⟨x, hx⟩ : ∃ x, n.list[k]? = some x := ⟨n.list[k]'(by omega), List.getElem?_eq_getElem _⟩
      obtain ⟨b, ob, rfl, hbl, e0, e1, -⟩ := (HP.out.keep S.out.bel).at hx
      generalize ofL x.key = y at *
      generalize ofL x.val = z at *
      clear hx
      by_cases h6 : 100 < y.size
      · go_wp2_with fail
        go_returns
        exact ⟨Or.inl rfl, S.out.bel⟩
      by_cases h7 : 200 < z.size
      · go_wp2_with fail
        go_returns
        exact ⟨Or.inl rfl, S.out.bel⟩
      · go_wp2_with fail
        go_round
        case rel => exact ⟨k + 1, by omega, by go_num⟩
        case measure => simp [intOf]; omega
    · obtain rfl : k = n.list.length := by omega
      go_wp2_with fail
      go_returns
      exact ⟨Or.inr ⟨rfl, by have := H1.out; omega⟩, S.out.bel⟩
/-- A deed: its kind, its page, its node. -/
structure Dn where
  kind : Int
  page : Int
  nd : Nod
def dnCells (x : Dn) (p : Value) : Array Value := #[.int .i64 x.kind, .int .i64 x.page, .int .i64 x.nd.tree, .int .i64 x.nd.level, .int .i64 x.nd.stamp, .bool x.nd.has, .string (ofL x.nd.high), .int .i64 x.nd.right, p]
/-- A row of deeds that came in. -/
def DnRow (w : World) (A : Option Addr) (m : Nat) (L : List Dn) : Prop :=
  L.length = m ∧ ∀ (k : Nat) (x : Dn), L[k]? = some x → I64 x.page ∧ ∃ b o p, A = some ⟨b, o, none⟩ ∧ b < w.heap.size ∧ (∀ j v, (dnCells x p)[j]? = some v → w.cell? ⟨b, o + k * 9 + j, none⟩ = some v) ∧ Row3 w p x.nd.list
theorem DnRow.at {w : World} {A : Option Addr} {m : Nat} {L : List Dn} (h : DnRow w A m L) (k : Nat) (hk : k < m) :
    ∃ x b o A1 m1, L[k]? = some x ∧ I64 x.page ∧ A = some ⟨b, o, none⟩ ∧ (∀ w', Below w.heap.size w w' →
      (w'.cell? ⟨b, o + k * 9, none⟩ = some (.int .i64 x.kind) ∧ w'.cell? ⟨b, o + k * 9 + 1, none⟩ = some (.int .i64 x.page) ∧ w'.cell? ⟨b, o + k * 9 + 2, none⟩ = some (.int .i64 x.nd.tree) ∧ w'.cell? ⟨b, o + k * 9 + 3, none⟩ = some (.int .i64 x.nd.level) ∧ w'.cell? ⟨b, o + k * 9 + 4, none⟩ = some (.int .i64 x.nd.stamp) ∧ w'.cell? ⟨b, o + k * 9 + 5, none⟩ = some (.bool x.nd.has) ∧ w'.cell? ⟨b, o + k * 9 + 6, none⟩ = some (.string (ofL x.nd.high)) ∧ w'.cell? ⟨b, o + k * 9 + 7, none⟩ = some (.int .i64 x.nd.right) ∧ w'.cell? ⟨b, o + k * 9 + 8, none⟩ = some (.slice A1 x.nd.list.length m1))) ∧
      Row3 w (.slice A1 x.nd.list.length m1) x.nd.list := by
  obtain ⟨hl, h⟩ := h
  have hr : L[k]? = some (L[k]'(by omega)) := List.getElem?_eq_getElem _
  obtain ⟨hi, b, o, p, hA, hlt, hc, h1⟩ := h k _ hr
  obtain ⟨A1, m1, rfl⟩ := h1.slice
  refine ⟨_, b, o, A1, m1, hr, hi, hA, fun w' hb => ?_, h1⟩
  have hc' : ∀ j v, (dnCells (L[k]'(by omega)) (.slice A1 (L[k]'(by omega)).nd.list.length m1))[j]? = some v → w'.cell? ⟨b, o + k * 9 + j, none⟩ = some v := fun j v hv => by rw [(bcell hb).1 _ _ hlt]; exact hc j v hv
  exact ⟨hc' 0 _ rfl, hc' 1 _ rfl, hc' 2 _ rfl, hc' 3 _ rfl, hc' 4 _ rfl, hc' 5 _ rfl, hc' 6 _ rfl, hc' 7 _ rfl, hc' 8 _ rfl⟩
end Go.Proofs.YtmnfoafpjmlbfaaGreatDoor.Tr
namespace Go.Proofs.YtmnfoafpjmlbfaaGreatDoor.Law
open Go.ChangeShapes Go.WideShapes Go.ChangeAt Go.RowKit Go.Deep Aid Nd Nt Tr
variable {H : Type} {enc : TypeId × Value → H} {w : World} {r : Reach} {b0 base : Nat} {spare : Nat → Bool} {held : Bool} {v : Value} {d : DataW H} {p : List MemPlace}
theorem len9 {α : Type} {l : List α} (h : l.length = 9) : ∃ a0 a1 a2 a3 a4 a5 a6 a7 a8, l = [a0, a1, a2, a3, a4, a5, a6, a7, a8] := by
  match l, h with
  | [a0, a1, a2, a3, a4, a5, a6, a7, a8], _ => exact ⟨_, _, _, _, _, _, _, _, _, rfl⟩
set_option maxRecDepth 100000 in
theorem open_nod_cells {fuel : Nat} {a0 a1 a2 a3 a4 a5 a6 : Value} {x : DataW H × List MemPlace} (h : DataW.trod enc Tryz.prog w base spare held fuel 31 [a0, a1, a2, a3, a4, a5, a6] = some x) : ∃ n p, [a0, a1, a2, a3, a4, a5, a6] = (nodCells n p).toList ∧ Row3 w p n.list := by
  obtain ⟨xs, n, -, -, -, hlen, hfl⟩ := DataW.trod_struct Tryz.underlying31 h
  obtain ⟨x0, t0⟩ := fld hlen hfl 0 3 0 1 (by kernel_rfl) (by kernel_rfl)
  obtain ⟨x1, t1⟩ := fld hlen hfl 1 3 1 1 (by kernel_rfl) (by kernel_rfl)
  obtain ⟨x2, t2⟩ := fld hlen hfl 2 3 2 1 (by kernel_rfl) (by kernel_rfl)
  obtain ⟨x3, t3⟩ := fld hlen hfl 3 4 3 1 (by kernel_rfl) (by kernel_rfl)
  obtain ⟨x4, t4⟩ := fld hlen hfl 4 9 4 1 (by kernel_rfl) (by kernel_rfl)
  obtain ⟨x5, t5⟩ := fld hlen hfl 5 3 5 1 (by kernel_rfl) (by kernel_rfl)
  obtain ⟨x6, t6⟩ := fld hlen hfl 6 29 6 1 (by kernel_rfl) (by kernel_rfl)
  simp only [List.drop_succ_cons, List.drop_zero, List.take_succ_cons, List.take_zero] at t0 t1 t2 t3 t4 t5 t6
  obtain ⟨n0, e0, -, -⟩ := DataW.trod_int Tryz.underlying3 t0
  obtain ⟨n1, e1, -, -⟩ := DataW.trod_int Tryz.underlying3 t1
  obtain ⟨n2, e2, -, -⟩ := DataW.trod_int Tryz.underlying3 t2
  obtain ⟨b3, e3, -⟩ := DataW.trod_bool Tryz.underlying4 t3
  obtain ⟨s4, e4, -, -⟩ := DataW.trod_string Tryz.underlying9 t4
  obtain ⟨n5, e5, -, -⟩ := DataW.trod_int Tryz.underlying3 t5
  simp only [List.cons.injEq, and_true] at e0 e1 e2 e3 e4 e5
  subst e0 e1 e2 e3 e4 e5
  obtain ⟨l6, h6⟩ := open_row3 t6
  obtain ⟨l4, rfl⟩ := bytes_of s4
  exact ⟨⟨n0, n1, n2, b3, l4, n5, l6⟩, a6, rfl, h6⟩
set_option maxRecDepth 100000 in
theorem open_dn_row (hv : Value.okWide Tryz.prog w r b0 22 v) (h : DataW.Trod enc Tryz.prog w base spare held 22 v d p) :
    ∃ (A : Option Addr) (m c : Nat) (L : List Dn), v = .slice A m c ∧ m ≤ maxLen ∧ DnRow w A m L := by
  have ht : Tryz.prog.underlying 22 = some (.slice 33) := Tryz.underlying22
  have hC : Tryz.prog.cellsOf 33 = 9 := by kernel_rfl
  obtain ⟨a0, len, cap, rfl⟩ := okWide_slice ht hv
  obtain ⟨fuel, hf⟩ := h
  rcases open_slice ht hf with ⟨hcs, -⟩ | ⟨a, len', cap', m, n, D, Pl, hcs, -, hl, hm, hmm, -, hi⟩
  · have e : (Value.slice a0 len cap) = .slice none 0 0 := by simpa [Value.cells] using hcs
    cases e
    exact ⟨none, 0, 0, [], rfl, by decide, rfl, fun k r hk => by cases hk⟩
  · have e : (Value.slice a0 len cap) = .slice (some a) len' cap' := by simpa [Value.cells] using hcs
    cases e
    rw [hC] at hi
    have hlm : len ≤ m := by rw [hmm]; split <;> omega
    obtain ⟨L, hll, hq⟩ := list_of (fun i (x : Dn) => I64 x.page ∧ ∃ p, (∀ j v, (dnCells x p)[j]? = some v → w.cell? (a.add (i * 9 + j)) = some v) ∧ Row3 w p x.nd.list) len (fun i hi' => by
      obtain ⟨cs', hc, ht'⟩ := hi i (by omega)
      obtain ⟨_, hcl, hat⟩ := World.cells?_some hc
      obtain ⟨xs, n', -, -, -, hlen, hfl⟩ := DataW.trod_struct Tryz.underlying33 ht'
      obtain ⟨x0, t0⟩ := fld hlen hfl 0 3 0 1 (by kernel_rfl) (by kernel_rfl)
      obtain ⟨x1, t1⟩ := fld hlen hfl 1 3 1 1 (by kernel_rfl) (by kernel_rfl)
      obtain ⟨x2, t2⟩ := fld hlen hfl 2 31 2 7 (by kernel_rfl) (by kernel_rfl)
      obtain ⟨a0, a1, a2, a3, a4, a5, a6, a7, a8, hl9⟩ := len9 hcl
      subst hl9
      simp only [List.drop_succ_cons, List.drop_zero, List.take_succ_cons, List.take_zero] at t0 t1 t2
      obtain ⟨x, p, hx, h1⟩ := open_nod_cells t2
      obtain ⟨n0, e0, -, -⟩ := DataW.trod_int Tryz.underlying3 t0
      obtain ⟨n1, e1, -, hw1⟩ := DataW.trod_int Tryz.underlying3 t1
      simp only [List.cons.injEq, and_true] at e0 e1
      subst e0 e1
      have hall : ∀ (j : Nat) (v : Value), (dnCells ⟨n0, n1, x⟩ p)[j]? = some v → [Value.int .i64 n0, .int .i64 n1, a2, a3, a4, a5, a6, a7, a8][j]? = some v := by
        intro j v hj
        rw [show [Value.int .i64 n0, .int .i64 n1, a2, a3, a4, a5, a6, a7, a8] = .int .i64 n0 :: .int .i64 n1 :: [a2, a3, a4, a5, a6, a7, a8] from rfl, hx]
        rw [← Array.getElem?_toList] at hj
        exact hj
      refine ⟨⟨n0, n1, x⟩, bounds_i64 hw1, p, fun j v hj => ?_, h1⟩
      have hj9 : j < 9 := (Array.getElem?_eq_some_iff.1 hj).1
      have h4 := hat j hj9
      rw [← Go.Deep.add_add, h4]
      exact hall j v hj)
    refine ⟨some a, len, cap, L, rfl, by omega, hll, fun k r hk => ?_⟩
    obtain ⟨hi64, p, hc, h1⟩ := hq k r hk
    have hk0 : k < L.length := (List.getElem?_eq_some_iff.1 hk).1
    obtain ⟨-, _, hc0, -⟩ := hq 0 _ (List.getElem?_eq_getElem (show 0 < L.length by omega))
    have c0 := hc0 0 _ rfl
    obtain ⟨b, o, spot⟩ := a
    obtain rfl : spot = none := by simpa [Addr.add] using World.cell?_spot c0
    have ha : ∀ i, (⟨b, o, none⟩ : Addr).add i = ⟨b, o + i, none⟩ := fun i => Go.WideShapes.add_plain b o i
    refine ⟨hi64, b, o, p, rfl, by rw [ha] at c0; exact cell_lt c0, fun j v hj => ?_, h1⟩
    have := hc j v hj
    rw [ha] at this
    rw [Nat.add_assoc]
    exact this
end Go.Proofs.YtmnfoafpjmlbfaaGreatDoor.Law
end

-- joined
section
namespace Go.Proofs.YtmnfoafpjmlbfaaGreatDoor.Nd
open Go.ChangeShapes Go.WideShapes Go.ChangeAt Go.RowKit Go.PlainAid Aid Cr Nt
set_option linter.unusedVariables false
set_option linter.unusedSimpArgs false
theorem cb_step (a b : ByteArray) (k : Nat) (h1 : k < a.size) (h2 : k < b.size) : Lib.compareBytes (a.data.toList.drop k) (b.data.toList.drop k) = if bt a k < bt b k then -1 else if bt b k < bt a k then 1 else Lib.compareBytes (a.data.toList.drop (k + 1)) (b.data.toList.drop (k + 1)) := by
  have la : k < a.data.toList.length := by rw [← Lib.size_eq]; exact h1
  have lb : k < b.data.toList.length := by rw [← Lib.size_eq]; exact h2
  rw [List.drop_eq_getElem_cons la, List.drop_eq_getElem_cons lb, Lib.compareBytes, bt_list, bt_list, List.getD, List.getD, List.getElem?_eq_getElem la, List.getElem?_eq_getElem lb]
  simp only [UInt8.lt_iff_toNat_lt, Option.getD_some, Int.ofNat_lt]
theorem cb_end (a b : ByteArray) (k : Nat) (h1 : k ≤ a.size) (h2 : k ≤ b.size) (h : k = a.size ∨ k = b.size) : Lib.compareBytes (a.data.toList.drop k) (b.data.toList.drop k) = if a.size < b.size then -1 else if b.size < a.size then 1 else 0 := by
  have la : (a.data.toList.drop k).length = a.size - k := by rw [List.length_drop, ← Lib.size_eq]
  have lb : (b.data.toList.drop k).length = b.size - k := by rw [List.length_drop, ← Lib.size_eq]
  generalize a.data.toList.drop k = x at *
  generalize b.data.toList.drop k = y at *
  cases x with
  | nil =>
    simp only [List.length_nil] at la
    cases y with
    | nil => simp only [List.length_nil] at lb; rw [if_neg (by omega), if_neg (by omega)]; rfl
    | cons c y => simp only [List.length_cons] at lb; rw [if_pos (by omega)]; rfl
  | cons c x =>
    simp only [List.length_cons] at la
    cases y with
    | nil => simp only [List.length_nil] at lb; rw [if_neg (by omega), if_pos (by omega)]; rfl
    | cons d y => simp only [List.length_cons] at lb; omega
theorem cmp_swap (a b : By) : Lib.compareBytes a b = - Lib.compareBytes b a := by
  induction a generalizing b with
  | nil => cases b <;> rfl
  | cons x a ih =>
    cases b with
    | nil => rfl
    | cons y b =>
      rw [Lib.compareBytes, Lib.compareBytes]
      by_cases h1 : x < y
      · have h2 : ¬ y < x := by rw [UInt8.lt_iff_toNat_lt] at *; omega
        simp [h1, h2]
      · by_cases h2 : y < x
        · simp [h1, h2]
        · simp [h1, h2, ih b]
set_option maxHeartbeats 1000000 in
theorem Texts_q (a b : ByteArray) (w : World) (ha : a.size ≤ maxLen) (hb : b.size ≤ maxLen) :
    Calls Tryz.prog 43 #[.string a, .string b] w fun e w' => e = .returned (.int .i64 (Lib.compareBytes a.data.toList b.data.toList)) ∧ ∃ n, w' = w.drewN n := by
  unfold maxLen at ha hb
  have ga := get_bt a
  have gb := get_bt b
  have hR : Lib.compareBytes a.data.toList b.data.toList = Lib.compareBytes (a.data.toList.drop 0) (b.data.toList.drop 0) := rfl
  generalize Lib.compareBytes a.data.toList b.data.toList = R at *
  have HR := Lib.hid hR
  clear hR
  go_enter Tryz.func43, Tryz.ntmps43
  go_wp2_with fail
  go_loopw [5] (fun i wr => ∃ k : Nat, k ≤ a.size ∧ k ≤ b.size ∧ i = .int .i64 k ∧ Hid (R = Lib.compareBytes (a.data.toList.drop k) (b.data.toList.drop k)) ∧ Hid (∃ n, wr = w.drewN n)) (fun i _ => a.size - (intOf i).toNat)
  case atStart => exact ⟨0, by omega, by omega, rfl, HR, Lib.hid ⟨0, rfl⟩⟩
  case round =>
    obtain ⟨k, hk1, hk2, rfl, HR2, hN⟩ := hrel
    clear HR
    by_cases h1 : k < a.size
    · by_cases h2 : k < b.size
      · have hs := cb_step a b k h1 h2
        have HS := Lib.hid hs
        have kk : (0 : Int) ≤ (k : Int) := by omega
        have kt : (k : Int).toNat = k := by simp
        clear hs
        by_cases hl : bt a k < bt b k
        · go_wp2_with fail
          go_quiet (fail)
          go_wp2_with fail
          go_returns
          obtain ⟨n, rfl⟩ := hN.out
          exact ⟨ret_int (by rw [HR2.out, HS.out, if_pos hl]), _, World.drewN_drewN _ _ _⟩
        · by_cases hg : bt b k < bt a k
          · go_wp2_with fail
            go_quiet (fail)
            go_wp2_with fail
            go_quiet (fail)
            go_wp2_with fail
            go_returns
            obtain ⟨n, rfl⟩ := hN.out
            exact ⟨ret_int (by rw [HR2.out, HS.out, if_neg (by omega), if_pos (by omega)]), _, by rw [World.drewN_drewN, World.drewN_drewN]⟩
          · go_wp2_with fail
            go_quiet (fail)
            go_wp2_with fail
            go_quiet (fail)
            go_wp2_with fail
            go_roundw
            case rel => exact ⟨k + 1, by omega, by omega, by go_num, Lib.hid (by rw [HR2.out, HS.out, if_neg (by omega), if_neg (by omega)]), by obtain ⟨n, hn⟩ := hN.out; exact Lib.hid ⟨_, by rw [hn]; first | rw [World.drewN_drewN, World.drewN_drewN] | rw [World.drewN_drewN]⟩⟩
            case measure => simp [intOf]; omega
      · have he := cb_end a b k hk1 hk2 (by omega)
        have HE := Lib.hid he
        clear he
        go_wp2_with fail
        all_goals go_returns
        all_goals obtain ⟨n, rfl⟩ := hN.out
        all_goals refine ⟨ret_int ?_, n, rfl⟩
        all_goals rw [HR2.out, HE.out]
        all_goals first | (rw [if_pos (by omega)]; done) | (rw [if_neg (by omega), if_pos (by omega)]; done) | (rw [if_neg (by omega), if_neg (by omega)]; done)
    · have he := cb_end a b k hk1 hk2 (by omega)
      have HE := Lib.hid he
      clear he
      go_wp2_with fail
      all_goals go_returns
      all_goals obtain ⟨n, rfl⟩ := hN.out
      all_goals refine ⟨ret_int ?_, n, rfl⟩
      all_goals rw [HR2.out, HE.out]
      all_goals first | (rw [if_pos (by omega)]; done) | (rw [if_neg (by omega), if_pos (by omega)]; done) | (rw [if_neg (by omega), if_neg (by omega)]; done)
end Go.Proofs.YtmnfoafpjmlbfaaGreatDoor.Nd
end
