/- Texts of ours, joined. -/
import Derived.Test.YtmnfoafpjmlbfaaGreatDoorNdP
import Derived.Test.YtmnfoafpjmlbfaaGreatDoorSep
import Derived.Test.YtmnfoafpjmlbfaaGreatDoorShelf
import Derived.Test.YtmnfoafpjmlbfaaGreatDoorRow

-- joined
section
namespace Go.Proofs.YtmnfoafpjmlbfaaGreatDoor.Nd
open Go.ChangeShapes Go.WideShapes Go.ChangeAt Go.RowKit Go.PlainAid Aid Cr Nt
set_option linter.unusedVariables false
set_option linter.unusedSimpArgs false
theorem ofL_sz (l : By) : (ofL l).size = l.length := rfl
theorem ofL_toList (l : By) : (ofL l).toList = l := by rw [ByteArray.toList_eq]; rfl
theorem less (a b : By) : Go.Op.bytesLess (ofL a).toList (ofL b).toList = lt a b := by rw [ofL_toList, ofL_toList]; rfl

/-- A row of entries. -/
def Row3 (w : World) (v : Value) (l : List Ent) : Prop :=
  ∃ A c, v = .slice A l.length c ∧ l.length ≤ maxLen ∧ (l = [] ∨ ∃ b o, A = some ⟨b, o, none⟩ ∧ b < w.heap.size ∧ ∀ (k : Nat) (x : Ent), l[k]? = some x →
    w.cell? ⟨b, o + k * 3, none⟩ = some (.string (ofL x.key)) ∧ w.cell? ⟨b, o + k * 3 + 1, none⟩ = some (.string (ofL x.val)) ∧ w.cell? ⟨b, o + k * 3 + 2, none⟩ = some (.bool x.ghost))
theorem Row3.keep {w w' : World} {v : Value} {l : List Ent} (h : Row3 w v l) (hb : Below w.heap.size w w') : Row3 w' v l := by
  obtain ⟨A, c, hv, hm, h⟩ := h
  refine ⟨A, c, hv, hm, h.imp_right fun ⟨b, o, hA, hl, hc⟩ => ⟨b, o, hA, by have := hb.size; omega, fun k x hx => ?_⟩⟩
  rw [(bcell hb).1 _ _ hl, (bcell hb).1 _ _ hl, (bcell hb).1 _ _ hl]
  exact hc k x hx
theorem Row3.nil (w : World) : Row3 w (.slice none 0 0) [] := ⟨none, 0, rfl, Nat.zero_le _, Or.inl rfl⟩
theorem Row3.at {w : World} {A : Option Addr} {m c : Nat} {l : List Ent} (h : Row3 w (.slice A m c) l) {k : Nat} {x : Ent} (hx : l[k]? = some x) :
    ∃ b o, A = some ⟨b, o, none⟩ ∧ b < w.heap.size ∧ w.cell? ⟨b, o + k * 3, none⟩ = some (.string (ofL x.key)) ∧ w.cell? ⟨b, o + k * 3 + 1, none⟩ = some (.string (ofL x.val)) ∧ w.cell? ⟨b, o + k * 3 + 2, none⟩ = some (.bool x.ghost) := by
  obtain ⟨A', c', hv, hm, h⟩ := h
  cases hv
  rcases h with rfl | ⟨b, o, rfl, hl, hc⟩
  · cases hx
  · exact ⟨b, o, rfl, hl, hc k x hx⟩
theorem Row3.at' {w : World} {b o m c : Nat} {l : List Ent} (h : Row3 w (.slice (some ⟨b, o, none⟩) m c) l) {k : Nat} {x : Ent} (hx : l[k]? = some x) :
    w.cell? ⟨b, o + k * 3, none⟩ = some (.string (ofL x.key)) ∧ w.cell? ⟨b, o + k * 3 + 1, none⟩ = some (.string (ofL x.val)) ∧ w.cell? ⟨b, o + k * 3 + 2, none⟩ = some (.bool x.ghost) := by
  obtain ⟨b', o', h1, -, h2⟩ := h.at hx
  cases h1
  exact h2
theorem Row3.len {w : World} {A : Option Addr} {m c : Nat} {l : List Ent} (h : Row3 w (.slice A m c) l) : m = l.length ∧ m ≤ maxLen := by
  obtain ⟨A', c', hv, hm, h⟩ := h
  cases hv
  exact ⟨rfl, hm⟩
theorem Row3.slice {w : World} {v : Value} {l : List Ent} (h : Row3 w v l) : ∃ A c, v = .slice A l.length c := by
  obtain ⟨A, c, hv, -⟩ := h; exact ⟨A, c, hv⟩
def entCells (e : Ent) : Array Value := #[.string (ofL e.key), .string (ofL e.val), .bool e.ghost]
def nodCells (n : Nod) (p : Value) : Array Value := #[.int .i64 n.tree, .int .i64 n.level, .int .i64 n.stamp, .bool n.has, .string (ofL n.high), .int .i64 n.right, p]
/-- The value v is the node n. -/
def NodAt (w : World) (v : Value) (n : Nod) : Prop := ∃ p, v = .agg (nodCells n p) ∧ Row3 w p n.list
theorem NodAt.keep {w w' : World} {v : Value} {n : Nod} (h : NodAt w v n) (hb : Below w.heap.size w w') : NodAt w' v n := by
  obtain ⟨p, hv, h1⟩ := h
  exact ⟨p, hv, h1.keep hb⟩
theorem nod_cells {w : World} {g : Nat} {T : TypeId} {a b c d e f p : Value} (h : Blk w g T #[a, b, c, d, e, f, p]) :
    w.cell? ⟨g, 0, none⟩ = some a ∧ w.cell? ⟨g, 1, none⟩ = some b ∧ w.cell? ⟨g, 2, none⟩ = some c ∧ w.cell? ⟨g, 3, none⟩ = some d ∧ w.cell? ⟨g, 4, none⟩ = some e ∧ w.cell? ⟨g, 5, none⟩ = some f ∧ w.cell? ⟨g, 6, none⟩ = some p :=
  ⟨h.cell 0, h.cell 1, h.cell 2, h.cell 3, h.cell 4, h.cell 5, h.cell 6⟩
theorem ent_cells {w : World} {g : Nat} {T : TypeId} {a b c : Value} (h : Blk w g T #[a, b, c]) :
    w.cell? ⟨g, 0, none⟩ = some a ∧ w.cell? ⟨g, 1, none⟩ = some b ∧ w.cell? ⟨g, 2, none⟩ = some c := ⟨h.cell 0, h.cell 1, h.cell 2⟩
theorem nil_str (l : By) : ((ofL l).toList == (⟨#[]⟩ : ByteArray).toList) = decide (l = []) := by
  rw [str_eq]
  congr 1
  apply propext
  constructor
  · intro h; exact ofL_inj (m := []) h
  · rintro rfl; rfl

/-! The parts. -/
set_option maxHeartbeats 400000 in
theorem within_any (n hi : Int) (w : World) :
    Calls Tryz.prog 147 #[.int .i64 n, .int .i64 hi] w fun e w' => e = .returned (.bool (inN n hi)) ∧ w' = w := by
  unfold inN
  by_cases h : 0 ≤ n
  · go_enter Tryz.func147, Tryz.ntmps147
    go_wp2_with fail
    go_returns
    simp [h]
  · go_enter Tryz.func147, Tryz.ntmps147
    go_wp2_with fail
    go_returns
    simp [h]
    omega
set_option maxHeartbeats 1000000 in
theorem goodHigh_any (n : Nod) (p : Value) (w : World) :
    Calls Tryz.prog 148 #[.agg (nodCells n p)] w fun e w' => e = .returned (.bool (gHigh n)) ∧ Below w.heap.size w w' := by
  have S := Lib.hid ((Own.none w).alloc (nodCells n p) 31).left
  unfold gHigh nodCells at *
  generalize n.has = hb at *
  have hz : n.high.length = (ofL n.high).size := rfl
  have hn := nil_str n.high
  rw [hz]
  generalize decide (n.high = []) = q at *
  generalize ofL n.high = h at *
  cases hb
  · go_enter Tryz.func148, Tryz.ntmps148
    go_wp2_with fail
    go_returns
    exact ⟨ret_bool (by simpa using hn), S.out.bel⟩
  · clear hn
    by_cases h9 : h.size = 9
    all_goals
      go_enter Tryz.func148, Tryz.ntmps148
      go_wp2_with fail
      go_returns
      exact ⟨ret_bool (by simp [h9] <;> omega), S.out.bel⟩
set_option maxHeartbeats 1000000 in
theorem Covers_any (n : Nod) (p : Value) (k : By) (w : World) :
    Calls Tryz.prog 172 #[.agg (nodCells n p), .string (ofL k)] w fun e w' => e = .returned (.bool (cov n k)) ∧ Below w.heap.size w w' := by
  have S := Lib.hid ((Own.none w).alloc (nodCells n p) 31).left
  unfold cov nodCells at *
  generalize n.has = hb at *
  have hn := less k n.high
  generalize lt k n.high = q at *
  generalize ofL n.high = h at *
  generalize ofL k = x at *
  cases hb
  all_goals
    go_enter Tryz.func172, Tryz.ntmps172
    go_wp2_with fail
    go_returns
    exact ⟨ret_bool (by simp [hn]), S.out.bel⟩
set_option maxHeartbeats 1000000 in
theorem goodEntry_any (e : Ent) (lv : Int) (w : World) :
    Calls Tryz.prog 173 #[.agg (entCells e), .int .i64 lv] w fun r w' => r = .returned (.bool (gEnt lv e)) ∧ Below w.heap.size w w' := by
  have S := Lib.hid ((Own.none w).alloc (entCells e) 84).left
  unfold gEnt entCells at *
  rw [← ofL_sz e.key, ← ofL_sz e.val]
  generalize ofL e.key = x at *
  generalize ofL e.val = y at *
  generalize e.ghost = b at *
  by_cases h1 : x.size = 9
  · by_cases h2 : 0 < lv
    · by_cases h3 : y.size = 2
      all_goals
        go_enter Tryz.func173, Tryz.ntmps173
        go_wp2_with fail
        go_returns
        exact ⟨ret_bool (by first | rfl | (simp [h1, h2, h3] <;> omega)), S.out.bel⟩
    · have e : (decide (x.size = 9) && if 0 < lv then decide (y.size = 2) && !b else decide (y.size ≤ 100)) = decide ((y.size : Int) ≤ 100) := by
        rw [decide_eq_true h1, if_neg h2, Bool.true_and]; exact decide_eq_decide.2 (by omega)
      rw [e]
      clear e
      go_enter Tryz.func173, Tryz.ntmps173
      go_wp2_with fail
      go_returns
      exact ⟨rfl, S.out.bel⟩
  · have hne : ((x.size : Int) != 9) = true := by simp [bne_iff_ne]; omega
    have hd : decide (x.size = 9) = false := decide_eq_false h1
    rw [hd, Bool.false_and]
    by_cases h2 : 0 < lv
    all_goals
      go_enter Tryz.func173, Tryz.ntmps173
      go_wp2_with fail
      go_returns
      exact ⟨rfl, S.out.bel⟩
set_option maxHeartbeats 2000000 in
theorem Size_any (n : Nod) (v : Value) (w : World) (hv : NodAt w v n) (hs : sizeN n < 4611686018427387904) :
    Calls Tryz.prog 122 #[v] w fun e w' => e = .returned (.int .i64 (sizeN n)) ∧ Below w.heap.size w w' := by
  obtain ⟨p, rfl, hp⟩ := hv
  obtain ⟨A1, m1, rfl⟩ := hp.slice
  have hm1 := hp.len.2
  unfold maxLen at hm1
  have S := Lib.hid ((Own.none w).alloc (nodCells n (.slice A1 n.list.length m1)) 31).left
  have HP := Lib.hid hp
  have HS := Lib.hid hs
  have HZ : Hid (∀ k, 20 + sizeL (n.list.take k) ≤ sizeN n) := Lib.hid (fun k => by have := sizeL_le n.list k; unfold sizeN; omega)
  clear hp hs
  unfold nodCells at *
  go_enter Tryz.func122, Tryz.ntmps122
  go_wp2_with fail
  obtain ⟨g, hgz⟩ : ∃ g, g = w.heap.size := ⟨_, rfl⟩
  rw [← hgz] at S ⊢
  clear hgz
  generalize w.alloc _ = w1 at *
  obtain ⟨-, -, -, -, -, -, c6⟩ := nod_cells (S.out.has (has_blk _ _ _))
  go_wp2_with fail
  go_loopw [3, 9] (fun s i wr => ∃ k : Nat, k ≤ n.list.length ∧ i = .int .i64 k ∧ s = .int .i64 ((20 + sizeL (n.list.take k) : Nat) : Int) ∧ Hid (Own w No wr (Asn.blk g 31 (nodCells n (.slice A1 n.list.length m1))))) (fun _ i _ => n.list.length - (intOf i).toNat)
  case atStart => exact ⟨0, Nat.zero_le _, rfl, rfl, S⟩
  case round =>
    clear S c6
    obtain ⟨k, hk, rfl, rfl, X⟩ := hrel
    by_cases hlt : k < n.list.length
    · obtain ⟨x, hx⟩ : ∃ x, n.list[k]? = some x := ⟨n.list[k]'(by omega), List.getElem?_eq_getElem _⟩
      obtain ⟨b, o, rfl, hbl, c0, c1, c2⟩ := (HP.out.keep X.out.bel).at hx
      have X1 := Lib.hid (X.out.alloc (entCells x) 84).right
      have hst := sizeL_take n.list k x hx
      have h1 := HZ.out (k + 1)
      have h2 := HS.out
      rw [hst] at h1
      have HT := Lib.hid hst
      rw [← ofL_sz x.val] at h1
      have hb : Hid ((ofL x.val).size = x.val.length) := Lib.hid rfl
      unfold entCells at *
      generalize ofL x.val = y at *
      generalize ofL x.key = z at *
      clear hst hx X
      go_wp2_with fail
      go_round
      case rel => exact ⟨k + 1, by omega, by go_num, by rw [HT.out, ← hb.out]; go_num, X1⟩
      case measure => simp [intOf]; omega
    · obtain rfl : k = n.list.length := by omega
      rw [List.take_length]
      go_wp2_with fail
      go_returns
      exact ⟨rfl, X.out.bel⟩
end Go.Proofs.YtmnfoafpjmlbfaaGreatDoor.Nd
end

-- joined
section
namespace Go.Proofs.YtmnfoafpjmlbfaaGreatDoor.Tr
open Go.ChangeShapes Go.WideShapes Go.ChangeAt Go.RowKit Go.PlainAid Aid Nt Nd
set_option linter.unusedVariables false
set_option linter.unusedSimpArgs false
/-- A page at hand: its number, its node, the value that is the node's list. -/
structure Sh where
  page : Nat
  n : Nod
  v : Value
/-- A dirty page. -/
structure Db where
  page : Nat
  first : Nat
  un : Nat
def shC (x : Sh) : List Value := [.int .i64 x.page, .int .i64 x.n.tree, .int .i64 x.n.level, .int .i64 x.n.stamp, .bool x.n.has, .string (ofL x.n.high), .int .i64 x.n.right, x.v]
def dbC (x : Db) : List Value := [.int .i64 x.page, .int .i64 x.first, .int .i64 x.un]
def shs (H : List Sh) : List Value := H.flatMap shC
def dbs (D : List Db) : List Value := D.flatMap dbC
theorem flatMap_at {α β : Type} (f : α → List β) (n : Nat) (hf : ∀ x, (f x).length = n) : ∀ (M : List α) (q j : Nat) (x : α), M[q]? = some x → j < n → (M.flatMap f)[q * n + j]? = (f x)[j]?
  | a :: M, 0, j, x, h, hj => by
    simp only [List.getElem?_cons_zero, Option.some.injEq] at h
    subst h
    rw [List.flatMap_cons, Nat.zero_mul, Nat.zero_add, List.getElem?_append_left (by rw [hf]; exact hj)]
  | a :: M, q + 1, j, x, h, hj => by
    rw [List.flatMap_cons, List.getElem?_append_right (by rw [hf, Nat.add_mul]; omega), hf, show (q + 1) * n + j - n = q * n + j by rw [Nat.add_mul]; omega]
    exact flatMap_at f n hf M q j x (by simpa using h) hj
theorem flatMap_take {α β : Type} (f : α → List β) (n : Nat) (hf : ∀ x, (f x).length = n) : ∀ (M : List α) (i : Nat), (M.flatMap f).take (i * n) = (M.take i).flatMap f
  | [], i => by simp
  | a :: M, 0 => by simp
  | a :: M, i + 1 => by
    rw [List.flatMap_cons, List.take_succ_cons, List.flatMap_cons, show (i + 1) * n = (f a).length + i * n by rw [hf, Nat.add_mul]; omega, List.take_length_add_append, flatMap_take f n hf M i]
theorem flatMap_drop {α β : Type} (f : α → List β) (n : Nat) (hf : ∀ x, (f x).length = n) : ∀ (M : List α) (i : Nat), (M.flatMap f).drop (i * n) = (M.drop i).flatMap f
  | [], i => by simp
  | a :: M, 0 => by simp
  | a :: M, i + 1 => by
    rw [List.flatMap_cons, List.drop_succ_cons, show (i + 1) * n = (f a).length + i * n by rw [hf, Nat.add_mul]; omega, List.drop_length_add_append, flatMap_drop f n hf M i]
/-- The page that stands at a place. -/
def pgS (H : List Sh) (k : Nat) : Nat := (H.map Sh.page).getD k 0
def pgD (D : List Db) (k : Nat) : Nat := (D.map Db.page).getD k 0
theorem pgS_at {H : List Sh} {k : Nat} {x : Sh} (h : H[k]? = some x) : pgS H k = x.page := by simp [pgS, List.getD_eq_getElem?_getD, h]
theorem pgD_at {D : List Db} {k : Nat} {x : Db} (h : D[k]? = some x) : pgD D k = x.page := by simp [pgD, List.getD_eq_getElem?_getD, h]
/-- Rising numbers. -/
def Rise (L : List Nat) : Prop := L.Pairwise (· < ·)
/-- How many of them stand ahead of a number. -/
def spot (L : List Nat) (x : Int) : Nat := (L.takeWhile (fun p : Nat => decide ((p : Int) < x))).length
theorem spot_le (L : List Nat) (x : Int) : spot L x ≤ L.length := by
  unfold spot
  induction L with
  | nil => exact Nat.le_refl _
  | cons a L ih =>
    rw [List.takeWhile_cons]
    split
    · simp only [List.length_cons]; omega
    · exact Nat.zero_le _
theorem spot_lo (L : List Nat) (x : Int) (k : Nat) (h : k < spot L x) : ((L.getD k 0 : Nat) : Int) < x := by
  unfold spot at h
  induction L generalizing k with
  | nil => simp at h
  | cons a L ih =>
    rw [List.takeWhile_cons] at h
    split at h
    · rename_i ha
      cases k with
      | zero => simpa using ha
      | succ k => simpa using ih k (by simpa using h)
    · simp at h
theorem spot_hi (L : List Nat) (hr : Rise L) (x : Int) (k : Nat) (h : spot L x ≤ k) (hk : k < L.length) : x ≤ ((L.getD k 0 : Nat) : Int) := by
  unfold spot at h
  induction L generalizing k with
  | nil => simp at hk
  | cons a L ih =>
    rw [List.takeWhile_cons] at h
    split at h
    · cases k with
      | zero => simp at h
      | succ k => simpa using ih (List.Pairwise.of_cons hr) k (by simpa using h) (by simpa using hk)
    · rename_i ha
      have ha' : x ≤ (a : Int) := by simpa using ha
      cases k with
      | zero => simpa using ha'
      | succ k =>
        have hk' : k < L.length := by simpa using hk
        have h1 : a < L[k] := (List.pairwise_cons.1 hr).1 _ (List.getElem_mem hk')
        have h2 : (a :: L).getD (k + 1) 0 = L[k] := by simp [List.getD_eq_getElem?_getD, List.getElem?_eq_getElem hk']
        rw [h2]; omega
theorem rise_ins {L : List Nat} (hr : Rise L) (x i : Nat) (hi : i ≤ L.length) (h1 : ∀ k, k < i → L.getD k 0 < x) (h2 : ∀ k, i ≤ k → k < L.length → x < L.getD k 0) : Rise (L.take i ++ x :: L.drop i) := by
  unfold Rise at *
  have e := List.take_append_drop i L
  rw [← e] at hr
  rw [List.pairwise_append] at hr ⊢
  obtain ⟨a, b, c⟩ := hr
  have hA : ∀ y, y ∈ L.take i → y < x := fun y hy => by
    obtain ⟨k, hk, rfl⟩ := List.getElem_of_mem hy
    have := h1 k (by rw [List.length_take] at hk; omega)
    rwa [List.getD_eq_getElem?_getD, List.getElem?_eq_getElem (by rw [List.length_take] at hk; omega), Option.getD_some, ← List.getElem_take] at this
    all_goals exact hk
  have hB : ∀ y, y ∈ L.drop i → x < y := fun y hy => by
    obtain ⟨k, hk, rfl⟩ := List.getElem_of_mem hy
    rw [List.length_drop] at hk
    have := h2 (i + k) (by omega) (by omega)
    rwa [List.getD_eq_getElem?_getD, List.getElem?_eq_getElem (by omega), Option.getD_some, ← List.getElem_drop (h := by rw [List.length_drop]; exact hk)] at this
  refine ⟨a, List.pairwise_cons.2 ⟨hB, b⟩, fun y hy z hz => ?_⟩
  rcases List.mem_cons.1 hz with rfl | hz
  · exact hA y hy
  · exact c y hy z hz
theorem rise_cut {L : List Nat} (hr : Rise L) (i : Nat) : Rise (L.take i ++ L.drop (i + 1)) := by
  unfold Rise at *
  have e := List.take_append_drop i L
  rw [← e] at hr
  rw [List.pairwise_append] at hr ⊢
  obtain ⟨a, b, c⟩ := hr
  have hs : ∀ y, y ∈ L.drop (i + 1) → y ∈ L.drop i := fun y hy => by
    rw [← List.tail_drop] at hy
    exact List.mem_of_mem_tail hy
  refine ⟨a, ?_, fun y hy z hz => c y hy z (hs z hz)⟩
  rw [← List.tail_drop]
  exact List.Pairwise.tail b
end Go.Proofs.YtmnfoafpjmlbfaaGreatDoor.Tr
end
