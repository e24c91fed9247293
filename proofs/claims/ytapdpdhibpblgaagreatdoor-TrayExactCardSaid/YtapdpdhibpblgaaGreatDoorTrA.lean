/- Texts of ours, joined. -/
import Derived.Test.YtapdpdhibpblgaaGreatDoorTrB
import Derived.Test.YtapdpdhibpblgaaGreatDoorTrI
import Derived.Test.YtapdpdhibpblgaaGreatDoorDyE
import Derived.Test.YtapdpdhibpblgaaGreatDoorOpenB
import Derived.Test.YtapdpdhibpblgaaGreatDoorArgs

-- joined
section
namespace Go.Proofs.YtapdpdhibpblgaaGreatDoor.Tr
open Go.ChangeShapes Go.WideShapes Go.ChangeAt Go.RowKit Go.PlainAid Aid Nt Nd
set_option linter.unusedVariables false
set_option linter.unusedSimpArgs false
/-- The lists of the pages at hand, each its own. -/
def aNs (H : List Sh) : Asn :=
  ⟨fun w O => (∀ x, x ∈ H → Vec w 83 3 x.v x.n.list.length (cells3 x.n.list) ∧ ∀ k, VB x.v k → O k) ∧ ∀ k, O k → k < w.heap.size,
   fun w O h => h.2,
   fun w w' O S h hc hS => ⟨fun x hx => ⟨(h.1 x hx).1.keep hc (fun k hk => hS k ((h.1 x hx).2 k hk)), (h.1 x hx).2⟩, fun k hk => Nat.lt_of_lt_of_le (h.2 k hk) hc.size⟩⟩
theorem ns_add (H H' : List Sh) (x : Sh) (hs : ∀ y, y ∈ H' → y = x ∨ y ∈ H) : Imp (Asn.vec 83 3 x.v x.n.list.length (cells3 x.n.list) * aNs H) (aNs H') := by
  rintro w O ⟨X, Y, hX, hY, hd, hO⟩
  refine ⟨fun y hy => ?_, fun k hk => ?_⟩
  · rcases hs y hy with rfl | hy
    · exact ⟨hX.1, fun k hk => (hO k).2 (Or.inl ((hX.2 k).2 hk))⟩
    · exact ⟨(hY.1 y hy).1, fun k hk => (hO k).2 (Or.inr ((hY.1 y hy).2 k hk))⟩
  · rcases (hO k).1 hk with h | h
    · exact hX.1.lt ((hX.2 k).1 h)
    · exact hY.2 k h
theorem ns_sub (H H' : List Sh) (hs : ∀ y, y ∈ H' → y ∈ H) : Imp (aNs H) (aNs H') := fun w O h => ⟨fun y hy => h.1 y (hs y hy), h.2⟩
theorem ns_nil {w0 w : World} {O0 : Nat → Prop} {A : Asn} (h : Own w0 O0 w A) : Own w0 O0 w (aNs [] * A) := h.map fun O hO => ⟨O, ⟨fun _ => False, O, ⟨fun x hx => (List.not_mem_nil hx).elim, fun k hk => hk.elim⟩, hO, fun k hk => hk.elim, fun k => by simp⟩, fun _ => id⟩
theorem ns_row {w : World} {O : Nat → Prop} {H : List Sh} (h : (aNs H).P w O) {x : Sh} (hx : x ∈ H) : Row3 w x.v x.n.list := Row3.of_vec (h.1 x hx).1
theorem ns_at {w0 w : World} {O0 : Nat → Prop} {H : List Sh} {C : Asn} (h : Own w0 O0 w (aNs H * C)) {x : Sh} (hx : x ∈ H) : Row3 w x.v x.n.list := by
  obtain ⟨O, ⟨X, Y, hX, -⟩, -⟩ := h.ex
  exact ns_row hX hx
theorem sets_vec (e : TypeId) (size g cap n : Nat) (xs : List Value) (i : Nat) (hi : i < n * size) (u : Value) : Sets (Asn.vec e size (.slice (some ⟨g, 0, none⟩) n cap) n xs) ⟨g, i, none⟩ u (Asn.vec e size (.slice (some ⟨g, 0, none⟩) n cap) n (xs.set i u)) :=
  fun w O h => ⟨⟨h.1.set hi u, h.2⟩, (h.2 g).2 rfl⟩
def tPtr (g : Nat) : Value := .pointer (some ⟨g, 0, none⟩)
def trRow (gd gl : Nat) (hv ov : Value) : Array Value := #[.pointer (some ⟨gd, 0, none⟩), .pointer (some ⟨gl, 0, none⟩), hv, ov]
theorem tr_cells {w : World} {g gd gl : Nat} {hv ov : Value} (h : Blk w g 109 (trRow gd gl hv ov)) :
    w.cell? ⟨g, 0, none⟩ = some (.pointer (some ⟨gd, 0, none⟩)) ∧ w.cell? ⟨g, 1, none⟩ = some (.pointer (some ⟨gl, 0, none⟩)) ∧ w.cell? ⟨g, 2, none⟩ = some hv ∧ w.cell? ⟨g, 3, none⟩ = some ov ∧ w.frozen? ⟨g, 2, none⟩ = false ∧ w.frozen? ⟨g, 3, none⟩ = false :=
  ⟨h.cell 0, h.cell 1, h.cell 2, h.cell 3, h.free 2, h.free 3⟩
/-- A tray in block g over a disk in block gd and a log in block gl: its pages at hand H, its debts D. -/
def aTr (g gd gl : Nat) (hv ov : Value) (H : List Sh) (D : List Db) : Asn :=
  Asn.blk g 109 (trRow gd gl hv ov) * (Asn.vec 98 8 hv H.length (shs H) * (Asn.vec 114 3 ov D.length (dbs D) * aNs H))
section
variable (g gd gl : Nat) (hv ov : Value) (H : List Sh) (D : List Db) (C : Asn)
theorem tr_b : aTr g gd gl hv ov H D * C = Asn.blk g 109 (trRow gd gl hv ov) * (Asn.vec 98 8 hv H.length (shs H) * (Asn.vec 114 3 ov D.length (dbs D) * (aNs H * C))) := by unfold aTr; ac_rfl
theorem tr_s : aTr g gd gl hv ov H D * C = Asn.vec 98 8 hv H.length (shs H) * (Asn.blk g 109 (trRow gd gl hv ov) * (Asn.vec 114 3 ov D.length (dbs D) * (aNs H * C))) := by unfold aTr; ac_rfl
theorem tr_d : aTr g gd gl hv ov H D * C = Asn.vec 114 3 ov D.length (dbs D) * (Asn.blk g 109 (trRow gd gl hv ov) * (Asn.vec 98 8 hv H.length (shs H) * (aNs H * C))) := by unfold aTr; ac_rfl
end
def OkD (d : Nat → Option Db) : Prop := ∀ p x, d p = some x → x.page = p
def OkS (h : Nat → Option Sh) : Prop := ∀ p x, h p = some x → x.page = p
theorem OkD.put {d : Nat → Option Db} (h : OkD d) (p : Nat) (y : Option Db) (hy : ∀ x, y = some x → x.page = p) : OkD (Tr.put d p y) := fun k x hx => by
  unfold Tr.put at hx
  split at hx
  · subst k; exact hy x hx
  · exact h k x hx
theorem OkS.put {d : Nat → Option Sh} (h : OkS d) (p : Nat) (y : Option Sh) (hy : ∀ x, y = some x → x.page = p) : OkS (Tr.put d p y) := fun k x hx => by
  unfold Tr.put at hx
  split at hx
  · subst k; exact hy x hx
  · exact h k x hx
/-- What is owed once a page lacks a stamp. -/
def owed (d : Nat → Option Db) (p stamp : Nat) : Nat → Option Db :=
  match d p with
  | none => put d p (some ⟨p, stamp, stamp⟩)
  | some y => if y.un = 0 then put d p (some ⟨p, y.first, stamp⟩) else d
theorem owed_ok {d : Nat → Option Db} (h : OkD d) (p stamp : Nat) : OkD (owed d p stamp) := by
  unfold owed
  split
  · exact h.put _ _ fun x hx => by cases hx; rfl
  · split
    · exact h.put _ _ fun x hx => by cases hx; rfl
    · exact h
theorem dbs_app (A B : List Db) : dbs (A ++ B) = dbs A ++ dbs B := List.flatMap_append ..
theorem dbs_len (A : List Db) : (dbs A).length = A.length * 3 := by
  induction A with
  | nil => rfl
  | cons a A ih => rw [show a :: A = [a] ++ A from rfl, dbs_app, List.length_append, ih, List.length_append]; show 3 + _ = (1 + _) * 3; omega
theorem dbs_one (A : List Db) : ∀ v, v ∈ dbs A → v.oneCell' = true := by
  intro v hv
  obtain ⟨x, -, hx⟩ := List.mem_flatMap.1 hv
  simp only [dbC, List.mem_cons, List.not_mem_nil, or_false] at hx
  rcases hx with rfl | rfl | rfl <;> rfl
theorem dbs_ins (A B : List Db) (x : Db) : (dbs (A ++ B)).take (A.length * 3) ++ dbC x ++ (dbs (A ++ B)).drop (A.length * 3) = dbs (A ++ (x :: B)) := by
  rw [dbs_app, ← dbs_len A, List.take_left, List.drop_left, dbs_app, show x :: B = [x] ++ B from rfl, dbs_app, show dbs [x] = dbC x from List.append_nil _, List.append_assoc]
theorem dbs_set (A B : List Db) (x : Db) (j : Nat) (hj : j < 3) (u : Value) : (dbs (A ++ (x :: B))).set (A.length * 3 + j) u = dbs A ++ ((dbC x).set j u ++ dbs B) := by
  rw [dbs_app, List.set_append_right _ _ (by rw [dbs_len]; omega), dbs_len, show A.length * 3 + j - A.length * 3 = j by omega, show x :: B = [x] ++ B from rfl, dbs_app, show dbs [x] = dbC x from List.append_nil _, List.set_append_left _ _ hj]
theorem shs_app (A B : List Sh) : shs (A ++ B) = shs A ++ shs B := List.flatMap_append ..
theorem shs_len (A : List Sh) : (shs A).length = A.length * 8 := by
  induction A with
  | nil => rfl
  | cons a A ih => rw [show a :: A = [a] ++ A from rfl, shs_app, List.length_append, ih, List.length_append]; show 8 + _ = (1 + _) * 8; omega
theorem shs_ins (A B : List Sh) (x : Sh) : (shs (A ++ B)).take (A.length * 8) ++ shC x ++ (shs (A ++ B)).drop (A.length * 8) = shs (A ++ (x :: B)) := by
  rw [shs_app, ← shs_len A, List.take_left, List.drop_left, shs_app, show x :: B = [x] ++ B from rfl, shs_app, show shs [x] = shC x from List.append_nil _, List.append_assoc]
theorem shs_cut (A B : List Sh) (x : Sh) : (shs (A ++ (x :: B))).take (A.length * 8) ++ (shs (A ++ (x :: B))).drop ((A.length + 1) * 8) = shs (A ++ B) := by
  have e : shs (A ++ (x :: B)) = shs (A ++ [x]) ++ shs B := by rw [← shs_app, List.append_assoc]; rfl
  have l : (A.length + 1) * 8 = (shs (A ++ [x])).length := by rw [shs_len, List.length_append]; rfl
  rw [e, l, List.drop_left, shs_app, List.append_assoc, ← shs_len A, List.take_left, shs_app]
section
variable {n : Nat}
theorem place_d {d : Nat → Option Db} (ho : OkD d) (hn : n ≤ 256) (p : Nat) (hp : p < n) (v : Value) (w : World) (hv : Vec w 114 3 v (lst d n).length (dbs (lst d n))) :
    Calls Tryz.prog 77 #[v, .int .i64 p, num_debt] w fun e w' => e = .returned (.tuple #[.int .i64 ((lst d p).length : Nat), .bool (d p).isSome]) ∧ Below w.heap.size w w' := by
  have hl := lst_le d n
  have h := place_debt v (lst d n) (p : Int) w hv (by omega) (lst_rise (pg := Db.page) ho n)
  rw [spot_lst (pg := Db.page) ho p n hp] at h
  unfold pgD at h
  rw [found_lst (pg := Db.page) ho p n hp] at h
  exact h
theorem place_s {h : Nat → Option Sh} (ho : OkS h) (hn : n ≤ 256) (p : Nat) (hp : p < n) (v : Value) (w : World) (hv : Vec w 98 8 v (lst h n).length (shs (lst h n))) :
    Calls Tryz.prog 39 #[v, .int .i64 p, num_sheet] w fun e w' => e = .returned (.tuple #[.int .i64 ((lst h p).length : Nat), .bool (h p).isSome]) ∧ Below w.heap.size w w' := by
  have hl := lst_le h n
  have h := place_sheet v (lst h n) (p : Int) w hv (by omega) (lst_rise (pg := Sh.page) ho n)
  rw [spot_lst (pg := Sh.page) ho p n hp] at h
  unfold pgS at h
  rw [found_lst (pg := Sh.page) ho p n hp] at h
  exact h
theorem place_no {h : Nat → Option Sh} (ho : OkS h) (hn : n ≤ 256) (x : Int) (hx : x < 0 ∨ (n : Int) ≤ x) (v : Value) (w : World) (hv : Vec w 98 8 v (lst h n).length (shs (lst h n))) :
    Calls Tryz.prog 39 #[v, .int .i64 x, num_sheet] w fun e w' => ∃ i : Nat, e = .returned (.tuple #[.int .i64 i, .bool false]) ∧ Below w.heap.size w w' := by
  have hl := lst_le h n
  have h := place_sheet v (lst h n) x w hv (by omega) (lst_rise (pg := Sh.page) ho n)
  unfold pgS at h
  rw [found_out (pg := Sh.page) ho x n hx] at h
  exact h.mono fun e w' ⟨he, hb⟩ => ⟨_, he, hb⟩
end
theorem ins_debt {w0 w : World} {O0 : Nat → Prop} {n vb : Nat} {xs : List Value} {T : TypeId} {a b c v : Value} {C : Asn} (i : Nat) (hi : i ≤ n) (hn : n ≤ 256) (h1 : ∀ u, u ∈ [a, b, c] → u.oneCell' = true) (hx1 : ∀ v, v ∈ xs → v.oneCell' = true)
    (hS : Own w0 O0 w (Asn.blk vb T #[a, b, c] * (Asn.vec 114 3 v n xs * C))) :
    Calls Tryz.prog 116 #[v, .int .i64 i, .slice (some ⟨vb, 0, none⟩) 1 1] w fun e w' => ∃ v', e = .returned v' ∧ Own w0 O0 w' (Asn.vec 114 3 v' (n + 1) (xs.take (i * 3) ++ [a, b, c] ++ xs.drop (i * 3)) * C) := by
  have hb := hS.has (Has.l (has_blk _ _ _))
  have hne : ¬ VB v vb := fun e => hS.ne (mem_blk _ _ _) (Mem.l (fun _ _ h => (h.2 vb).2 e)) rfl
  refine (insert_debt n i vb xs [a, b, c] T w v hi (by omega) hS.right.vec hb rfl h1 hx1 hne).mono ?_
  rintro e w' ⟨v', rfl, k1, k2, k3⟩
  exact ⟨v', rfl, hS.right.app k1 k2 k3⟩
theorem ins_sheet {w0 w : World} {O0 : Nat → Prop} {n vb : Nat} {xs ys : List Value} {T : TypeId} {cs : Array Value} {v : Value} {C : Asn} (i : Nat) (hi : i ≤ n) (hn : n ≤ 256) (hcs : cs = ys.toArray) (hy : ys.length = 8) (h1 : ∀ u, u ∈ ys → u.oneCell' = true) (hx1 : ∀ v, v ∈ xs → v.oneCell' = true)
    (hS : Own w0 O0 w (Asn.blk vb T cs * (Asn.vec 98 8 v n xs * C))) :
    Calls Tryz.prog 47 #[v, .int .i64 i, .slice (some ⟨vb, 0, none⟩) 1 1] w fun e w' => ∃ v', e = .returned v' ∧ Own w0 O0 w' (Asn.vec 98 8 v' (n + 1) (xs.take (i * 8) ++ ys ++ xs.drop (i * 8)) * C) := by
  subst hcs
  have hb := hS.has (Has.l (has_blk _ _ _))
  have hne : ¬ VB v vb := fun e => hS.ne (mem_blk _ _ _) (Mem.l (fun _ _ h => (h.2 vb).2 e)) rfl
  refine (insert_sheet n i vb xs ys T w v hi (by omega) hS.right.vec hb hy h1 hx1 hne).mono ?_
  rintro e w' ⟨v', rfl, k1, k2, k3⟩
  exact ⟨v', rfl, hS.right.app k1 k2 k3⟩
end Go.Proofs.YtapdpdhibpblgaaGreatDoor.Tr
end

-- joined
section
namespace Go.Proofs.YtapdpdhibpblgaaGreatDoor.Tr
open Go.ChangeShapes Go.WideShapes Go.ChangeAt Go.RowKit Go.PlainAid Aid Nd Nt
set_option linter.unusedVariables false
set_option linter.unusedSimpArgs false
set_option maxRecDepth 100000 in
set_option maxHeartbeats 4000000 in
theorem great_list (n : Nod) (v : Value) (w : World) (hv : NodAt w v n) :
    Calls Tryz.prog 7 #[v] w fun e w' => (e = .returned (.bool true) ∨ (e = .returned (.bool false) ∧ n.list.length ≤ 40)) ∧ Below w.heap.size w w' := by
  obtain ⟨p, rfl, hp⟩ := hv
  obtain ⟨A1, m1, rfl⟩ := hp.slice
  have hm1 := hp.len.2
  unfold maxLen at hm1
  have HP := Lib.hid hp
  have S := Lib.hid ((Own.none w).alloc (nodCells n (.slice A1 n.list.length m1)) 31).left
  clear hp
  unfold nodCells at *
  generalize ofL n.high = hi at *
  go_enter Tryz.func7, Tryz.ntmps7
  go_upto_region 1 with fail
  obtain ⟨g, hgz⟩ : ∃ g, g = w.heap.size := ⟨_, rfl⟩
  rw [← hgz] at S ⊢
  clear hgz
  generalize w.alloc _ = w1 at *
  obtain ⟨-, -, -, -, c4, -, c6⟩ := nod_cells (S.out.has (has_blk _ _ _))
  by_cases h1 : 40 < n.list.length
  · go_wp2_with fail
    go_returns
    exact ⟨Or.inl rfl, S.out.bel⟩
  by_cases h2 : 100 < hi.size
  · go_wp2_with fail
    go_returns
    exact ⟨Or.inl rfl, S.out.bel⟩
  have H1 := Lib.hid h1
  go_wp2_with fail
  go_loop [3] (fun i => ∃ k : Nat, k ≤ n.list.length ∧ i = .int .i64 k) (fun i => n.list.length - (intOf i).toNat)
  case atStart => exact ⟨0, Nat.zero_le _, rfl⟩
  case round =>
    obtain ⟨k, hk, rfl⟩ := hrel
    by_cases hlt : k < n.list.length
    · obtain ⟨x, hx⟩ : ∃ x, n.list[k]? = some x := ⟨n.list[k]'(by omega), List.getElem?_eq_getElem _⟩
      obtain ⟨b, ob, rfl, hbl, e0, e1, -⟩ := (HP.out.keep S.out.bel).at hx
      generalize ofL x.key = y at *
      generalize ofL x.val = z at *
      clear hx
      by_cases h6 : 100 < y.size
      · go_wp2_with fail
        go_returns
        exact ⟨Or.inl rfl, S.out.bel⟩
      by_cases h7 : 200 < z.size
      · go_wp2_with fail
        go_returns
        exact ⟨Or.inl rfl, S.out.bel⟩
      · go_wp2_with fail
        go_round
        case rel => exact ⟨k + 1, by omega, by go_num⟩
        case measure => simp [intOf]; omega
    · obtain rfl : k = n.list.length := by omega
      go_wp2_with fail
      go_returns
      exact ⟨Or.inr ⟨rfl, by have := H1.out; omega⟩, S.out.bel⟩
/-- A deed: its kind, its page, its node. -/
structure Dn where
  kind : Int
  page : Int
  nd : Nod
def dnCells (x : Dn) (p : Value) : Array Value := #[.int .i64 x.kind, .int .i64 x.page, .int .i64 x.nd.tree, .int .i64 x.nd.level, .int .i64 x.nd.stamp, .bool x.nd.has, .string (ofL x.nd.high), .int .i64 x.nd.right, p]
/-- A row of deeds that came in. -/
def DnRow (w : World) (A : Option Addr) (m : Nat) (L : List Dn) : Prop :=
  L.length = m ∧ ∀ (k : Nat) (x : Dn), L[k]? = some x → I64 x.page ∧ ∃ b o p, A = some ⟨b, o, none⟩ ∧ b < w.heap.size ∧ (∀ j v, (dnCells x p)[j]? = some v → w.cell? ⟨b, o + k * 9 + j, none⟩ = some v) ∧ Row3 w p x.nd.list
theorem DnRow.at {w : World} {A : Option Addr} {m : Nat} {L : List Dn} (h : DnRow w A m L) (k : Nat) (hk : k < m) :
    ∃ x b o A1 m1, L[k]? = some x ∧ I64 x.page ∧ A = some ⟨b, o, none⟩ ∧ (∀ w', Below w.heap.size w w' →
      (w'.cell? ⟨b, o + k * 9, none⟩ = some (.int .i64 x.kind) ∧ w'.cell? ⟨b, o + k * 9 + 1, none⟩ = some (.int .i64 x.page) ∧ w'.cell? ⟨b, o + k * 9 + 2, none⟩ = some (.int .i64 x.nd.tree) ∧ w'.cell? ⟨b, o + k * 9 + 3, none⟩ = some (.int .i64 x.nd.level) ∧ w'.cell? ⟨b, o + k * 9 + 4, none⟩ = some (.int .i64 x.nd.stamp) ∧ w'.cell? ⟨b, o + k * 9 + 5, none⟩ = some (.bool x.nd.has) ∧ w'.cell? ⟨b, o + k * 9 + 6, none⟩ = some (.string (ofL x.nd.high)) ∧ w'.cell? ⟨b, o + k * 9 + 7, none⟩ = some (.int .i64 x.nd.right) ∧ w'.cell? ⟨b, o + k * 9 + 8, none⟩ = some (.slice A1 x.nd.list.length m1))) ∧
      Row3 w (.slice A1 x.nd.list.length m1) x.nd.list := by
  obtain ⟨hl, h⟩ := h
  have hr : L[k]? = some (L[k]'(by omega)) := List.getElem?_eq_getElem _
  obtain ⟨hi, b, o, p, hA, hlt, hc, h1⟩ := h k _ hr
  obtain ⟨A1, m1, rfl⟩ := h1.slice
  refine ⟨_, b, o, A1, m1, hr, hi, hA, fun w' hb => ?_, h1⟩
  have hc' : ∀ j v, (dnCells (L[k]'(by omega)) (.slice A1 (L[k]'(by omega)).nd.list.length m1))[j]? = some v → w'.cell? ⟨b, o + k * 9 + j, none⟩ = some v := fun j v hv => by rw [(bcell hb).1 _ _ hlt]; exact hc j v hv
  exact ⟨hc' 0 _ rfl, hc' 1 _ rfl, hc' 2 _ rfl, hc' 3 _ rfl, hc' 4 _ rfl, hc' 5 _ rfl, hc' 6 _ rfl, hc' 7 _ rfl, hc' 8 _ rfl⟩
end Go.Proofs.YtapdpdhibpblgaaGreatDoor.Tr
namespace Go.Proofs.YtapdpdhibpblgaaGreatDoor.Law
open Go.ChangeShapes Go.WideShapes Go.ChangeAt Go.RowKit Go.Deep Aid Nd Nt Tr
variable {H : Type} {enc : TypeId × Value → H} {w : World} {r : Reach} {b0 base : Nat} {spare : Nat → Bool} {held : Bool} {v : Value} {d : DataW H} {p : List MemPlace}
theorem len9 {α : Type} {l : List α} (h : l.length = 9) : ∃ a0 a1 a2 a3 a4 a5 a6 a7 a8, l = [a0, a1, a2, a3, a4, a5, a6, a7, a8] := by
  match l, h with
  | [a0, a1, a2, a3, a4, a5, a6, a7, a8], _ => exact ⟨_, _, _, _, _, _, _, _, _, rfl⟩
set_option maxRecDepth 100000 in
theorem open_nod_cells {fuel : Nat} {a0 a1 a2 a3 a4 a5 a6 : Value} {x : DataW H × List MemPlace} (h : DataW.trod enc Tryz.prog w base spare held fuel 31 [a0, a1, a2, a3, a4, a5, a6] = some x) : ∃ n p, [a0, a1, a2, a3, a4, a5, a6] = (nodCells n p).toList ∧ Row3 w p n.list := by
  obtain ⟨xs, n, -, -, -, hlen, hfl⟩ := DataW.trod_struct Tryz.underlying31 h
  obtain ⟨x0, t0⟩ := fld hlen hfl 0 3 0 1 (by kernel_rfl) (by kernel_rfl)
  obtain ⟨x1, t1⟩ := fld hlen hfl 1 3 1 1 (by kernel_rfl) (by kernel_rfl)
  obtain ⟨x2, t2⟩ := fld hlen hfl 2 3 2 1 (by kernel_rfl) (by kernel_rfl)
  obtain ⟨x3, t3⟩ := fld hlen hfl 3 4 3 1 (by kernel_rfl) (by kernel_rfl)
  obtain ⟨x4, t4⟩ := fld hlen hfl 4 9 4 1 (by kernel_rfl) (by kernel_rfl)
  obtain ⟨x5, t5⟩ := fld hlen hfl 5 3 5 1 (by kernel_rfl) (by kernel_rfl)
  obtain ⟨x6, t6⟩ := fld hlen hfl 6 29 6 1 (by kernel_rfl) (by kernel_rfl)
  simp only [List.drop_succ_cons, List.drop_zero, List.take_succ_cons, List.take_zero] at t0 t1 t2 t3 t4 t5 t6
  obtain ⟨n0, e0, -, -⟩ := DataW.trod_int Tryz.underlying3 t0
  obtain ⟨n1, e1, -, -⟩ := DataW.trod_int Tryz.underlying3 t1
  obtain ⟨n2, e2, -, -⟩ := DataW.trod_int Tryz.underlying3 t2
  obtain ⟨b3, e3, -⟩ := DataW.trod_bool Tryz.underlying4 t3
  obtain ⟨s4, e4, -, -⟩ := DataW.trod_string Tryz.underlying9 t4
  obtain ⟨n5, e5, -, -⟩ := DataW.trod_int Tryz.underlying3 t5
  simp only [List.cons.injEq, and_true] at e0 e1 e2 e3 e4 e5
  subst e0 e1 e2 e3 e4 e5
  obtain ⟨l6, h6⟩ := open_row3 t6
  obtain ⟨l4, rfl⟩ := bytes_of s4
  exact ⟨⟨n0, n1, n2, b3, l4, n5, l6⟩, a6, rfl, h6⟩
set_option maxRecDepth 100000 in
theorem open_dn_row (hv : Value.okWide Tryz.prog w r b0 22 v) (h : DataW.Trod enc Tryz.prog w base spare held 22 v d p) :
    ∃ (A : Option Addr) (m c : Nat) (L : List Dn), v = .slice A m c ∧ m ≤ maxLen ∧ DnRow w A m L := by
  have ht : Tryz.prog.underlying 22 = some (.slice 33) := Tryz.underlying22
  have hC : Tryz.prog.cellsOf 33 = 9 := by kernel_rfl
  obtain ⟨a0, len, cap, rfl⟩ := okWide_slice ht hv
  obtain ⟨fuel, hf⟩ := h
  rcases open_slice ht hf with ⟨hcs, -⟩ | ⟨a, len', cap', m, n, D, Pl, hcs, -, hl, hm, hmm, -, hi⟩
  · have e : (Value.slice a0 len cap) = .slice none 0 0 := by simpa [Value.cells] using hcs
    cases e
    exact ⟨none, 0, 0, [], rfl, by decide, rfl, fun k r hk => by cases hk⟩
  · have e : (Value.slice a0 len cap) = .slice (some a) len' cap' := by simpa [Value.cells] using hcs
    cases e
    rw [hC] at hi
    have hlm : len ≤ m := by rw [hmm]; split <;> omega
    obtain ⟨L, hll, hq⟩ := list_of (fun i (x : Dn) => I64 x.page ∧ ∃ p, (∀ j v, (dnCells x p)[j]? = some v → w.cell? (a.add (i * 9 + j)) = some v) ∧ Row3 w p x.nd.list) len (fun i hi' => by
      obtain ⟨cs', hc, ht'⟩ := hi i (by omega)
      obtain ⟨_, hcl, hat⟩ := World.cells?_some hc
      obtain ⟨xs, n', -, -, -, hlen, hfl⟩ := DataW.trod_struct Tryz.underlying33 ht'
      obtain ⟨x0, t0⟩ := fld hlen hfl 0 3 0 1 (by kernel_rfl) (by kernel_rfl)
      obtain ⟨x1, t1⟩ := fld hlen hfl 1 3 1 1 (by kernel_rfl) (by kernel_rfl)
      obtain ⟨x2, t2⟩ := fld hlen hfl 2 31 2 7 (by kernel_rfl) (by kernel_rfl)
      obtain ⟨a0, a1, a2, a3, a4, a5, a6, a7, a8, hl9⟩ := len9 hcl
      subst hl9
      simp only [List.drop_succ_cons, List.drop_zero, List.take_succ_cons, List.take_zero] at t0 t1 t2
      obtain ⟨x, p, hx, h1⟩ := open_nod_cells t2
      obtain ⟨n0, e0, -, -⟩ := DataW.trod_int Tryz.underlying3 t0
      obtain ⟨n1, e1, -, hw1⟩ := DataW.trod_int Tryz.underlying3 t1
      simp only [List.cons.injEq, and_true] at e0 e1
      subst e0 e1
      have hall : ∀ (j : Nat) (v : Value), (dnCells ⟨n0, n1, x⟩ p)[j]? = some v → [Value.int .i64 n0, .int .i64 n1, a2, a3, a4, a5, a6, a7, a8][j]? = some v := by
        intro j v hj
        rw [show [Value.int .i64 n0, .int .i64 n1, a2, a3, a4, a5, a6, a7, a8] = .int .i64 n0 :: .int .i64 n1 :: [a2, a3, a4, a5, a6, a7, a8] from rfl, hx]
        rw [← Array.getElem?_toList] at hj
        exact hj
      refine ⟨⟨n0, n1, x⟩, bounds_i64 hw1, p, fun j v hj => ?_, h1⟩
      have hj9 : j < 9 := (Array.getElem?_eq_some_iff.1 hj).1
      have h4 := hat j hj9
      rw [← Go.Deep.add_add, h4]
      exact hall j v hj)
    refine ⟨some a, len, cap, L, rfl, by omega, hll, fun k r hk => ?_⟩
    obtain ⟨hi64, p, hc, h1⟩ := hq k r hk
    have hk0 : k < L.length := (List.getElem?_eq_some_iff.1 hk).1
    obtain ⟨-, _, hc0, -⟩ := hq 0 _ (List.getElem?_eq_getElem (show 0 < L.length by omega))
    have c0 := hc0 0 _ rfl
    obtain ⟨b, o, spot⟩ := a
    obtain rfl : spot = none := by simpa [Addr.add] using World.cell?_spot c0
    have ha : ∀ i, (⟨b, o, none⟩ : Addr).add i = ⟨b, o + i, none⟩ := fun i => Go.WideShapes.add_plain b o i
    refine ⟨hi64, b, o, p, rfl, by rw [ha] at c0; exact cell_lt c0, fun j v hj => ?_, h1⟩
    have := hc j v hj
    rw [ha] at this
    rw [Nat.add_assoc]
    exact this
end Go.Proofs.YtapdpdhibpblgaaGreatDoor.Law
end

-- joined
section
namespace Go.Proofs.YtapdpdhibpblgaaGreatDoor.Tr
open Go.ChangeShapes Go.WideShapes Go.ChangeAt Go.RowKit Go.PlainAid Aid Nt Nd
set_option linter.unusedVariables false
set_option linter.unusedSimpArgs false
theorem lst_some {α : Type} {d : Nat → Option α} {p n : Nat} (hp : p < n) {y : α} (hy : d p = some y) : lst d n = lst d p ++ (y :: rst d (p + 1) n) := by rw [lst_split d p n hp, hy]; rfl
theorem lst_none {α : Type} {d : Nat → Option α} {p n : Nat} (hp : p < n) (hy : d p = none) : lst d n = lst d p ++ rst d (p + 1) n := by rw [lst_split d p n hp, hy]; rfl
theorem put_some {α : Type} {d : Nat → Option α} {p n : Nat} (hp : p < n) (y : α) : lst (put d p (some y)) n = lst d p ++ (y :: rst d (p + 1) n) := lst_put d p n hp (some y)
theorem put_none {α : Type} {d : Nat → Option α} {p n : Nat} (hp : p < n) : lst (put d p none) n = lst d p ++ rst d (p + 1) n := lst_put d p n hp none
set_option maxRecDepth 100000 in
set_option maxHeartbeats 2000000 in
theorem owe_any (n g gd gl : Nat) (hn : n ≤ 256) (hv ov : Value) (d : Nat → Option Db) (ho : OkD d) (p stamp : Nat) (hp : p < n) (w0 w : World) (C : Asn)
    (hS : Own w0 No w (Asn.vec 114 3 ov (lst d n).length (dbs (lst d n)) * (Asn.blk g 109 (trRow gd gl hv ov) * C))) :
    Calls Tryz.prog 73 #[tPtr g, .int .i64 p, .int .i64 stamp] w fun e w' => ∃ ov', e = .returned (.tuple #[]) ∧
      Own w0 No w' (Asn.vec 114 3 ov' (lst (owed d p stamp) n).length (dbs (lst (owed d p stamp) n)) * (Asn.blk g 109 (trRow gd gl hv ov') * C)) := by
  have S := Lib.hid hS
  have HP := Lib.hid (fun w h => place_d ho hn p hp ov w h)
  have hl := lst_le d n
  obtain ⟨A, c, rfl⟩ := hS.vec.slice
  obtain ⟨-, -, -, c3, -, f3⟩ := tr_cells (S.out.has (Has.r (Has.l (has_blk _ _ _))))
  clear hS
  unfold tPtr num_debt at *
  go_enter Tryz.func73, Tryz.ntmps73
  go_wp2_with fail
  refine (HP.out _ S.out.vec).mono ?_
  rintro e w2 ⟨rfl, hX⟩
  have S2 := Lib.hid (S.out.below hX)
  clear hX S HP c3 f3
  obtain ⟨-, -, -, c3, -, f3⟩ := tr_cells (S2.out.has (Has.r (Has.l (has_blk _ _ _))))
  have HM : Hid ((lst d p).length ≤ (lst d n).length) := Lib.hid (lst_mono d p n (by omega))
  cases hd : d p with
  | none =>
    have HE : Hid (dbs (lst (owed d p stamp) n) = (dbs (lst d n)).take ((lst d p).length * 3) ++ [.int .i64 p, .int .i64 stamp, .int .i64 stamp] ++ (dbs (lst d n)).drop ((lst d p).length * 3)) := Lib.hid (by
      have hO : owed d p stamp = put d p (some ⟨p, stamp, stamp⟩) := by unfold owed; rw [hd]
      have := dbs_ins (lst d p) (rst d (p + 1) n) ⟨p, stamp, stamp⟩
      rw [hO, put_some hp, lst_none hp hd]
      exact this.symm)
    have HL : Hid ((lst (owed d p stamp) n).length = (lst d n).length + 1) := Lib.hid (by
      have hO : owed d p stamp = put d p (some ⟨p, stamp, stamp⟩) := by unfold owed; rw [hd]
      rw [hO, put_some hp, lst_none hp hd, List.length_append, List.length_append, List.length_cons]; omega)
    have S3 := Lib.hid (S2.out.alloc #[.int .i64 p, .int .i64 stamp, .int .i64 stamp] 114)
    have HI := Lib.hid (ins_debt (lst d p).length HM.out (by omega) (by intro u hu; simp at hu; rcases hu with rfl | rfl <;> rfl) (dbs_one _) S3.out)
    generalize dbs (lst d n) = xs at *
    generalize (lst d n).length = m at *
    generalize (lst d p).length = i at *
    clear S2
    go_wp2_with fail
    refine HI.out.mono ?_
    rintro e w3 ⟨v', rfl, hX⟩
    obtain ⟨A', c', rfl⟩ := hX.vec.slice
    have S4 := Lib.hid hX
    clear hX HI S3 c3 f3
    obtain ⟨-, -, -, c3, -, f3⟩ := tr_cells (S4.out.has (Has.r (Has.l (has_blk _ _ _))))
    go_wp2_with fail
    go_returns
    rw [HE.out, HL.out]
    exact ⟨_, rfl, S4.out.set (Sets.r (Sets.l (sets_blk g 109 _ 3 _)))⟩
  | some y =>
    have hlt : (lst d p).length < (lst d n).length := lst_lt d p n hp y hd
    obtain ⟨b, rfl⟩ : ∃ b, A = some ⟨b, 0, none⟩ := by
      rcases S2.out.vec.forms with ⟨-, hz⟩ | ⟨g, cap, he, -⟩
      · omega
      · cases he; exact ⟨_, rfl⟩
    have d2 : w2.cell? ⟨b, (lst d p).length * 3 + 2, none⟩ = some (.int .i64 y.un) := S2.out.vec.cell (by rw [dbs_at _ _ y (lst_get d p n hp y hd) 2 (by decide)]; rfl)
    have e2 := S2.out.vec.free ((lst d p).length * 3 + 2)
    by_cases hu : y.un = 0
    · rw [hu] at d2
      have hO : owed d p stamp = put d p (some ⟨p, y.first, stamp⟩) := by unfold owed; rw [hd]; exact if_pos hu
      have HE : Hid (dbs (lst (owed d p stamp) n) = (dbs (lst d n)).set ((lst d p).length * 3 + 2) (.int .i64 stamp)) := Lib.hid (by
        have hyp := ho p y hd
        rw [hO, put_some hp, lst_some hp hd, dbs_set _ _ y 2 (by decide), dbs_app]
        subst hyp
        rfl)
      have HL : Hid ((lst (owed d p stamp) n).length = (lst d n).length) := Lib.hid (by rw [hO, put_some hp, lst_some hp hd]; simp)
      have HK := Lib.hid hlt
      clear hO
      generalize dbs (lst d n) = xs at *
      generalize (lst d n).length = m at *
      generalize (lst d p).length = i at *
      go_wp2_with fail
      go_returns
      rw [HE.out, HL.out]
      exact ⟨_, rfl, S2.out.set (Sets.l (sets_vec _ _ _ _ _ _ _ (by have := HK.out; omega) _))⟩
    · have hO : owed d p stamp = d := by unfold owed; rw [hd]; exact if_neg hu
      have hub : ((y.un : Int) == 0) = false := by simpa using hu
      have hui : ¬ ((y.un : Int) = 0) := by omega
      have HO := Lib.hid hO
      clear hO
      go_wp2_with fail
      go_returns
      rw [HO.out]
      exact ⟨_, rfl, S2.out⟩
end Go.Proofs.YtapdpdhibpblgaaGreatDoor.Tr
end
