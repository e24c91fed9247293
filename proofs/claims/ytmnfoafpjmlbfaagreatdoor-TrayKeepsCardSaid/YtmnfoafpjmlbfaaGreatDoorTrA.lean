/- Texts of ours, joined. -/
import Derived.Test.YtmnfoafpjmlbfaaGreatDoorTrB
import Derived.Test.YtmnfoafpjmlbfaaGreatDoorTrL
import Derived.Test.YtmnfoafpjmlbfaaGreatDoorTrI
import Derived.Test.YtmnfoafpjmlbfaaGreatDoorDyE

-- joined
section
namespace Go.Proofs.YtmnfoafpjmlbfaaGreatDoor.Tr
open Go.ChangeShapes Go.WideShapes Go.ChangeAt Go.RowKit Go.PlainAid Aid Nt Nd
set_option linter.unusedVariables false
set_option linter.unusedSimpArgs false
/-- The lists of the pages at hand, each its own. -/
def aNs (H : List Sh) : Asn :=
  ⟨fun w O => (∀ x, x ∈ H → Vec w 84 3 x.v x.n.list.length (cells3 x.n.list) ∧ ∀ k, VB x.v k → O k) ∧ ∀ k, O k → k < w.heap.size,
   fun w O h => h.2,
   fun w w' O S h hc hS => ⟨fun x hx => ⟨(h.1 x hx).1.keep hc (fun k hk => hS k ((h.1 x hx).2 k hk)), (h.1 x hx).2⟩, fun k hk => Nat.lt_of_lt_of_le (h.2 k hk) hc.size⟩⟩
theorem ns_add (H H' : List Sh) (x : Sh) (hs : ∀ y, y ∈ H' → y = x ∨ y ∈ H) : Imp (Asn.vec 84 3 x.v x.n.list.length (cells3 x.n.list) * aNs H) (aNs H') := by
  rintro w O ⟨X, Y, hX, hY, hd, hO⟩
  refine ⟨fun y hy => ?_, fun k hk => ?_⟩
  · rcases hs y hy with rfl | hy
    · exact ⟨hX.1, fun k hk => (hO k).2 (Or.inl ((hX.2 k).2 hk))⟩
    · exact ⟨(hY.1 y hy).1, fun k hk => (hO k).2 (Or.inr ((hY.1 y hy).2 k hk))⟩
  · rcases (hO k).1 hk with h | h
    · exact hX.1.lt ((hX.2 k).1 h)
    · exact hY.2 k h
theorem ns_sub (H H' : List Sh) (hs : ∀ y, y ∈ H' → y ∈ H) : Imp (aNs H) (aNs H') := fun w O h => ⟨fun y hy => h.1 y (hs y hy), h.2⟩
theorem ns_nil {w0 w : World} {O0 : Nat → Prop} {A : Asn} (h : Own w0 O0 w A) : Own w0 O0 w (aNs [] * A) := h.map fun O hO => ⟨O, ⟨fun _ => False, O, ⟨fun x hx => (List.not_mem_nil hx).elim, fun k hk => hk.elim⟩, hO, fun k hk => hk.elim, fun k => by simp⟩, fun _ => id⟩
theorem ns_row {w : World} {O : Nat → Prop} {H : List Sh} (h : (aNs H).P w O) {x : Sh} (hx : x ∈ H) : Row3 w x.v x.n.list := Row3.of_vec (h.1 x hx).1
theorem ns_at {w0 w : World} {O0 : Nat → Prop} {H : List Sh} {C : Asn} (h : Own w0 O0 w (aNs H * C)) {x : Sh} (hx : x ∈ H) : Row3 w x.v x.n.list := by
  obtain ⟨O, ⟨X, Y, hX, -⟩, -⟩ := h.ex
  exact ns_row hX hx
theorem sets_vec (e : TypeId) (size g cap n : Nat) (xs : List Value) (i : Nat) (hi : i < n * size) (u : Value) : Sets (Asn.vec e size (.slice (some ⟨g, 0, none⟩) n cap) n xs) ⟨g, i, none⟩ u (Asn.vec e size (.slice (some ⟨g, 0, none⟩) n cap) n (xs.set i u)) :=
  fun w O h => ⟨⟨h.1.set hi u, h.2⟩, (h.2 g).2 rfl⟩
def tPtr (g : Nat) : Value := .pointer (some ⟨g, 0, none⟩)
def trRow (gd gl : Nat) (hv ov : Value) : Array Value := #[.pointer (some ⟨gd, 0, none⟩), .pointer (some ⟨gl, 0, none⟩), hv, ov]
theorem tr_cells {w : World} {g gd gl : Nat} {hv ov : Value} (h : Blk w g 110 (trRow gd gl hv ov)) :
    w.cell? ⟨g, 0, none⟩ = some (.pointer (some ⟨gd, 0, none⟩)) ∧ w.cell? ⟨g, 1, none⟩ = some (.pointer (some ⟨gl, 0, none⟩)) ∧ w.cell? ⟨g, 2, none⟩ = some hv ∧ w.cell? ⟨g, 3, none⟩ = some ov ∧ w.frozen? ⟨g, 2, none⟩ = false ∧ w.frozen? ⟨g, 3, none⟩ = false :=
  ⟨h.cell 0, h.cell 1, h.cell 2, h.cell 3, h.free 2, h.free 3⟩
/-- A tray in block g over a disk in block gd and a log in block gl: its pages at hand H, its debts D. -/
def aTr (g gd gl : Nat) (hv ov : Value) (H : List Sh) (D : List Db) : Asn :=
  Asn.blk g 110 (trRow gd gl hv ov) * (Asn.vec 99 8 hv H.length (shs H) * (Asn.vec 115 3 ov D.length (dbs D) * aNs H))
section
variable (g gd gl : Nat) (hv ov : Value) (H : List Sh) (D : List Db) (C : Asn)
theorem tr_b : aTr g gd gl hv ov H D * C = Asn.blk g 110 (trRow gd gl hv ov) * (Asn.vec 99 8 hv H.length (shs H) * (Asn.vec 115 3 ov D.length (dbs D) * (aNs H * C))) := by unfold aTr; ac_rfl
theorem tr_s : aTr g gd gl hv ov H D * C = Asn.vec 99 8 hv H.length (shs H) * (Asn.blk g 110 (trRow gd gl hv ov) * (Asn.vec 115 3 ov D.length (dbs D) * (aNs H * C))) := by unfold aTr; ac_rfl
theorem tr_d : aTr g gd gl hv ov H D * C = Asn.vec 115 3 ov D.length (dbs D) * (Asn.blk g 110 (trRow gd gl hv ov) * (Asn.vec 99 8 hv H.length (shs H) * (aNs H * C))) := by unfold aTr; ac_rfl
end
def OkD (d : Nat → Option Db) : Prop := ∀ p x, d p = some x → x.page = p
def OkS (h : Nat → Option Sh) : Prop := ∀ p x, h p = some x → x.page = p
theorem OkD.put {d : Nat → Option Db} (h : OkD d) (p : Nat) (y : Option Db) (hy : ∀ x, y = some x → x.page = p) : OkD (Tr.put d p y) := fun k x hx => by
  unfold Tr.put at hx
  split at hx
  · subst k; exact hy x hx
  · exact h k x hx
theorem OkS.put {d : Nat → Option Sh} (h : OkS d) (p : Nat) (y : Option Sh) (hy : ∀ x, y = some x → x.page = p) : OkS (Tr.put d p y) := fun k x hx => by
  unfold Tr.put at hx
  split at hx
  · subst k; exact hy x hx
  · exact h k x hx
/-- What is owed once a page lacks a stamp. -/
def owed (d : Nat → Option Db) (p stamp : Nat) : Nat → Option Db :=
  match d p with
  | none => put d p (some ⟨p, stamp, stamp⟩)
  | some y => if y.un = 0 then put d p (some ⟨p, y.first, stamp⟩) else d
theorem owed_ok {d : Nat → Option Db} (h : OkD d) (p stamp : Nat) : OkD (owed d p stamp) := by
  unfold owed
  split
  · exact h.put _ _ fun x hx => by cases hx; rfl
  · split
    · exact h.put _ _ fun x hx => by cases hx; rfl
    · exact h
theorem dbs_app (A B : List Db) : dbs (A ++ B) = dbs A ++ dbs B := List.flatMap_append ..
theorem dbs_len (A : List Db) : (dbs A).length = A.length * 3 := by
  induction A with
  | nil => rfl
  | cons a A ih => rw [show a :: A = [a] ++ A from rfl, dbs_app, List.length_append, ih, List.length_append]; show 3 + _ = (1 + _) * 3; omega
theorem dbs_one (A : List Db) : ∀ v, v ∈ dbs A → v.oneCell' = true := by
  intro v hv
  obtain ⟨x, -, hx⟩ := List.mem_flatMap.1 hv
  simp only [dbC, List.mem_cons, List.not_mem_nil, or_false] at hx
  rcases hx with rfl | rfl | rfl <;> rfl
theorem dbs_ins (A B : List Db) (x : Db) : (dbs (A ++ B)).take (A.length * 3) ++ dbC x ++ (dbs (A ++ B)).drop (A.length * 3) = dbs (A ++ (x :: B)) := by
  rw [dbs_app, ← dbs_len A, List.take_left, List.drop_left, dbs_app, show x :: B = [x] ++ B from rfl, dbs_app, show dbs [x] = dbC x from List.append_nil _, List.append_assoc]
theorem dbs_set (A B : List Db) (x : Db) (j : Nat) (hj : j < 3) (u : Value) : (dbs (A ++ (x :: B))).set (A.length * 3 + j) u = dbs A ++ ((dbC x).set j u ++ dbs B) := by
  rw [dbs_app, List.set_append_right _ _ (by rw [dbs_len]; omega), dbs_len, show A.length * 3 + j - A.length * 3 = j by omega, show x :: B = [x] ++ B from rfl, dbs_app, show dbs [x] = dbC x from List.append_nil _, List.set_append_left _ _ hj]
theorem shs_app (A B : List Sh) : shs (A ++ B) = shs A ++ shs B := List.flatMap_append ..
theorem shs_len (A : List Sh) : (shs A).length = A.length * 8 := by
  induction A with
  | nil => rfl
  | cons a A ih => rw [show a :: A = [a] ++ A from rfl, shs_app, List.length_append, ih, List.length_append]; show 8 + _ = (1 + _) * 8; omega
theorem shs_ins (A B : List Sh) (x : Sh) : (shs (A ++ B)).take (A.length * 8) ++ shC x ++ (shs (A ++ B)).drop (A.length * 8) = shs (A ++ (x :: B)) := by
  rw [shs_app, ← shs_len A, List.take_left, List.drop_left, shs_app, show x :: B = [x] ++ B from rfl, shs_app, show shs [x] = shC x from List.append_nil _, List.append_assoc]
theorem shs_cut (A B : List Sh) (x : Sh) : (shs (A ++ (x :: B))).take (A.length * 8) ++ (shs (A ++ (x :: B))).drop ((A.length + 1) * 8) = shs (A ++ B) := by
  have e : shs (A ++ (x :: B)) = shs (A ++ [x]) ++ shs B := by rw [← shs_app, List.append_assoc]; rfl
  have l : (A.length + 1) * 8 = (shs (A ++ [x])).length := by rw [shs_len, List.length_append]; rfl
  rw [e, l, List.drop_left, shs_app, List.append_assoc, ← shs_len A, List.take_left, shs_app]
section
variable {n : Nat}
theorem place_d {d : Nat → Option Db} (ho : OkD d) (hn : n ≤ 256) (p : Nat) (hp : p < n) (v : Value) (w : World) (hv : Vec w 115 3 v (lst d n).length (dbs (lst d n))) :
    Calls Tryz.prog 86 #[v, .int .i64 p, num_debt] w fun e w' => e = .returned (.tuple #[.int .i64 ((lst d p).length : Nat), .bool (d p).isSome]) ∧ Below w.heap.size w w' := by
  have hl := lst_le d n
  have h := place_debt v (lst d n) (p : Int) w hv (by omega) (lst_rise (pg := Db.page) ho n)
  rw [spot_lst (pg := Db.page) ho p n hp] at h
  unfold pgD at h
  rw [found_lst (pg := Db.page) ho p n hp] at h
  exact h
theorem place_s {h : Nat → Option Sh} (ho : OkS h) (hn : n ≤ 256) (p : Nat) (hp : p < n) (v : Value) (w : World) (hv : Vec w 99 8 v (lst h n).length (shs (lst h n))) :
    Calls Tryz.prog 44 #[v, .int .i64 p, num_sheet] w fun e w' => e = .returned (.tuple #[.int .i64 ((lst h p).length : Nat), .bool (h p).isSome]) ∧ Below w.heap.size w w' := by
  have hl := lst_le h n
  have h := place_sheet v (lst h n) (p : Int) w hv (by omega) (lst_rise (pg := Sh.page) ho n)
  rw [spot_lst (pg := Sh.page) ho p n hp] at h
  unfold pgS at h
  rw [found_lst (pg := Sh.page) ho p n hp] at h
  exact h
theorem place_no {h : Nat → Option Sh} (ho : OkS h) (hn : n ≤ 256) (x : Int) (hx : x < 0 ∨ (n : Int) ≤ x) (v : Value) (w : World) (hv : Vec w 99 8 v (lst h n).length (shs (lst h n))) :
    Calls Tryz.prog 44 #[v, .int .i64 x, num_sheet] w fun e w' => ∃ i : Nat, e = .returned (.tuple #[.int .i64 i, .bool false]) ∧ Below w.heap.size w w' := by
  have hl := lst_le h n
  have h := place_sheet v (lst h n) x w hv (by omega) (lst_rise (pg := Sh.page) ho n)
  unfold pgS at h
  rw [found_out (pg := Sh.page) ho x n hx] at h
  exact h.mono fun e w' ⟨he, hb⟩ => ⟨_, he, hb⟩
end
theorem ins_debt {w0 w : World} {O0 : Nat → Prop} {n vb : Nat} {xs : List Value} {T : TypeId} {a b c v : Value} {C : Asn} (i : Nat) (hi : i ≤ n) (hn : n ≤ 256) (h1 : ∀ u, u ∈ [a, b, c] → u.oneCell' = true) (hx1 : ∀ v, v ∈ xs → v.oneCell' = true)
    (hS : Own w0 O0 w (Asn.blk vb T #[a, b, c] * (Asn.vec 115 3 v n xs * C))) :
    Calls Tryz.prog 123 #[v, .int .i64 i, .slice (some ⟨vb, 0, none⟩) 1 1] w fun e w' => ∃ v', e = .returned v' ∧ Own w0 O0 w' (Asn.vec 115 3 v' (n + 1) (xs.take (i * 3) ++ [a, b, c] ++ xs.drop (i * 3)) * C) := by
  have hb := hS.has (Has.l (has_blk _ _ _))
  have hne : ¬ VB v vb := fun e => hS.ne (mem_blk _ _ _) (Mem.l (fun _ _ h => (h.2 vb).2 e)) rfl
  refine (insert_debt n i vb xs [a, b, c] T w v hi (by omega) hS.right.vec hb rfl h1 hx1 hne).mono ?_
  rintro e w' ⟨v', rfl, k1, k2, k3⟩
  exact ⟨v', rfl, hS.right.app k1 k2 k3⟩
theorem ins_sheet {w0 w : World} {O0 : Nat → Prop} {n vb : Nat} {xs ys : List Value} {T : TypeId} {cs : Array Value} {v : Value} {C : Asn} (i : Nat) (hi : i ≤ n) (hn : n ≤ 256) (hcs : cs = ys.toArray) (hy : ys.length = 8) (h1 : ∀ u, u ∈ ys → u.oneCell' = true) (hx1 : ∀ v, v ∈ xs → v.oneCell' = true)
    (hS : Own w0 O0 w (Asn.blk vb T cs * (Asn.vec 99 8 v n xs * C))) :
    Calls Tryz.prog 52 #[v, .int .i64 i, .slice (some ⟨vb, 0, none⟩) 1 1] w fun e w' => ∃ v', e = .returned v' ∧ Own w0 O0 w' (Asn.vec 99 8 v' (n + 1) (xs.take (i * 8) ++ ys ++ xs.drop (i * 8)) * C) := by
  subst hcs
  have hb := hS.has (Has.l (has_blk _ _ _))
  have hne : ¬ VB v vb := fun e => hS.ne (mem_blk _ _ _) (Mem.l (fun _ _ h => (h.2 vb).2 e)) rfl
  refine (insert_sheet n i vb xs ys T w v hi (by omega) hS.right.vec hb hy h1 hx1 hne).mono ?_
  rintro e w' ⟨v', rfl, k1, k2, k3⟩
  exact ⟨v', rfl, hS.right.app k1 k2 k3⟩
end Go.Proofs.YtmnfoafpjmlbfaaGreatDoor.Tr
end

-- joined
section
namespace Go.Proofs.YtmnfoafpjmlbfaaGreatDoor.Tr
open Go.ChangeShapes Go.WideShapes Go.ChangeAt Go.RowKit Go.PlainAid Aid Nt Nd
set_option linter.unusedVariables false
set_option linter.unusedSimpArgs false
theorem lst_some {α : Type} {d : Nat → Option α} {p n : Nat} (hp : p < n) {y : α} (hy : d p = some y) : lst d n = lst d p ++ (y :: rst d (p + 1) n) := by rw [lst_split d p n hp, hy]; rfl
theorem lst_none {α : Type} {d : Nat → Option α} {p n : Nat} (hp : p < n) (hy : d p = none) : lst d n = lst d p ++ rst d (p + 1) n := by rw [lst_split d p n hp, hy]; rfl
theorem put_some {α : Type} {d : Nat → Option α} {p n : Nat} (hp : p < n) (y : α) : lst (put d p (some y)) n = lst d p ++ (y :: rst d (p + 1) n) := lst_put d p n hp (some y)
theorem put_none {α : Type} {d : Nat → Option α} {p n : Nat} (hp : p < n) : lst (put d p none) n = lst d p ++ rst d (p + 1) n := lst_put d p n hp none
set_option maxRecDepth 100000 in
set_option maxHeartbeats 2000000 in
theorem owe_any (n g gd gl : Nat) (hn : n ≤ 256) (hv ov : Value) (d : Nat → Option Db) (ho : OkD d) (p stamp : Nat) (hp : p < n) (w0 w : World) (C : Asn)
    (hS : Own w0 No w (Asn.vec 115 3 ov (lst d n).length (dbs (lst d n)) * (Asn.blk g 110 (trRow gd gl hv ov) * C))) :
    Calls Tryz.prog 82 #[tPtr g, .int .i64 p, .int .i64 stamp] w fun e w' => ∃ ov', e = .returned (.tuple #[]) ∧
      Own w0 No w' (Asn.vec 115 3 ov' (lst (owed d p stamp) n).length (dbs (lst (owed d p stamp) n)) * (Asn.blk g 110 (trRow gd gl hv ov') * C)) := by
  have S := Lib.hid hS
  have HP := Lib.hid (fun w h => place_d ho hn p hp ov w h)
  have hl := lst_le d n
  obtain ⟨A, c, rfl⟩ := hS.vec.slice
  obtain ⟨-, -, -, c3, -, f3⟩ := tr_cells (S.out.has (Has.r (Has.l (has_blk _ _ _))))
  clear hS
  unfold tPtr num_debt at *
  go_enter Tryz.func82, Tryz.ntmps82
  go_wp2_with fail
  refine (HP.out _ S.out.vec).mono ?_
  rintro e w2 ⟨rfl, hX⟩
  have S2 := Lib.hid (S.out.below hX)
  clear hX S HP c3 f3
  obtain ⟨-, -, -, c3, -, f3⟩ := tr_cells (S2.out.has (Has.r (Has.l (has_blk _ _ _))))
  have HM : Hid ((lst d p).length ≤ (lst d n).length) := Lib.hid (lst_mono d p n (by omega))
  cases hd : d p with
  | none =>
    have HE : Hid (dbs (lst (owed d p stamp) n) = (dbs (lst d n)).take ((lst d p).length * 3) ++ [.int .i64 p, .int .i64 stamp, .int .i64 stamp] ++ (dbs (lst d n)).drop ((lst d p).length * 3)) := Lib.hid (by
      have hO : owed d p stamp = put d p (some ⟨p, stamp, stamp⟩) := by unfold owed; rw [hd]
      have := dbs_ins (lst d p) (rst d (p + 1) n) ⟨p, stamp, stamp⟩
      rw [hO, put_some hp, lst_none hp hd]
      exact this.symm)
    have HL : Hid ((lst (owed d p stamp) n).length = (lst d n).length + 1) := Lib.hid (by
      have hO : owed d p stamp = put d p (some ⟨p, stamp, stamp⟩) := by unfold owed; rw [hd]
      rw [hO, put_some hp, lst_none hp hd, List.length_append, List.length_append, List.length_cons]; omega)
    have S3 := Lib.hid (S2.out.alloc #[.int .i64 p, .int .i64 stamp, .int .i64 stamp] 115)
    have HI := Lib.hid (ins_debt (lst d p).length HM.out (by omega) (by intro u hu; simp at hu; rcases hu with rfl | rfl <;> rfl) (dbs_one _) S3.out)
    generalize dbs (lst d n) = xs at *
    generalize (lst d n).length = m at *
    generalize (lst d p).length = i at *
    clear S2
    go_wp2_with fail
    refine HI.out.mono ?_
    rintro e w3 ⟨v', rfl, hX⟩
    obtain ⟨A', c', rfl⟩ := hX.vec.slice
    have S4 := Lib.hid hX
    clear hX HI S3 c3 f3
    obtain ⟨-, -, -, c3, -, f3⟩ := tr_cells (S4.out.has (Has.r (Has.l (has_blk _ _ _))))
    go_wp2_with fail
    go_returns
    rw [HE.out, HL.out]
    exact ⟨_, rfl, S4.out.set (Sets.r (Sets.l (sets_blk g 110 _ 3 _)))⟩
  | some y =>
    have hlt : (lst d p).length < (lst d n).length := lst_lt d p n hp y hd
    obtain ⟨b, rfl⟩ : ∃ b, A = some ⟨b, 0, none⟩ := by
      rcases S2.out.vec.forms with ⟨-, hz⟩ | ⟨g, cap, he, -⟩
      · omega
      · cases he; exact ⟨_, rfl⟩
    have d2 : w2.cell? ⟨b, (lst d p).length * 3 + 2, none⟩ = some (.int .i64 y.un) := S2.out.vec.cell (by rw [dbs_at _ _ y (lst_get d p n hp y hd) 2 (by decide)]; rfl)
    have e2 := S2.out.vec.free ((lst d p).length * 3 + 2)
    by_cases hu : y.un = 0
    · rw [hu] at d2
      have hO : owed d p stamp = put d p (some ⟨p, y.first, stamp⟩) := by unfold owed; rw [hd]; exact if_pos hu
      have HE : Hid (dbs (lst (owed d p stamp) n) = (dbs (lst d n)).set ((lst d p).length * 3 + 2) (.int .i64 stamp)) := Lib.hid (by
        have hyp := ho p y hd
        rw [hO, put_some hp, lst_some hp hd, dbs_set _ _ y 2 (by decide), dbs_app]
        subst hyp
        rfl)
      have HL : Hid ((lst (owed d p stamp) n).length = (lst d n).length) := Lib.hid (by rw [hO, put_some hp, lst_some hp hd]; simp)
      have HK := Lib.hid hlt
      clear hO
      generalize dbs (lst d n) = xs at *
      generalize (lst d n).length = m at *
      generalize (lst d p).length = i at *
      go_wp2_with fail
      go_returns
      rw [HE.out, HL.out]
      exact ⟨_, rfl, S2.out.set (Sets.l (sets_vec _ _ _ _ _ _ _ (by have := HK.out; omega) _))⟩
    · have hO : owed d p stamp = d := by unfold owed; rw [hd]; exact if_neg hu
      have hub : ((y.un : Int) == 0) = false := by simpa using hu
      have hui : ¬ ((y.un : Int) = 0) := by omega
      have HO := Lib.hid hO
      clear hO
      go_wp2_with fail
      go_returns
      rw [HO.out]
      exact ⟨_, rfl, S2.out⟩
end Go.Proofs.YtmnfoafpjmlbfaaGreatDoor.Tr
end
