/- Small theorems of no program: a slice that is cut at its head and grows at its end (a queue), owned. -/
import Derived.Test.YtbcemognghkmcaaSep
namespace Go.Proofs.Ytbcemognghkmcaa.Aid
open Go.ChangeShapes Go.WideShapes Go.ChangeAt Go.RowKit Go.PlainAid
set_option linter.unusedVariables false
/-- A slice of cells of the type e, somewhere in a block of its own. -/
def Que (w : World) (e : TypeId) (v : Value) (xs : List Value) : Prop :=
  (v = .slice none 0 0 ∧ xs = []) ∨ ∃ g off cap cur, v = .slice (some ⟨g, off, none⟩) xs.length cap ∧ w.heap[g]? = some (.cells cur e (0, 0)) ∧ xs.length ≤ cap ∧ cap ≤ maxLen ∧ off + cap ≤ cur.size ∧ (cur.toList.drop off).take xs.length = xs
def QB (v : Value) (k : Nat) : Prop := match v with
  | .slice (some a) _ _ => k = a.block
  | _ => False
section
variable {w w' : World} {e : TypeId} {v : Value} {xs : List Value}
theorem Que.lt (h : Que w e v xs) {k : Nat} (hk : QB v k) : k < w.heap.size := by
  rcases h with ⟨rfl, -⟩ | ⟨g, off, cap, cur, rfl, hg, -⟩
  · cases hk
  · obtain rfl : k = g := hk
    exact (Array.getElem?_eq_some_iff.1 hg).1
theorem Que.keep {S : Nat → Prop} (h : Que w e v xs) (hc : Chg S w w') (hS : ∀ k, QB v k → ¬ S k) : Que w' e v xs := by
  rcases h with h | ⟨g, off, cap, cur, rfl, hg, r⟩
  · exact Or.inl h
  · exact Or.inr ⟨g, off, cap, cur, rfl, by rw [hc.block g (Array.getElem?_eq_some_iff.1 hg).1 (hS g rfl)]; exact hg, r⟩
theorem Que.cell {g off n cap : Nat} (h : Que w e (.slice (some ⟨g, off, none⟩) n cap) xs) {j : Nat} {u : Value} (hj : xs[j]? = some u) : w.cell? ⟨g, off + j, none⟩ = some u := by
  rcases h with ⟨h, -⟩ | ⟨g, off, cap, cur, he, hg, h1, h2, h3, h4⟩
  · cases h
  · cases he
    have hjl : j < xs.length := (List.getElem?_eq_some_iff.1 hj).1
    have : (cur.toList.drop off)[j]? = some u := by
      rw [← h4] at hj
      rw [List.getElem?_take_of_lt hjl] at hj
      exact hj
    rw [List.getElem?_drop, Array.getElem?_toList] at this
    simp [World.cell?, hg, this]
theorem Que.len {A : Option Addr} {n cap : Nat} (h : Que w e (.slice A n cap) xs) : n = xs.length ∧ n ≤ cap ∧ cap ≤ maxLen := by
  rcases h with ⟨h, rfl⟩ | ⟨g, off, cap, cur, he, hg, h1, h2, h3, h4⟩
  · cases h; exact ⟨rfl, Nat.le_refl _, Nat.zero_le _⟩
  · cases he; exact ⟨rfl, h1, h2⟩
theorem Que.slice (h : Que w e v xs) : ∃ A c, v = .slice A xs.length c := by
  rcases h with ⟨rfl, rfl⟩ | ⟨g, off, cap, cur, rfl, -⟩
  · exact ⟨none, 0, rfl⟩
  · exact ⟨_, _, rfl⟩
theorem Que.at0 (h : Que w e v xs) (hn : 0 < xs.length) : ∃ g off c, v = .slice (some ⟨g, off, none⟩) xs.length c := by
  rcases h with ⟨rfl, rfl⟩ | ⟨g, off, cap, cur, rfl, -⟩
  · cases hn
  · exact ⟨_, _, _, rfl⟩
/-- Cut at its head. -/
theorem Que.tail {g off n cap : Nat} {x : Value} (h : Que w e (.slice (some ⟨g, off, none⟩) n cap) (x :: xs)) : Que w e (.slice (some ⟨g, off + 1, none⟩) xs.length (cap - 1)) xs := by
  rcases h with ⟨h, -⟩ | ⟨g, off, cap, cur, he, hg, h1, h2, h3, h4⟩
  · cases h
  · cases he
    rw [List.length_cons] at h1
    refine Or.inr ⟨g, off + 1, cap - 1, cur, rfl, hg, by omega, by omega, by omega, ?_⟩
    rw [List.length_cons] at h4
    have hc : (cur.toList.drop off) = x :: cur.toList.drop (off + 1) := by
      cases hd : cur.toList.drop off with
      | nil => rw [hd] at h4; simp at h4
      | cons y r =>
        rw [hd, List.take_succ_cons] at h4
        obtain ⟨e1, e2⟩ := List.cons.inj h4
        have : cur.toList.drop (off + 1) = r := by
          rw [← List.drop_drop, hd]; rfl
        rw [e1, this]
    rw [hc, List.take_succ_cons] at h4
    exact (List.cons.inj h4).2
/-- Cut at its head, as the program cuts it: the last cell's place stays. -/
theorem Que.tail2 {g off n cap : Nat} {x : Value} (h : Que w e (.slice (some ⟨g, off, none⟩) n cap) (x :: xs)) : Que w e (.slice (if cap = 1 then some ⟨g, off, none⟩ else some ⟨g, off + 1, none⟩) xs.length (cap - 1)) xs := by
  by_cases hc : cap = 1
  · rw [if_pos hc]
    rcases h with ⟨h, -⟩ | ⟨g, off, cap, cur, he, hg, h1, h2, h3, h4⟩
    · cases h
    · cases he
      subst hc
      have hx : xs = [] := by
        cases xs with
        | nil => rfl
        | cons a l => simp at h1
      subst hx
      exact Or.inr ⟨g, off, 0, cur, rfl, hg, by simp, by simp, by omega, by simp⟩
  · rw [if_neg hc]
    exact h.tail
theorem run_append_que {P : Program} (w : World) (t tx ty e : TypeId) (i : TypeInfo) (z : Value) (ht : P.underlying t = some (.slice e)) (hi : P.info? e = some i) (hz : i.zero = some z) (hzs : z.cells.size = i.size) (hsz : i.size = 1)
    (v : Value) (xs : List Value) (hown : Que w e v xs) (x : Value) (u : Value) (hs : Src P i.size tx x 1 [u] w)
    (h63 : xs.length + 1 ≤ maxLen) (hbytes : (xs.length + 1) * i.bytes ≤ 140737488355328) :
    ∃ v' w', (Builtin.append_ #[t, tx] ty #[v, x]).run P w = .ok v' w' ∧ Que w' e v' (xs ++ [u]) ∧ Chg (QB v) w w' ∧ Fresh w (QB v) (QB v') := by
  have hsmall : xs.length + 1 ≤ 9223372036854775807 := by simp only [maxLen] at h63; omega
  have hlen : (xs ++ [u]).length = xs.length + 1 := by simp
  have hs1 : Src P 1 tx x 1 [u] w := hsz ▸ hs
  have grown : ∀ (old : Nat), old < xs.length + 1 →
      Que (w.drew.alloc (.cells ((xs ++ [u]).toArray ++ Builtin.zeroCells z.cells (grownCap w (xs.length + 1) old e - (xs.length + 1))) e)) e
        (.slice (some ⟨w.heap.size, 0, none⟩) (xs.length + 1) (grownCap w (xs.length + 1) old e)) (xs ++ [u]) ∧
      Chg (QB v) w (w.drew.alloc (.cells ((xs ++ [u]).toArray ++ Builtin.zeroCells z.cells (grownCap w (xs.length + 1) old e - (xs.length + 1))) e)) := by
    intro old ho
    have hge := grownCap_ge w (xs.length + 1) old e
    have hcm : grownCap w (xs.length + 1) old e ≤ maxLen := grownCap_le_maxLen w (xs.length + 1) old e h63
    refine ⟨.inr ⟨w.heap.size, 0, grownCap w (xs.length + 1) old e, _, by rw [hlen], heap_alloc_new w.drew _, by rw [hlen]; exact hge, hcm, ?_, ?_⟩, ⟨rfl, rfl, rfl, by simp, fun k hk _ => Below.heap_alloc w.drew _ _ hk⟩⟩
    · simp only [Array.size_append, List.size_toArray, size_zeroCells, hzs, hlen, hsz]
      omega
    · simp only [Array.toList_append, List.drop_zero]
      exact List.take_left
  rcases hown with ⟨rfl, rfl⟩ | ⟨g, off, cap, cur, rfl, hg, hnc, hcm, hcs, htake⟩
  · have hr := run_append_grow_src (P := P) w t tx ty e i z ht hi hz none 0 0 [] (run_firstCells_none w.drew i.size 0 0 0) x 1 [u] hs (by omega) (by omega) (growslice_fits (by omega) hbytes)
    have hgr := grown 0 (by omega)
    exact ⟨_, _, hr, hgr.1, hgr.2, fun k hk => Or.inr (by have : k = w.heap.size := hk; omega)⟩
  · by_cases hroom : xs.length + 1 ≤ cap
    · have hfit : off + xs.length + [u].length ≤ cur.size := by simp; omega
      have hst := run_storeCells_at P g (off + xs.length) e [u] 0 cur w hg (by simpa using hfit) hs.one
      simp only [Nat.add_zero] at hst
      refine ⟨.slice (some ⟨g, off, none⟩) (xs.length + 1) cap, w.setRow g (cur.toList.take (off + xs.length) ++ [u] ++ cur.toList.drop (off + xs.length + [u].length)).toArray, ?_, .inr ⟨g, off, cap, _, by rw [hlen], setRow_heap w g cur _ e _ hg, by rw [hlen]; exact hroom, hcm, ?_, ?_⟩, ⟨rfl, rfl, rfl, by simp, fun k _ hk => setRow_other w g k _ (fun e => hk e)⟩, fun k hk => Or.inl hk⟩
      · rcases hs.kind with ⟨e', hk⟩ | hk <;> simp [Builtin.append_, run_underlying ht, run_underlying hk, sizeOf, typeInfo, hi, hs1.len, hroom, hs1.cells, Addr.add_lit, hst, hsz]
      · simp only [List.size_toArray, List.length_append, List.length_take, List.length_drop, Array.length_toList, List.length_cons, List.length_nil]
        omega
      · show (((cur.toList.take (off + xs.length) ++ [u]) ++ cur.toList.drop (off + xs.length + [u].length)).drop off).take (xs ++ [u]).length = _
        rw [hlen]
        have h1 : (cur.toList.take (off + xs.length)).length = off + xs.length := by
          have hcl : cur.toList.length = cur.size := Array.length_toList
          rw [List.length_take, hcl]; omega
        have h2 : (cur.toList.take (off + xs.length)).drop off = xs := by
          rw [List.drop_take, show off + xs.length - off = xs.length by omega]
          exact htake
        rw [List.append_assoc, List.drop_append_of_le_length (show off ≤ (cur.toList.take (off + xs.length)).length by omega), h2, ← List.append_assoc, ← hlen]
        exact List.take_left
    · have holds : ∀ j u, xs[j]? = some u → w.drew.cell? ((⟨g, off, none⟩ : Addr).add j) = some u := fun j u hu => by
        rw [Addr.add_lit]
        exact Que.cell (w := w.drew) (Or.inr ⟨g, off, cap, cur, rfl, hg, hnc, hcm, hcs, htake⟩) hu
      have hr := run_append_grow_src (P := P) w t tx ty e i z ht hi hz (some ⟨g, off, none⟩) xs.length cap xs (run_firstCells_some w.drew i.size xs.length _ xs.length cap xs (by rw [hsz]; omega) holds) x 1 [u] hs (by omega) (by omega) (growslice_fits (by omega) hbytes)
      have hgr := grown cap (by omega)
      exact ⟨_, _, hr, hgr.1, hgr.2, fun k hk => Or.inr (by have : k = w.heap.size := hk; omega)⟩
/-- append(s, x): s a queue. -/
theorem wpList_append_que {P : Program} {ops : Array Oper} {rest : List Oper} {o : Oper} {a : Act} {Q : Exit → Act → World → Prop} {w : World} (hgd : o.guard = none) (s x : Operand) (t tx : TypeId)
    (ho : o.op = .call { callee := .builtin .append, args := #[s, x], argTypes := #[t, tx] })
    (e : TypeId) (z : Value) (bytes : Nat) (ht : P.underlying t = some (.slice e)) (hinfo : (P.info? e).map (fun i => (i.zero, i.size, i.bytes)) = some (some z, 1, bytes)) (hzs : z.cells.size = 1)
    (v : Value) (xs : List Value) (hs : a.eval s = v) (hown : Que w e v xs) (xv : Value) (hx : a.eval x = xv) (u : Value) (hsrc : Src P 1 tx xv 1 [u] w)
    (h63 : xs.length + 1 ≤ maxLen) (hbytes : (xs.length + 1) * bytes ≤ 140737488355328)
    (h : ∀ v' w', Que w' e v' (xs ++ [u]) → Chg (QB v) w w' → Fresh w (QB v) (QB v') → wpList P ops Q rest (a.put o.dst v') w') : wpList P ops Q (o :: rest) a w := by
  obtain ⟨i, hi, hzz⟩ := Option.map_eq_some_iff.1 hinfo
  simp only [Prod.mk.injEq] at hzz
  obtain ⟨hz, h1, rfl⟩ := hzz
  refine wpList_plain hgd fun K hK => ?_
  obtain ⟨v', w', hr, h2, h3, h4⟩ := run_append_que (P := P) w t tx o.type e i z ht hi hz (by rw [hzs, h1]) h1 v xs hown xv u (by rw [h1]; exact hsrc) h63 hbytes
  unfold Oper.wp execOp
  simp only [ho, resolve, invoke, builtin, Sem.run_bind, Sem.run_pure, Result.andThen_ok, List.map_toArray, List.map_cons, List.map_nil, hs, hx, hr]
  exact hK _ _ (h v' w' h2 h3 h4)
end
def Asn.que (e : TypeId) (v : Value) (xs : List Value) : Asn :=
  ⟨fun w O => Que w e v xs ∧ ∀ k, O k ↔ QB v k, fun _ _ h k hk => h.1.lt ((h.2 k).1 hk), fun _ _ _ _ h hc hS => ⟨h.1.keep hc (fun k hk => hS k ((h.2 k).2 hk)), h.2⟩⟩
section
variable {w0 w w' : World} {O0 : Nat → Prop} {C : Asn} {e : TypeId} {v v' : Value} {xs xs' : List Value}
theorem Own.que (h : Own w0 O0 w (Asn.que e v xs * C)) : Que w e v xs := by
  obtain ⟨O, ⟨X, Y, hV, -⟩, -⟩ := h.ex
  exact hV.1
theorem Own.qapp (h : Own w0 O0 w (Asn.que e v xs * C)) (hv : Que w' e v' xs') (hc : Chg (QB v) w w') (hf : Fresh w (QB v) (QB v')) : Own w0 O0 w' (Asn.que e v' xs' * C) := by
  refine h.then fun O hO => ?_
  obtain ⟨X, Y, ⟨hV, hX⟩, hC, hd, hO⟩ := hO
  have : Own w X w' (Asn.que e v' xs') := ⟨⟨QB v', ⟨hv, fun _ => Iff.rfl⟩, fun k hk => (hf k hk).imp_left (hX k).2⟩, hc.mono (fun k _ hk => (hX k).2 hk)⟩
  exact this.frame hC hd hO
theorem que_of_blk {g : Nat} {cs : List Value} (hn : cs.length ≤ maxLen) : Imp (Asn.blk g e cs.toArray) (Asn.que e (.slice (some ⟨g, 0, none⟩) cs.length cs.length) cs) := fun w O h =>
  ⟨Or.inr ⟨g, 0, cs.length, cs.toArray, rfl, h.1, Nat.le_refl _, hn, by simp, by simp⟩, fun k => h.2 k⟩
theorem Own.qtail {g off n cap : Nat} {x : Value} (h : Own w0 O0 w (Asn.que e (.slice (some ⟨g, off, Option.none⟩) n cap) (x :: xs) * C)) : Own w0 O0 w (Asn.que e (.slice (some ⟨g, off + 1, Option.none⟩) xs.length (cap - 1)) xs * C) :=
  h.imp (Imp.l fun w O hq => ⟨hq.1.tail, hq.2⟩)
theorem Own.qtail2 {g off n cap : Nat} {x : Value} (h : Own w0 O0 w (Asn.que e (.slice (some ⟨g, off, Option.none⟩) n cap) (x :: xs) * C)) : Own w0 O0 w (Asn.que e (.slice (if cap = 1 then some ⟨g, off, Option.none⟩ else some ⟨g, off + 1, Option.none⟩) xs.length (cap - 1)) xs * C) :=
  h.imp (Imp.l fun w O hq => ⟨hq.1.tail2, by
    intro k
    refine (hq.2 k).trans ?_
    split <;> exact Iff.rfl⟩)
end
end Go.Proofs.Ytbcemognghkmcaa.Aid
