/- The document's tray. -/
import Derived.Test.YtapdpdhibpblgaaGreatDoorTrA
import Derived.Test.YtapdpdhibpblgaaGreatDoorTrZ
import Derived.Deep.RegionLaw
namespace Go.Proofs.YtapdpdhibpblgaaGreatDoor.Tr
open Go.ChangeShapes Go.WideShapes Go.ChangeAt Go.RowKit Go.PlainAid Aid Nt Nd
set_option linter.unusedVariables false
set_option linter.unusedSimpArgs false
set_option linter.unusedSectionVars false
theorem emp_mul (A : Asn) : Asn.emp * A = A := Asn.same fun w O => ⟨fun ⟨X, Y, hX, hA, hd, hO⟩ => by
  have e : Y = O := by
    funext j
    exact propext ⟨fun h => (hO j).2 (Or.inr h), fun h => ((hO j).1 h).elim (fun x => absurd x (hX j)) id⟩
  exact e ▸ hA, fun h => ⟨fun _ => False, O, fun _ => id, h, fun _ h => h.elim, fun _ => by simp⟩⟩
theorem upd_twice {α : Type} (P : Nat → α) (p : Nat) (a b : α) : Sl.upd (Sl.upd P p a) p b = Sl.upd P p b := by
  funext q
  by_cases h : q = p
  · rw [h, Sl.upd_same, Sl.upd_same]
  · rw [Sl.upd_other _ _ _ _ h, Sl.upd_other _ _ _ _ h, Sl.upd_other _ _ _ _ h]
/-- A page as the document has it. -/
structure Rp where
  nd : Nod
  nv : Value
  un : List Nat
  uv : Value
  wr : List Nat
  wv : Value
  held : Bool
def rpCells (r : Rp) : List Value := [.int .i64 r.nd.tree, .int .i64 r.nd.level, .int .i64 r.nd.stamp, .bool r.nd.has, .string (ofL r.nd.high), .int .i64 r.nd.right, r.nv, r.uv, r.wv, .bool r.held]
def rps (k : Nat) (R : Nat → Rp) : List Value := (List.range k).flatMap fun p => rpCells (R p)
def nats (l : List Nat) : List Value := l.map fun (x : Nat) => .int .i64 (x : Int)
theorem nats_len (l : List Nat) : (nats l).length = l.length * 1 := by simp [nats]
theorem nats_app (a b : List Nat) : nats (a ++ b) = nats a ++ nats b := List.map_append
/-- The two rows of stamps of a page. -/
def aP (r : Rp) : Asn := Asn.vec 3 1 r.uv r.un.length (nats r.un) * Asn.vec 3 1 r.wv r.wr.length (nats r.wr)
def aU (R : Nat → Rp) : Nat → Asn
  | 0 => Asn.emp
  | k + 1 => aP (R k) * aU R k
def aUo (R : Nat → Rp) (q : Nat) : Nat → Asn
  | 0 => Asn.emp
  | k + 1 => if k = q then aUo R q k else aP (R k) * aUo R q k
theorem aU_out (R : Nat → Rp) (q : Nat) : ∀ k, k ≤ q → aUo R q k = aU R k
  | 0, _ => rfl
  | k + 1, h => by rw [aUo, if_neg (by omega), aU, aU_out R q k (by omega)]
theorem aU_at (R : Nat → Rp) (q : Nat) : ∀ k, q < k → aU R k = aP (R q) * aUo R q k
  | 0, h => by omega
  | k + 1, h => by
    rw [aU, aUo]
    by_cases hk : k = q
    · subst hk
      rw [if_pos rfl, aU_out R k k (Nat.le_refl _)]
    · rw [if_neg hk, aU_at R q k (by omega)]
      ac_rfl
theorem aUo_upd (R : Nat → Rp) (q : Nat) (r : Rp) : ∀ k, aUo (Sl.upd R q r) q k = aUo R q k
  | 0 => rfl
  | k + 1 => by
    rw [aUo, aUo, aUo_upd R q r k]
    split
    · rfl
    · rename_i h; rw [Sl.upd_other _ _ _ _ h]
theorem aU_upd (R : Nat → Rp) (q k : Nat) (hq : q < k) (r : Rp) : aU (Sl.upd R q r) k = aP r * aUo R q k := by
  rw [aU_at _ q k hq, Sl.upd_same, aUo_upd]
theorem flat10_len (l : List Nat) (f : Nat → List Value) (hf : ∀ p, (f p).length = 10) : (l.flatMap f).length = l.length * 10 := by
  induction l with
  | nil => rfl
  | cons a l ih => rw [List.flatMap_cons, List.length_append, ih, hf, List.length_cons]; omega
theorem rps_len (k : Nat) (R : Nat → Rp) : (rps k R).length = k * 10 := by unfold rps; rw [flat10_len _ _ (fun _ => rfl), List.length_range]
theorem rps_at (k : Nat) (R : Nat → Rp) (p j : Nat) (hp : p < k) (hj : j < 10) : (rps k R)[p * 10 + j]? = (rpCells (R p))[j]? := by
  unfold rps
  rw [flatMap_at _ 10 (fun _ => rfl) (List.range k) p j p (by rw [List.getElem?_range hp]) hj]
/-- Cells of one page turned. -/
theorem rps_turn (k : Nat) (R : Nat → Rp) (p : Nat) (hp : p < k) (r : Rp) (l : List Value) (hl : l.length = k * 10) (h1 : ∀ i, i / 10 ≠ p → l[i]? = (rps k R)[i]?) (h2 : ∀ j, j < 10 → l[p * 10 + j]? = (rpCells r)[j]?) : l = rps k (Sl.upd R p r) := by
  apply List.ext_getElem?
  intro i
  by_cases hi : i < k * 10
  · have h3 := rps_at k (Sl.upd R p r) (i / 10) (i % 10) (by omega) (Nat.mod_lt _ (by decide))
    rw [show i / 10 * 10 + i % 10 = i by omega] at h3
    rw [h3]
    by_cases hq : i / 10 = p
    · rw [hq, Sl.upd_same, ← h2 (i % 10) (Nat.mod_lt _ (by decide)), show p * 10 + i % 10 = i by omega]
    · rw [Sl.upd_other _ _ _ _ hq, h1 i hq]
      have h4 := rps_at k R (i / 10) (i % 10) (by omega) (Nat.mod_lt _ (by decide))
      rw [show i / 10 * 10 + i % 10 = i by omega] at h4
      exact h4
  · rw [List.getElem?_eq_none (by omega), List.getElem?_eq_none (by rw [rps_len]; omega)]
/-- One cell of a page turned. -/
theorem rps_set (k : Nat) (R : Nat → Rp) (p j : Nat) (hp : p < k) (hj : j < 10) (v : Value) (r : Rp) (hr : ∀ i, i < 10 → (rpCells r)[i]? = if i = j then some v else (rpCells (R p))[i]?) : (rps k R).set (p * 10 + j) v = rps k (Sl.upd R p r) := by
  refine rps_turn k R p hp r _ (by rw [List.length_set, rps_len]) (fun i hi => ?_) (fun i hi => ?_)
  · rw [List.getElem?_set, if_neg (by omega)]
  · rw [List.getElem?_set, hr i hi]
    by_cases h : i = j
    · subst h; rw [if_pos rfl, if_pos rfl, if_pos (by rw [rps_len]; omega)]
    · rw [if_neg (by omega), if_neg h, rps_at k R p i hp hi]
/-- The document's tray in block gu, its pages in block gp. -/
def aRt (gu gp k : Nat) (R : Nat → Rp) : Asn := Asn.blk gu 62 #[.slice (some ⟨gp, 0, none⟩) k k] * (Asn.vec 59 10 (.slice (some ⟨gp, 0, none⟩) k k) k (rps k R) * aU R k)
def rp0 : Rp := ⟨Nod.none, .slice none 0 0, [], .slice none 0 0, [], .slice none 0 0, false⟩
theorem nil_aU {w0 w : World} {O0 : Nat → Prop} {A : Asn} (h : Own w0 O0 w A) : ∀ k, Own w0 O0 w (aU (fun _ => rp0) k * A)
  | 0 => by rw [aU, emp_mul]; exact h
  | k + 1 => (((nil_aU h k).nilVec 3 1).nilVec 3 1).re (by
    rw [aU]
    unfold aP rp0
    simp only [nats, List.map_nil, List.length_nil]
    ac_rfl)
theorem infoPage : (Tryz.prog.info? 59).map (fun i => (i.zero, i.size, i.bytes)) = some (some (.agg #[.int .i64 0, .int .i64 0, .int .i64 0, .bool false, .string ⟨#[]⟩, .int .i64 0, .slice none 0 0, .slice none 0 0, .slice none 0 0, .bool false]), 10, 136) := by kernel_rfl
theorem made_rps (k : Nat) : (madeCells #[.int .i64 0, .int .i64 0, .int .i64 0, .bool false, .string ⟨#[]⟩, .int .i64 0, .slice none 0 0, .slice none 0 0, .slice none 0 0, .bool false] (k * 10)).toList = rps k (fun _ => rp0) := by
  apply List.ext_getElem?
  intro i
  by_cases hi : i < k * 10
  · have h := rps_at k (fun _ => rp0) (i / 10) (i % 10) (by omega) (Nat.mod_lt _ (by decide))
    rw [show i / 10 * 10 + i % 10 = i by omega] at h
    rw [h, Array.getElem?_toList]
    unfold madeCells
    rw [Array.getElem?_map, Array.getElem?_range, if_pos hi]
    have h7 : i % 10 < 10 := Nat.mod_lt _ (by decide)
    show some ((#[.int .i64 0, .int .i64 0, .int .i64 0, .bool false, .string ⟨#[]⟩, .int .i64 0, .slice none 0 0, .slice none 0 0, .slice none 0 0, .bool false] : Array Value)[i % 10]!) = (rpCells rp0)[i % 10]?
    generalize i % 10 = j at *
    match j, h7 with
    | 0, _ => rfl
    | 1, _ => rfl
    | 2, _ => rfl
    | 3, _ => rfl
    | 4, _ => rfl
    | 5, _ => rfl
    | 6, _ => rfl
    | 7, _ => rfl
    | 8, _ => rfl
    | 9, _ => rfl
  · rw [List.getElem?_eq_none (by simp [madeCells]; omega), List.getElem?_eq_none (by rw [rps_len]; omega)]
theorem infoInt' : (Tryz.prog.info? 3).map (fun i => (i.zero, i.size, i.bytes)) = some (some (.int .i64 0), 1, 8) := by kernel_rfl
theorem blk_vec10 {w0 w : World} {O0 : Nat → Prop} {A : Asn} {g : Nat} {e : TypeId} {cs : Array Value} (size m : Nat) (xs : List Value) (hx : cs.toList = xs) (hm : xs.length = m * size) (hl : m ≤ maxLen) (h : Own w0 O0 w (Asn.blk g e cs * A)) : Own w0 O0 w (Asn.vec e size (.slice (some ⟨g, 0, none⟩) m m) m xs * A) :=
  h.imp (Imp.l fun w O h => ⟨Vec.built cs.toList (by have := h.1; unfold Blk at this; simpa using this) (Nat.le_refl _) hl (by rw [hx]; exact hm) (by rw [hx, ← hm, List.take_length]), fun k => by rw [h.2 k]; simp only [VB, Value.ownBlock, Option.some.injEq]; exact eq_comm⟩)
set_option maxHeartbeats 1000000 in
theorem rNew_any (k : Nat) (hk : k ≤ 256) (w0 w : World) (C : Asn) (hS : Own w0 No w C) :
    Calls Tryz.prog 6 #[.int .i64 k] w fun e w' => ∃ g1 g2 : Nat, e = .returned (.pointer (some ⟨g1, 0, none⟩)) ∧ Own w0 No w' (aRt g1 g2 k (fun _ => rp0) * C) := by
  have hmk := make_rows (P := Tryz.prog) 60 59 _ _ _ Tryz.underlying60 infoPage .i64 .i64 k (by omega) (by omega)
  have S0 := blk_vec10 10 k _ (made_rps k) (rps_len ..) (by unfold maxLen; omega) ((nil_aU hS k).alloc (madeCells #[.int .i64 0, .int .i64 0, .int .i64 0, .bool false, .string ⟨#[]⟩, .int .i64 0, .slice none 0 0, .slice none 0 0, .slice none 0 0, .bool false] (k * 10)) 59)
  have S9 := S0.alloc #[.slice (some ⟨w.heap.size, 0, none⟩) k k] 62
  simp only [World.size_alloc] at S9
  have S := Lib.hid S9
  clear hS S0 S9
  go_enter Tryz.func6, Tryz.ntmps6
  go_wp2_with fail
  go_returns
  refine ⟨_, w.heap.size, rfl, ?_⟩
  refine S.out.re ?_
  unfold aRt
  ac_rfl
/-- The first stamp that a page lacks. -/
def frst (r : Rp) : Nat := (r.wr ++ r.un).headD 0
theorem lay_get (xs vs : List Value) (o i : Nat) (h : o + vs.length ≤ xs.length) : (xs.take o ++ vs ++ xs.drop (o + vs.length))[i]? = if i < o then xs[i]? else if i < o + vs.length then vs[i - o]? else xs[i]? := by
  by_cases h1 : i < o
  · rw [if_pos h1, List.append_assoc, List.getElem?_append_left (by rw [List.length_take]; omega), List.getElem?_take_of_lt h1]
  · rw [if_neg h1, List.append_assoc, List.getElem?_append_right (by rw [List.length_take]; omega), List.length_take, Nat.min_eq_left (by omega)]
    by_cases h2 : i < o + vs.length
    · rw [if_pos h2, List.getElem?_append_left (by omega)]
    · rw [if_neg h2, List.getElem?_append_right (by omega), List.getElem?_drop]
      congr 1
      omega
theorem rps_node (k : Nat) (R : Nat → Rp) (p : Nat) (hp : p < k) (nd : Nod) (v : Value) :
    (rps k R).take (p * 10) ++ [.int .i64 nd.tree, .int .i64 nd.level, .int .i64 nd.stamp, .bool nd.has, .string (ofL nd.high), .int .i64 nd.right, v] ++ (rps k R).drop (p * 10 + 7) = rps k (Sl.upd R p { R p with nd := nd, nv := v }) := by
  have hl := rps_len k R
  have hlay : ∀ i : Nat, ((rps k R).take (p * 10) ++ [.int .i64 nd.tree, .int .i64 nd.level, .int .i64 nd.stamp, .bool nd.has, .string (ofL nd.high), .int .i64 nd.right, v] ++ (rps k R).drop (p * 10 + 7))[i]? = if i < p * 10 then (rps k R)[i]? else if i < p * 10 + 7 then ([.int .i64 nd.tree, .int .i64 nd.level, .int .i64 nd.stamp, .bool nd.has, .string (ofL nd.high), .int .i64 nd.right, v] : List Value)[i - p * 10]? else (rps k R)[i]? := fun i => lay_get (rps k R) [.int .i64 nd.tree, .int .i64 nd.level, .int .i64 nd.stamp, .bool nd.has, .string (ofL nd.high), .int .i64 nd.right, v] (p * 10) i (by rw [hl]; simp only [List.length_cons, List.length_nil]; omega)
  refine rps_turn k R p hp _ _ ?_ (fun i hi => ?_) (fun j hj => ?_)
  · simp only [List.length_append, List.length_take, List.length_drop, List.length_cons, List.length_nil, hl]; omega
  · rw [hlay]
    split
    · rfl
    · rw [if_neg (by omega)]
  · rw [hlay, if_neg (by omega)]
    by_cases h7 : j < 7
    · rw [if_pos (by omega), show p * 10 + j - p * 10 = j by omega]
      match j, h7 with
      | 0, _ => rfl
      | 1, _ => rfl
      | 2, _ => rfl
      | 3, _ => rfl
      | 4, _ => rfl
      | 5, _ => rfl
      | 6, _ => rfl
    · rw [if_neg (by omega), rps_at k R p j hp hj]
      match j, hj, h7 with
      | 7, _, _ => rfl
      | 8, _, _ => rfl
      | 9, _, _ => rfl
section
variable (gu gp k : Nat)
theorem rt_in (R : Nat → Rp) (q : Nat) (hq : q < k) (X C : Asn) : X * (aRt gu gp k R * C) = Asn.vec 59 10 (.slice (some ⟨gp, 0, none⟩) k k) k (rps k R) * (Asn.blk gu 62 #[.slice (some ⟨gp, 0, none⟩) k k] * (Asn.vec 3 1 (R q).uv (R q).un.length (nats (R q).un) * (Asn.vec 3 1 (R q).wv (R q).wr.length (nats (R q).wr) * (X * (aUo R q k * C))))) := by
  unfold aRt
  rw [aU_at R q k hq]
  unfold aP
  ac_rfl
theorem rt_out (R : Nat → Rp) (q : Nat) (hq : q < k) (r : Rp) (C : Asn) : Asn.vec 59 10 (.slice (some ⟨gp, 0, none⟩) k k) k (rps k (Sl.upd R q r)) * (Asn.blk gu 62 #[.slice (some ⟨gp, 0, none⟩) k k] * (Asn.vec 3 1 r.uv r.un.length (nats r.un) * (Asn.vec 3 1 r.wv r.wr.length (nats r.wr) * (aUo R q k * C)))) = aRt gu gp k (Sl.upd R q r) * C := by
  unfold aRt
  rw [aU_upd R q k hq]
  unfold aP
  ac_rfl
set_option maxRecDepth 100000 in
set_option maxHeartbeats 8000000 in
theorem rPut_any (hk : k ≤ 256) (R : Nat → Rp) (q : Nat) (hq : q < k) (st : Nat) (nd : Nod) (A0 : Option Addr) (m0 c0 : Nat) (hun : (R q).un.length ≤ 1000) (w0 w : World) (C : Asn) (hS : Own w0 No w (aRt gu gp k R * C)) :
    Calls Tryz.prog 12 #[.pointer (some ⟨gu, 0, none⟩), .int .i64 st, .agg (shZ q nd (.slice A0 m0 c0))] w fun e w' => ∃ uv', e = .returned (.tuple #[]) ∧
      Own w0 No w' (aRt gu gp k (Sl.upd R q ⟨restamp nd st, .slice A0 m0 c0, (R q).un ++ [st], uv', (R q).wr, (R q).wv, true⟩) * C) := by
  have S0 := hS.alloc (shZ q nd (.slice A0 m0 c0)) 53
  rw [rt_in gu gp k R q hq] at S0
  have S := Lib.hid S0
  clear hS S0
  unfold shZ at *
  go_enter Tryz.func12, Tryz.ntmps12
  go_upto_region 1 with fail
  obtain ⟨gc, hgz⟩ : ∃ g, g = w.heap.size := ⟨_, rfl⟩
  rw [← hgz] at S ⊢
  clear hgz
  generalize w.alloc _ = w1 at *
  have hc := S.out.right.right.right.right.has (Has.l (has_blk _ _ _))
  have k0 : w1.cell? ⟨gc, 0, none⟩ = some (.int .i64 (q : Int)) := hc.cell 0
  have t0 : w1.cell? ⟨gu, 0, none⟩ = some (.slice (some ⟨gp, 0, none⟩) k k) := (S.out.right.has (Has.l (has_blk _ _ _))).cell 0
  have hi1 : (q : Int) < (k : Int) := by omega
  clear hc
  go_quiet (fail)
  have S1 := Lib.hid (S.out.drewN nq)
  clear S k0 t0
  generalize w1.drewN nq = w2 at *
  obtain ⟨⟨k0, k1, k2, k3, k4, k5, k6, k7⟩, -⟩ := eight8 (S1.out.right.right.right.right.has (Has.l (has_blk _ _ _)))
  have HTH : Hid (w2.there gp (q * 10) 7) := Lib.hid fun j hj => by
    have hx : (rps k R)[q * 10 + j]? = some ((rps k R)[q * 10 + j]'(by rw [rps_len]; omega)) := List.getElem?_eq_getElem _
    refine ⟨?_, S1.out.vec.free _⟩
    rw [S1.out.vec.cell hx]; rfl
  go_upto_region 3 with (with_reducible refine wpList_store_mid rfl 31 (.tmp 18) (.tmp 16) rfl gp (q * 10) #[.int .i64 nd.tree, .int .i64 nd.level, .int .i64 nd.stamp, .bool nd.has, .string (ofL nd.high), .int .i64 nd.right, .slice A0 m0 c0] ?c1 ?c2 ?c5 ?c3 ?c4 ?_)
  case c1 => rfl
  case c2 => rfl
  case c3 => kernel_rfl
  case c4 => exact all_oneCell_toArray (cs := [.int .i64 nd.tree, .int .i64 nd.level, .int .i64 nd.stamp, .bool nd.has, .string (ofL nd.high), .int .i64 nd.right, .slice A0 m0 c0]) (by intro u hu; simp at hu; rcases hu with rfl | rfl | rfl | rfl | rfl | rfl | rfl <;> rfl)
  case c5 => exact HTH.out
  have S2 := own_setCells 59 10 gp k k [.int .i64 nd.tree, .int .i64 nd.level, .int .i64 nd.stamp, .bool nd.has, .string (ofL nd.high), .int .i64 nd.right, .slice A0 m0 c0] (q * 10) _ _ S1.out (by simp only [List.length_cons, List.length_nil]; omega)
  simp only [List.length_cons, List.length_nil] at S2
  rw [show q * 10 + (0 + 1 + 1 + 1 + 1 + 1 + 1 + 1) = q * 10 + 7 from rfl, rps_node k R q hq nd (.slice A0 m0 c0)] at S2
  have S3 := Lib.hid S2
  clear S2 S1 HTH k0 k1 k2 k3 k4 k5 k6 k7
  generalize World.setCells w2 _ _ _ = w3 at *
  obtain ⟨R1, hR1⟩ : ∃ R1, R1 = Sl.upd R q { R q with nd := nd, nv := .slice A0 m0 c0 } := ⟨_, rfl⟩
  have hq1 : R1 q = { R q with nd := nd, nv := .slice A0 m0 c0 } := by rw [hR1, Sl.upd_same]
  rw [← hR1] at S3
  have q2 := S3.out.vec.cell (rps_at k R1 q 2 hq (by decide))
  have f2 := S3.out.vec.free (q * 10 + 2)
  have q7 := S3.out.vec.cell (rps_at k R1 q 7 hq (by decide))
  go_upto_region 4 with fail
  obtain ⟨R2, hR2⟩ : ∃ R2, R2 = Sl.upd R q { R q with nd := restamp nd st, nv := .slice A0 m0 c0 } := ⟨_, rfl⟩
  have S4 := S3.out.set (Sets.l (sets_vec _ _ _ _ _ _ (q * 10 + 2) (by omega) (.int .i64 st)))
  rw [rps_set k R1 q 2 hq (by decide) (.int .i64 st) { R q with nd := restamp nd st, nv := .slice A0 m0 c0 } (fun i hi => by
    rw [hq1]
    match i, hi with
    | 0, _ => rfl
    | 1, _ => rfl
    | 2, _ => rfl
    | 3, _ => rfl
    | 4, _ => rfl
    | 5, _ => rfl
    | 6, _ => rfl
    | 7, _ => rfl
    | 8, _ => rfl
    | 9, _ => rfl), hR1, upd_twice, ← hR2] at S4
  have hq2 : R2 q = { R q with nd := restamp nd st, nv := .slice A0 m0 c0 } := by rw [hR2, Sl.upd_same]
  obtain ⟨D, hD⟩ : ∃ D, D = Asn.blk gc 53 #[.int .i64 q, .int .i64 nd.tree, .int .i64 nd.level, .int .i64 nd.stamp, .bool nd.has, .string (ofL nd.high), .int .i64 nd.right, .slice A0 m0 c0] * (aUo R q k * C) := ⟨_, rfl⟩
  rw [← hD] at S4
  have S5 := Lib.hid S4
  clear S4 S3 q2 f2 q7 hq1 hR1
  generalize w3.setCell _ _ = w4 at *
  have q7 := S5.out.vec.cell (rps_at k R2 q 7 hq (by decide))
  rw [hq2] at q7
  have q7 : w4.cell? ⟨gp, q * 10 + 7, none⟩ = some (R q).uv := q7
  have S6 := Lib.hid (((S5.out.alloc #[.int .i64 st] 3).right).re (show _ = Asn.vec 3 1 (R q).uv (R q).un.length (nats (R q).un) * (Asn.vec 59 10 (.slice (some ⟨gp, 0, none⟩) k k) k (rps k R2) * (Asn.blk gu 62 #[.slice (some ⟨gp, 0, none⟩) k k] * (Asn.vec 3 1 (R q).wv (R q).wr.length (nats (R q).wr) * D))) by ac_rfl))
  have CX : Hid (Src Tryz.prog 1 57 (.slice (some ⟨w4.heap.size, 0, none⟩) 1 1) 1 [.int .i64 st] (w4.alloc (.cells #[.int .i64 st] 3))) := Lib.hid (Src.ofSlice _ Tryz.underlying57 _ 1 1 _ rfl (append1 ((Blk.new w4 #[.int .i64 st] 3).cell 0)) (by intro u hu; simp at hu; subst hu; rfl))
  go_upto_region 5 with (with_reducible refine wpList_append_vec rfl (.tmp 28) (.tmp 30) 57 57 rfl 3 _ 1 8 Tryz.underlying57 infoInt' ?c1 ?c2 _ (R q).un.length (nats (R q).un) ?c7 S6.out.vec (.slice (some ⟨w4.heap.size, 0, none⟩) 1 1) ?c8 1 _ CX.out ?c3 ?c4 ?_)
  case c3 => unfold maxLen; omega
  case c4 => omega
  intro v' w5 hv hc hf
  obtain ⟨A', c', rfl⟩ := hv.slice
  obtain ⟨uv', huv⟩ : ∃ u, u = Value.slice A' ((R q).un.length + 1) c' := ⟨_, rfl⟩
  have S7 := S6.out.app hv hc hf
  have q7' := S7.right.vec.cell (rps_at k R2 q 7 hq (by decide))
  have f7 := S7.right.vec.free (q * 10 + 7)
  have S8 := S7.re (show _ = Asn.vec 59 10 (.slice (some ⟨gp, 0, none⟩) k k) k (rps k R2) * (Asn.vec 3 1 (.slice A' ((R q).un.length + 1) c') ((R q).un.length + 1) (nats (R q).un ++ [.int .i64 st]) * (Asn.blk gu 62 #[.slice (some ⟨gp, 0, none⟩) k k] * (Asn.vec 3 1 (R q).wv (R q).wr.length (nats (R q).wr) * D))) by ac_rfl)
  clear S5 S6 S7 CX hv hc hf q7
  have S8 := Lib.hid S8
  go_upto_region 5 with fail
  obtain ⟨R3, hR3⟩ : ∃ R3, R3 = Sl.upd R q { R q with nd := restamp nd st, nv := .slice A0 m0 c0, uv := .slice A' ((R q).un.length + 1) c' } := ⟨_, rfl⟩
  have S9 := S8.out.set (Sets.l (sets_vec _ _ _ _ _ _ (q * 10 + 7) (by omega) (.slice A' ((R q).un.length + 1) c')))
  rw [rps_set k R2 q 7 hq (by decide) (.slice A' ((R q).un.length + 1) c') { R q with nd := restamp nd st, nv := .slice A0 m0 c0, uv := .slice A' ((R q).un.length + 1) c' } (fun i hi => by
    rw [hq2]
    match i, hi with
    | 0, _ => rfl
    | 1, _ => rfl
    | 2, _ => rfl
    | 3, _ => rfl
    | 4, _ => rfl
    | 5, _ => rfl
    | 6, _ => rfl
    | 7, _ => rfl
    | 8, _ => rfl
    | 9, _ => rfl), hR2, upd_twice, ← hR3] at S9
  have hq3 : R3 q = { R q with nd := restamp nd st, nv := .slice A0 m0 c0, uv := .slice A' ((R q).un.length + 1) c' } := by rw [hR3, Sl.upd_same]
  have S10 := Lib.hid S9
  clear S9 S8 q7' f7 hq2 hR2
  generalize w5.setCell _ _ = w6 at *
  have q9 := S10.out.vec.cell (rps_at k R3 q 9 hq (by decide))
  have f9 := S10.out.vec.free (q * 10 + 9)
  have t0 : w6.cell? ⟨gu, 0, none⟩ = some (.slice (some ⟨gp, 0, none⟩) k k) := (S10.out.right.right.has (Has.l (has_blk _ _ _))).cell 0
  go_wp2_with fail
  have S11 := S10.out.set (Sets.l (sets_vec _ _ _ _ _ _ (q * 10 + 9) (by omega) (.bool true)))
  rw [rps_set k R3 q 9 hq (by decide) (.bool true) ⟨restamp nd st, .slice A0 m0 c0, (R q).un ++ [st], .slice A' ((R q).un.length + 1) c', (R q).wr, (R q).wv, true⟩ (fun i hi => by
    rw [hq3]
    match i, hi with
    | 0, _ => rfl
    | 1, _ => rfl
    | 2, _ => rfl
    | 3, _ => rfl
    | 4, _ => rfl
    | 5, _ => rfl
    | 6, _ => rfl
    | 7, _ => rfl
    | 8, _ => rfl
    | 9, _ => rfl), hR3, upd_twice] at S11
  go_returns
  refine ⟨rfl, .slice A' ((R q).un.length + 1) c', ?_⟩
  rw [← rt_out gu gp k R q hq]
  rw [hD] at S11
  have S12 := S11.re (show _ = Asn.blk gc 53 #[.int .i64 q, .int .i64 nd.tree, .int .i64 nd.level, .int .i64 nd.stamp, .bool nd.has, .string (ofL nd.high), .int .i64 nd.right, .slice A0 m0 c0] * (Asn.vec 59 10 (.slice (some ⟨gp, 0, none⟩) k k) k (rps k (Sl.upd R q ⟨restamp nd st, .slice A0 m0 c0, (R q).un ++ [st], .slice A' ((R q).un.length + 1) c', (R q).wr, (R q).wv, true⟩)) * (Asn.blk gu 62 #[.slice (some ⟨gp, 0, none⟩) k k] * (Asn.vec 3 1 (.slice A' ((R q).un.length + 1) c') ((R q).un.length + 1) (nats (R q).un ++ [.int .i64 st]) * (Asn.vec 3 1 (R q).wv (R q).wr.length (nats (R q).wr) * (aUo R q k * C))))) by ac_rfl)
  have S13 := S12.right
  dsimp only
  rw [nats_app, List.length_append, List.length_singleton]
  exact S13
theorem rt_in0 (R : Nat → Rp) (q : Nat) (hq : q < k) (C : Asn) : aRt gu gp k R * C = Asn.vec 59 10 (.slice (some ⟨gp, 0, none⟩) k k) k (rps k R) * (Asn.blk gu 62 #[.slice (some ⟨gp, 0, none⟩) k k] * (Asn.vec 3 1 (R q).uv (R q).un.length (nats (R q).un) * (Asn.vec 3 1 (R q).wv (R q).wr.length (nats (R q).wr) * (aUo R q k * C)))) := by
  unfold aRt
  rw [aU_at R q k hq]
  unfold aP
  ac_rfl
theorem src_nats {w : World} {v : Value} {l : List Nat} (h : Vec w 3 1 v l.length (nats l)) : Src Tryz.prog 1 57 v l.length (nats l) w := by
  rcases h.forms with ⟨hv, hz⟩ | ⟨g, cap, hv, -⟩
  · have hl : l = [] := List.eq_nil_of_length_eq_zero hz
    subst hl hv
    exact Src.ofNil _ Tryz.underlying57 0
  · subst hv
    refine Src.ofSlice _ Tryz.underlying57 ⟨g, 0, none⟩ l.length cap (nats l) (nats_len l) (fun j u hj => ?_) (fun u hu => ?_)
    · have h1 := h.cell hj
      rw [addr_zero]; exact h1
    · unfold nats at hu
      obtain ⟨x, -, rfl⟩ := List.mem_map.1 hu
      rfl
set_option maxRecDepth 100000 in
set_option maxHeartbeats 8000000 in
theorem rWrite_any (hk : k ≤ 256) (R : Nat → Rp) (q : Nat) (hq : q < k) (hun : (R q).un.length ≤ 1000) (hwr : (R q).wr.length ≤ 1000) (w0 w : World) (C : Asn) (hS : Own w0 No w (aRt gu gp k R * C)) :
    Calls Tryz.prog 14 #[.pointer (some ⟨gu, 0, none⟩), .int .i64 q] w fun e w' => ∃ wv', e = .returned (.tuple #[]) ∧
      Own w0 No w' (aRt gu gp k (Sl.upd R q { R q with un := [], uv := .slice none 0 0, wr := (R q).wr ++ (R q).un, wv := wv' }) * C) := by
  rw [rt_in0 gu gp k R q hq] at hS
  have S := Lib.hid hS
  clear hS
  go_enter Tryz.func14, Tryz.ntmps14
  have t0 : w.cell? ⟨gu, 0, none⟩ = some (.slice (some ⟨gp, 0, none⟩) k k) := (S.out.right.has (Has.l (has_blk _ _ _))).cell 0
  have q7 := S.out.vec.cell (rps_at k R q 7 hq (by decide))
  have q8 := S.out.vec.cell (rps_at k R q 8 hq (by decide))
  have hi1 : (q : Int) < (k : Int) := by omega
  go_upto_region 1 with fail
  have HSrc := Lib.hid (src_nats S.out.right.right.vec)
  have S0 := Lib.hid (S.out.drew.re (show _ = Asn.vec 3 1 (R q).wv (R q).wr.length (nats (R q).wr) * (Asn.vec 59 10 (.slice (some ⟨gp, 0, none⟩) k k) k (rps k R) * (Asn.blk gu 62 #[.slice (some ⟨gp, 0, none⟩) k k] * (Asn.vec 3 1 (R q).uv (R q).un.length (nats (R q).un) * (aUo R q k * C)))) by ac_rfl))
  have HSrc := Lib.hid (src_nats S0.out.right.right.right.vec)
  have q7 := S0.out.right.vec.cell (rps_at k R q 7 hq (by decide))
  have q8 := S0.out.right.vec.cell (rps_at k R q 8 hq (by decide))
  clear S t0
  go_region_law (first
    | (refine step_append_vec rfl (.tmp 15) (.tmp 19) 57 57 rfl 3 _ 1 8 Tryz.underlying57 infoInt' rfl (by decide) _ (R q).wr.length (nats (R q).wr) rfl S0.out.vec (R q).uv rfl (R q).un.length (nats (R q).un) HSrc.out (by unfold maxLen; omega) (by omega) ?_; intro v' w1 hv hc hf; have S1 := Lib.hid (S0.out.app hv hc hf); obtain ⟨A', c', rfl⟩ := hv.slice; have c1 := S1.out.right.vec.cell (rps_at k R q 8 hq (by decide)); have f1 := S1.out.right.vec.free (q * 10 + 8)))
  all_goals
    have S2 := (S1.out.re (show _ = Asn.vec 59 10 (.slice (some ⟨gp, 0, none⟩) k k) k (rps k R) * (Asn.vec 3 1 (.slice A' ((R q).wr.length + (R q).un.length) c') ((R q).wr.length + (R q).un.length) (nats (R q).wr ++ nats (R q).un) * (Asn.blk gu 62 #[.slice (some ⟨gp, 0, none⟩) k k] * (Asn.vec 3 1 (R q).uv (R q).un.length (nats (R q).un) * (aUo R q k * C)))) by ac_rfl)).set (Sets.l (sets_vec _ _ _ _ _ _ (q * 10 + 8) (by omega) (.slice A' ((R q).wr.length + (R q).un.length) c')))
    rw [rps_set k R q 8 hq (by decide) (.slice A' ((R q).wr.length + (R q).un.length) c') { R q with wr := (R q).wr ++ (R q).un, wv := .slice A' ((R q).wr.length + (R q).un.length) c' } (fun i hi => by
      match i, hi with
      | 0, _ => rfl
      | 1, _ => rfl
      | 2, _ => rfl
      | 3, _ => rfl
      | 4, _ => rfl
      | 5, _ => rfl
      | 6, _ => rfl
      | 7, _ => rfl
      | 8, _ => rfl
      | 9, _ => rfl)] at S2
    have S3 := Lib.hid S2
    clear S0 S1 S2 HSrc c1 f1 q7 q8 hv hc hf
    generalize w1.setCell _ _ = w2 at *
    obtain ⟨R1, hR1⟩ : ∃ R1, R1 = Sl.upd R q { R q with wr := (R q).wr ++ (R q).un, wv := .slice A' ((R q).wr.length + (R q).un.length) c' } := ⟨_, rfl⟩
    have hq1 : R1 q = { R q with wr := (R q).wr ++ (R q).un, wv := .slice A' ((R q).wr.length + (R q).un.length) c' } := by rw [hR1, Sl.upd_same]
    rw [← hR1] at S3
    have q7 := S3.out.vec.cell (rps_at k R1 q 7 hq (by decide))
    have f7 := S3.out.vec.free (q * 10 + 7)
    go_wp2_with fail
    go_returns
    refine ⟨rfl, .slice A' ((R q).wr.length + (R q).un.length) c', ?_⟩
    have S4 := S3.out.set (Sets.l (sets_vec _ _ _ _ _ _ (q * 10 + 7) (by omega) (.slice none 0 0)))
    rw [rps_set k R1 q 7 hq (by decide) (.slice none 0 0) { R q with un := [], uv := .slice none 0 0, wr := (R q).wr ++ (R q).un, wv := .slice A' ((R q).wr.length + (R q).un.length) c' } (fun i hi => by
      rw [hq1]
      match i, hi with
      | 0, _ => rfl
      | 1, _ => rfl
      | 2, _ => rfl
      | 3, _ => rfl
      | 4, _ => rfl
      | 5, _ => rfl
      | 6, _ => rfl
      | 7, _ => rfl
      | 8, _ => rfl
      | 9, _ => rfl), hR1, upd_twice] at S4
    rw [← rt_out gu gp k R q hq]
    dsimp only
    rw [nats_app, List.length_append]
    have S5 := (S4.re (show _ = Asn.vec 3 1 (R q).uv (R q).un.length (nats (R q).un) * (Asn.vec 59 10 (.slice (some ⟨gp, 0, none⟩) k k) k (rps k (Sl.upd R q { R q with un := [], uv := .slice none 0 0, wr := (R q).wr ++ (R q).un, wv := .slice A' ((R q).wr.length + (R q).un.length) c' })) * (Asn.blk gu 62 #[.slice (some ⟨gp, 0, none⟩) k k] * (Asn.vec 3 1 (.slice A' ((R q).wr.length + (R q).un.length) c') ((R q).wr.length + (R q).un.length) (nats (R q).wr ++ nats (R q).un) * (aUo R q k * C)))) by ac_rfl)).right.nilVec 3 1
    exact S5.re (by
      show _ = Asn.vec 59 10 (.slice (some ⟨gp, 0, none⟩) k k) k (rps k (Sl.upd R q { R q with un := [], uv := .slice none 0 0, wr := (R q).wr ++ (R q).un, wv := .slice A' ((R q).wr.length + (R q).un.length) c' })) * (Asn.blk gu 62 #[.slice (some ⟨gp, 0, none⟩) k k] * (Asn.vec 3 1 (.slice none 0 0) 0 [] * (Asn.vec 3 1 (.slice A' ((R q).wr.length + (R q).un.length) c') ((R q).wr.length + (R q).un.length) (nats (R q).wr ++ nats (R q).un) * (aUo R q k * C))))
      ac_rfl)
/-- What was written is safe, of the pages below i. -/
def syn (R : Nat → Rp) (i : Nat) : Nat → Rp := fun p => if p < i then { R p with wr := [], wv := .slice none 0 0 } else R p
theorem syn_zero (R : Nat → Rp) : syn R 0 = R := by funext p; unfold syn; rw [if_neg (by omega)]
theorem syn_at (R : Nat → Rp) (i : Nat) : syn R i i = R i := by unfold syn; rw [if_neg (by omega)]
theorem syn_succ (R : Nat → Rp) (i : Nat) : Sl.upd (syn R i) i { R i with wr := [], wv := .slice none 0 0 } = syn R (i + 1) := by
  funext p
  by_cases h : p = i
  · subst h; rw [Sl.upd_same]; unfold syn; rw [if_pos (by omega)]
  · rw [Sl.upd_other _ _ _ _ h]
    unfold syn
    by_cases h2 : p < i
    · rw [if_pos h2, if_pos (by omega)]
    · rw [if_neg h2, if_neg (by omega)]
set_option maxRecDepth 100000 in
set_option maxHeartbeats 8000000 in
theorem rSync_any (hk : k ≤ 256) (R : Nat → Rp) (w0 w : World) (C : Asn) (hS : Own w0 No w (aRt gu gp k R * C)) :
    Calls Tryz.prog 17 #[.pointer (some ⟨gu, 0, none⟩)] w fun e w' => e = .returned (.tuple #[]) ∧ Own w0 No w' (aRt gu gp k (syn R k) * C) := by
  have S0 : Hid (Own w0 No w (aRt gu gp k (syn R 0) * C)) := Lib.hid (by rw [syn_zero]; exact hS)
  clear hS
  go_enter Tryz.func17, Tryz.ntmps17
  go_wp2_with fail
  go_loopw [2] (fun p2 wr => ∃ i : Nat, p2 = .int .i64 i ∧ i ≤ k ∧ Hid (Own w0 No wr (aRt gu gp k (syn R i) * C))) (fun p2 _ => k + 1 - (intOf p2).toNat)
  case atStart => exact ⟨0, rfl, Nat.zero_le _, S0⟩
  case round =>
    clear S0
    obtain ⟨i, rfl, hi, S⟩ := hrel
    have t0 : wr.cell? ⟨gu, 0, none⟩ = some (.slice (some ⟨gp, 0, none⟩) k k) := by
      have h1 := S.out
      unfold aRt at h1
      exact (h1.has (Has.l (Has.l (has_blk _ _ _)))).cell 0
    by_cases hlt : i < k
    · have hi1 : (i : Int) < (k : Int) := by omega
      have S1 := S.out
      rw [rt_in0 gu gp k _ i hlt, syn_at] at S1
      have q8 := S1.vec.cell (rps_at k (syn R i) i 8 hlt (by decide))
      have f8 := S1.vec.free (i * 10 + 8)
      have S2 := S1.set (Sets.l (sets_vec _ _ _ _ _ _ (i * 10 + 8) (by omega) (.slice none 0 0)))
      rw [rps_set k (syn R i) i 8 hlt (by decide) (.slice none 0 0) { R i with wr := [], wv := .slice none 0 0 } (fun j hj => by
        rw [syn_at]
        match j, hj with
        | 0, _ => rfl
        | 1, _ => rfl
        | 2, _ => rfl
        | 3, _ => rfl
        | 4, _ => rfl
        | 5, _ => rfl
        | 6, _ => rfl
        | 7, _ => rfl
        | 8, _ => rfl
        | 9, _ => rfl)] at S2
      have S3 := (S2.re (show _ = Asn.vec 3 1 (R i).wv (R i).wr.length (nats (R i).wr) * (Asn.vec 59 10 (.slice (some ⟨gp, 0, none⟩) k k) k (rps k (Sl.upd (syn R i) i { R i with wr := [], wv := .slice none 0 0 })) * (Asn.blk gu 62 #[.slice (some ⟨gp, 0, none⟩) k k] * (Asn.vec 3 1 (R i).uv (R i).un.length (nats (R i).un) * (aUo (syn R i) i k * C)))) by ac_rfl)).right.nilVec 3 1
      have S4 := S3.re (show _ = aRt gu gp k (Sl.upd (syn R i) i { R i with wr := [], wv := .slice none 0 0 }) * C by
        rw [← rt_out gu gp k _ i hlt]
        show _ = Asn.vec 59 10 (.slice (some ⟨gp, 0, none⟩) k k) k (rps k (Sl.upd (syn R i) i { R i with wr := [], wv := .slice none 0 0 })) * (Asn.blk gu 62 #[.slice (some ⟨gp, 0, none⟩) k k] * (Asn.vec 3 1 (R i).uv (R i).un.length (nats (R i).un) * (Asn.vec 3 1 (.slice none 0 0) 0 [] * (aUo (syn R i) i k * C))))
        ac_rfl)
      rw [syn_succ] at S4
      have S5 := Lib.hid S4
      clear S S1 S2 S3 S4
      go_wp2_with fail
      go_roundw
      case rel => exact ⟨i + 1, by go_num, by omega, S5⟩
      case measure => simp [intOf]; omega
    · obtain rfl : i = k := by omega
      go_wp2_with fail
      go_returns
      exact ⟨rfl, S.out⟩
set_option maxRecDepth 100000 in
set_option maxHeartbeats 8000000 in
theorem rFirst_any (hk : k ≤ 256) (R : Nat → Rp) (q : Nat) (hq : q < k) (hun : (R q).un.length ≤ 1000) (hwr : (R q).wr.length ≤ 1000) (hnv : ∃ A n c, (R q).nv = .slice A n c) (w0 w : World) (C : Asn) (hS : Own w0 No w (aRt gu gp k R * C)) :
    Calls Tryz.prog 50 #[.pointer (some ⟨gu, 0, none⟩), .int .i64 q] w fun e w' => e = .returned (.int .i64 (frst (R q) : Nat)) ∧ Own w0 No w' (aRt gu gp k R * C) := by
  have S := Lib.hid hS
  have S1 := hS
  rw [rt_in0 gu gp k R q hq] at S1
  have t0 : w.cell? ⟨gu, 0, none⟩ = some (.slice (some ⟨gp, 0, none⟩) k k) := (S1.right.has (Has.l (has_blk _ _ _))).cell 0
  have q0 : w.cell? ⟨gp, q * 10, none⟩ = some (.int .i64 (R q).nd.tree) := S1.vec.cell (rps_at k R q 0 hq (by decide))
  have q1 := S1.vec.cell (rps_at k R q 1 hq (by decide))
  have q2 := S1.vec.cell (rps_at k R q 2 hq (by decide))
  have q3 := S1.vec.cell (rps_at k R q 3 hq (by decide))
  have q4 := S1.vec.cell (rps_at k R q 4 hq (by decide))
  have q5 := S1.vec.cell (rps_at k R q 5 hq (by decide))
  have q6 := S1.vec.cell (rps_at k R q 6 hq (by decide))
  have q7 := S1.vec.cell (rps_at k R q 7 hq (by decide))
  have q8 := S1.vec.cell (rps_at k R q 8 hq (by decide))
  have q9 := S1.vec.cell (rps_at k R q 9 hq (by decide))
  have hi1 : (q : Int) < (k : Int) := by omega
  have HU := S1.right.right.vec
  have HU2 := fun cs => (S1.alloc cs 59).right.right.right.vec
  have HW2 := fun cs => (S1.alloc cs 59).right.right.right.right.vec
  have HW := S1.right.right.right.vec
  clear S1 hS
  unfold frst
  generalize R q = r at q0 q1 q2 q3 q4 q5 q6 q7 q8 q9 HU HW HU2 HW2 hun hwr hnv ⊢
  obtain ⟨nd, nv, un, uv, wr, wv, held⟩ := r
  dsimp only at q0 q1 q2 q3 q4 q5 q6 q7 q8 q9 HU HW HU2 HW2 hun hwr hnv ⊢
  obtain ⟨AN, n1, c1, rfl⟩ := hnv
  rcases HW.forms with ⟨rfl, hz⟩ | ⟨gw, cw, rfl, -⟩
  · have hw0 : wr = [] := List.eq_nil_of_length_eq_zero hz
    subst hw0
    rcases HU.forms with ⟨rfl, hz⟩ | ⟨gv, cv, rfl, -⟩
    · have hu0 : un = [] := List.eq_nil_of_length_eq_zero hz
      subst hu0
      go_enter Tryz.func50, Tryz.ntmps50
      go_wp2_with fail
      go_returns
      exact ⟨rfl, (S.out.alloc _ _).right⟩
    · cases un with
      | nil =>
        go_enter Tryz.func50, Tryz.ntmps50
        go_wp2_with fail
        go_returns
        exact ⟨rfl, (S.out.alloc _ _).right⟩
      | cons x l =>
        have u0 := (HU2 #[.int .i64 nd.tree, .int .i64 nd.level, .int .i64 nd.stamp, .bool nd.has, .string (ofL nd.high), .int .i64 nd.right, .slice AN n1 c1, .slice (some ⟨gv, 0, none⟩) (l.length + 1) cv, .slice none 0 0, .bool held]).cell (show (nats (x :: l))[0]? = some (.int .i64 (x : Nat)) from rfl)
        go_enter Tryz.func50, Tryz.ntmps50
        go_wp2_with fail
        go_returns
        exact ⟨rfl, (S.out.alloc _ _).right⟩
  · cases wr with
    | nil =>
      rcases HU.forms with ⟨rfl, hz⟩ | ⟨gv, cv, rfl, -⟩
      · have hu0 : un = [] := List.eq_nil_of_length_eq_zero hz
        subst hu0
        go_enter Tryz.func50, Tryz.ntmps50
        go_wp2_with fail
        go_returns
        exact ⟨rfl, (S.out.alloc _ _).right⟩
      · cases un with
        | nil =>
          go_enter Tryz.func50, Tryz.ntmps50
          go_wp2_with fail
          go_returns
          exact ⟨rfl, (S.out.alloc _ _).right⟩
        | cons x l =>
          have u0 := (HU2 #[.int .i64 nd.tree, .int .i64 nd.level, .int .i64 nd.stamp, .bool nd.has, .string (ofL nd.high), .int .i64 nd.right, .slice AN n1 c1, .slice (some ⟨gv, 0, none⟩) (l.length + 1) cv, .slice (some ⟨gw, 0, none⟩) 0 cw, .bool held]).cell (show (nats (x :: l))[0]? = some (.int .i64 (x : Nat)) from rfl)
          go_enter Tryz.func50, Tryz.ntmps50
          go_wp2_with fail
          go_returns
          exact ⟨rfl, (S.out.alloc _ _).right⟩
    | cons x l =>
      obtain ⟨AU, mU, rfl⟩ := HU.slice
      have u0 := (HW2 #[.int .i64 nd.tree, .int .i64 nd.level, .int .i64 nd.stamp, .bool nd.has, .string (ofL nd.high), .int .i64 nd.right, .slice AN n1 c1, .slice AU un.length mU, .slice (some ⟨gw, 0, none⟩) (l.length + 1) cw, .bool held]).cell (show (nats (x :: l))[0]? = some (.int .i64 (x : Nat)) from rfl)
      go_enter Tryz.func50, Tryz.ntmps50
      go_wp2_with fail
      go_returns
      exact ⟨rfl, (S.out.alloc _ _).right⟩
end
end Go.Proofs.YtapdpdhibpblgaaGreatDoor.Tr
