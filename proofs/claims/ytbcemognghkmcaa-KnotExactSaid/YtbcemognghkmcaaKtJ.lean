/- slices.Backward; what owns the same. -/
import Derived.Test.YtbcemognghkmcaaKtI
import Derived.RangeFuncNested
import Derived.RangeFuncBound
import Derived.RangeFuncCalls
import Derived.RangeFuncLeaves
import Derived.RangeFuncWrites
import Derived.Shelf.Abstract
import Derived.Shelf.RegionOpen
import Derived.OwnWalkIn
import Derived.TacticsInMore
import Derived.LoopNIn
import Derived.LoopIn
import Derived.Sort.QuietIn
namespace Go.Proofs.Ytbcemognghkmcaa.Kt
open Go.ChangeShapes Go.WideShapes Go.ChangeAt Go.RowKit Go.PlainAid Aid
open Go.Shelf
set_option linter.unusedVariables false
set_option linter.unusedSimpArgs false
attribute [local go_sem] Oper.semAt_some
/-! Two that own the same blocks. -/
def Det2 (A B : Asn) : Prop := ∀ w w' O O', A.P w O → B.P w' O' → ∀ k, O k ↔ O' k
theorem det_map (f : Nat) (E E' : List En) : Det2 (aMap Try.prog 3 f E) (aMap Try.prog 3 f E') := fun w w' O O' h h' k => (h.2 k).trans (h'.2 k).symm
theorem det_vec (e size v n xs) : Det2 (Asn.vec e size v n xs) (Asn.vec e size v n xs) := fun w w' O O' h h' k => (h.2 k).trans (h'.2 k).symm
theorem det_emp : Det2 Asn.emp Asn.emp := fun w w' O O' h h' k => ⟨fun x => (h k x).elim, fun x => (h' k x).elim⟩
theorem det_mul {A B C D : Asn} (h : Det2 A B) (h' : Det2 C D) : Det2 (A * C) (B * D) := by
  rintro w w' O O' ⟨X, Y, hX, hY, -, hO⟩ ⟨X', Y', hX', hY', -, hO'⟩ k
  rw [hO, hO', h _ _ _ _ hX hX' k, h' _ _ _ _ hY hY' k]
theorem det_gl (G : List Gp) : Det2 (aGl G) (aGl G) := by
  induction G with
  | nil => exact det_emp
  | cons x G ih => exact det_mul (det_vec _ _ _ _ _) ih
theorem det_gm (g : Nat) (G : List Gp) : Det2 (aGm g G) (aGm g G) := det_mul (det_map _ _ _) (det_gl G)
/-! The iterator: from the last one to the first. -/
def VKp (gs : Nat) (v : Value) (A B : World) : Prop := A.heap.size ≤ B.heap.size ∧ B.heap[gs]? = A.heap[gs]? ∧ ∀ k, VB v k → B.heap[k]? = A.heap[k]?
def bwd (l : List Int) : List (Int × Int) := (l.zipIdx.map fun p => ((p.2 : Int), p.1)).reverse
theorem bwd_len (l : List Int) : (bwd l).length = l.length := by simp [bwd]
theorem bwd_take (l : List Int) (k : Nat) (x : Int) (h : l[k]? = some x) : (bwd l)[l.length - 1 - k]? = some ((k : Int), x) := by
  have hk := (List.getElem?_eq_some_iff.1 h).1
  unfold bwd
  rw [List.getElem?_reverse (by simp; omega)]
  simp
  rw [show l.length - 1 - (l.length - 1 - k) = k by omega]
  exact ⟨h, rfl⟩
theorem vkp_keep {gs : Nat} {v : Value} {l : List Int} {A B : World} (hg : ∀ k, VB v k → k ≠ gs) (h : Blk A gs 26 #[v] ∧ Vec A 3 1 v l.length (numsK l)) (hk : VKp gs v A B) : Blk B gs 26 #[v] ∧ Vec B 3 1 v l.length (numsK l) := by
  obtain ⟨h1, h2, h3⟩ := hk
  refine ⟨?_, ?_⟩
  · have h4 := h.1
    unfold Blk at h4 ⊢
    rw [h2]
    exact h4
  · obtain ⟨h5, h6⟩ := h.2
    refine ⟨h5, ?_⟩
    rcases h6 with h6 | ⟨g, cap, cur, e, a1, a2, a3⟩
    · exact Or.inl h6
    · exact Or.inr ⟨g, cap, cur, e, a1, by rw [h3 g (by rw [e]; rfl)]; exact a2, a3⟩
abbrev Bw (l : List Int) : Type := {p : Int × Int // p ∈ bwd l}
def bwA (l : List Int) : List (Bw l) := (bwd l).attach
theorem bwA_len (l : List Int) : (bwA l).length = l.length := by unfold bwA; rw [List.length_attach, bwd_len]
theorem bwA_val (l : List Int) : (bwA l).map (·.1) = bwd l := by unfold bwA; exact List.attach_map_subtype_val _
theorem bwA_take (l : List Int) (k : Nat) (x : Int) (h : l[k]? = some x) : ∃ y : Bw l, (bwA l)[l.length - 1 - k]? = some y ∧ y.1 = ((k : Int), x) := by
  have h1 := bwd_take l k x h
  have h2 : ((bwA l).map (·.1))[l.length - 1 - k]? = some ((k : Int), x) := by rw [bwA_val]; exact h1
  rw [List.getElem?_map] at h2
  obtain ⟨y, h3, h4⟩ := Option.map_eq_some_iff.1 h2
  exact ⟨y, h3, h4⟩
set_option maxRecDepth 100000 in
set_option maxHeartbeats 8000000 in
theorem back_walk (n : Nat) (hn : 3 ≤ n) (ly : Nat) (w : World) (gs : Nat) (v : Value) (l : List Int) (hl : l.length ≤ 4000000)
    (hb : Blk w gs 26 #[v]) (hv : Vec w 3 1 v l.length (numsK l)) (hgs : ∀ k, VB v k → k ≠ gs)
    (J Jx : List (Bw l) → World → Prop) (W1 : World) (hW : Below w.heap.size w W1) (hJ : AbidesFrom W1.heap.size J) (hJx : AbidesFrom W1.heap.size Jx)
    (hY : ∀ pre x W2, J pre W2 → pre.length < (bwA l).length → YieldAt Fence.wide (n - 1) Try.prog ly #[.int .i64 x.1.1, .int .i64 x.1.2] W2 fun e W' =>
      (e = .returned (.bool true) ∧ J (pre ++ [x]) W' ∧ VKp gs v W2 W') ∨ (e = .returned (.bool false) ∧ Jx (pre ++ [x]) W'))
    (h0 : J [] W1) :
    CallsIn Fence.wide n Try.prog 23 #[.func (.yield ly) #[] #[], .pointer (some ⟨gs, 0, none⟩)] W1 fun e W' => (∃ v, e = .returned v) ∧
      ((∃ xs, xs = bwA l ∧ J xs W') ∨ (∃ pre, True ∧ Jx pre W')) := by
  obtain ⟨A, c, rfl⟩ := hv.slice
  have HJ := Lib.hid hJ
  have HJX := Lib.hid hJx
  have hb1 : Blk W1 gs 26 #[.slice A l.length c] := hb.keepB hW
  have hv1 := hv.keepB hW
  have c0 : W1.cell? ⟨gs, 0, none⟩ = some (.slice A l.length c) := hb1.cell 0
  have HS : Hid (Blk W1 gs 26 #[.slice A l.length c] ∧ Vec W1 3 1 (.slice A l.length c) l.length (numsK l)) := Lib.hid ⟨hb1, hv1⟩
  have H0 : Hid (J ((bwA l).take 0) W1) := Lib.hid h0
  clear hJ hJx hb hv hb1 hv1 h0 hW
  refine callsIn_of_wp Try.func23 rfl trivial ?_ rfl
  simp only [Try.ntmps23, List.size_toArray, List.length_cons, List.length_nil, Nat.reduceAdd, Nat.reduceSub, Array.replicate_succ, Array.replicate_zero, List.push_toArray, List.append_toArray, List.nil_append, List.cons_append]
  gi_wp2
  clear c0
  gi_loopw [3] (fun i wr => ∃ k : Nat, k ≤ l.length ∧ i = .int .i64 ((k : Int) - 1) ∧ Hid (Blk wr gs 26 #[.slice A l.length c] ∧ Vec wr 3 1 (.slice A l.length c) l.length (numsK l)) ∧ Hid (J ((bwA l).take (l.length - k)) wr)) (fun i _ => (intOf i + 1).toNat)
  case atStart => exact ⟨l.length, Nat.le_refl _, by go_num, HS, by rw [Nat.sub_self]; exact H0⟩
  case round =>
    clear HS H0
    obtain ⟨k, hk, rfl, HS, HJ1⟩ := hrel
    cases k with
    | zero =>
      rw [Nat.sub_zero, ← bwA_len, List.take_length] at HJ1
      gi_wp2
      refine bodyPost_end (results_none rfl _ _ _) rfl ?_
      exact ⟨⟨_, rfl⟩, Or.inl ⟨_, rfl, HJ1.out⟩⟩
    | succ k =>
      obtain ⟨x, hx⟩ : ∃ x, l[k]? = some x := ⟨l[k]'(by omega), List.getElem?_eq_getElem _⟩
      obtain ⟨y, hbt, hyx⟩ := bwA_take l k x hx
      rw [show l.length - 1 - k = l.length - (k + 1) by omega] at hbt
      have hsn : (bwA l).take (l.length - k) = (bwA l).take (l.length - (k + 1)) ++ [y] := by
        rw [← take_snoc _ _ _ hbt, show l.length - (k + 1) + 1 = l.length - k by omega]
      have HSN := Lib.hid hsn
      rw [show (((k + 1 : Nat) : Int) - 1) = (k : Int) by omega]
      have c0 : wr.cell? ⟨gs, 0, none⟩ = some (.slice A l.length c) := HS.out.1.cell 0
      rcases HS.out.2.forms with ⟨-, hz⟩ | ⟨gr, cr, her, -, hnc, hcm⟩
      · omega
      cases her
      have hcx : wr.cell? ⟨gr, k, none⟩ = some (.int .i64 x) := HS.out.2.cell (by unfold numsK; rw [List.getElem?_map, hx]; rfl)
      obtain ⟨fn, tmps, assign, body, hy, hR⟩ := hY _ y wr HJ1.out (by rw [List.length_take, bwA_len]; omega)
      rw [hyx] at hy
      have hk2 : k < l.length := by omega
      clear hx hbt hsn hyx hnc hcm
      gi_wp2
      refine ⟨fun _ => by omega, ?_⟩
      refine hR.mono ?_
      rintro e W3 (⟨rfl, hJ3, hk3⟩ | ⟨rfl, hJx3⟩)
      · have HS3 : Hid (Blk W3 gs 26 #[.slice (some ⟨gr, 0, none⟩) l.length c] ∧ Vec W3 3 1 (.slice (some ⟨gr, 0, none⟩) l.length c) l.length (numsK l)) := Lib.hid (vkp_keep hgs HS.out hk3)
        gi_wp2
        refine ⟨⟨k, by omega, by go_num, HS3, by rw [HSN.out]; exact Lib.hid hJ3⟩, by simp [intOf]⟩
      · gi_wp2
        refine bodyPost_ret (results_none rfl _ _ _) rfl ?_
        exact ⟨⟨_, rfl⟩, Or.inr ⟨_, trivial, hJx3⟩⟩
end Go.Proofs.Ytbcemognghkmcaa.Kt
