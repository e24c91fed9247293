/- Blockers in a row: slices.AppendSeq, Collect, Sorted over the iterator. -/
import Derived.Test.YtikdjgholjealaaGreatDoorLkE
import Derived.Test.YtikdjgholjealaaGreatDoorLkI
import Derived.OwnWalkIn
namespace Go.Proofs.YtikdjgholjealaaGreatDoor.Lk
open Go.ChangeShapes Go.WideShapes Go.ChangeAt Go.RowKit Go.PlainAid Aid Md
open Go.Shelf
set_option linter.unusedVariables false
set_option linter.unusedSimpArgs false
attribute [local go_sem] Oper.semAt_some
section
variable {bb h l wt : Nat} {H : List Hol} {L : List Lin} {W : List Wan} {id : Int} {name : By} {mode : Int} {A : Option Addr} {m c : Nat} {ahead : List Int}
theorem row_apart {W : World} {base : Nat} {e : TypeId} {size : Nat} {v : Value} {k : Nat} {xs : List Value} (h : W.ownsRow base e size v k xs) {j : Nat} {o : Obj} (hj : W.heap[j]? = some o) (hno : ∀ cur, o ≠ .cells cur e (0, 0)) :
    v.ownBlock = none ∨ v.ownBlock ≠ some j := by
  rcases h.2 with ⟨rfl, _⟩ | ⟨g, cap, cur, rfl, _, hgb, _⟩
  · exact .inl rfl
  · refine .inr fun e' => ?_
    have : g = j := by simpa [Value.ownBlock] using e'
    subst this; rw [hgb] at hj; cases hj; exact hno cur rfl
theorem box_cell {W : World} {B : Nat} {v : Value} {t : TypeId} (h : W.heap[B]? = some (.cells #[v] t (0, 0))) : W.cell? ⟨B, 0, none⟩ = some v ∧ W.frozen? ⟨B, 0, none⟩ = false := by
  constructor <;> simp [World.cell?, World.frozen?, h]
theorem grownBy_setCell0_b (w : World) (a : Addr) (v : Value) : w.grownBy (w.setCell a v) (some a.block) :=
  ⟨rfl, rfl, rfl, (KeepsWalks.setCell w a v).size, fun k hk hne => Below.heap_setCell w a v k (fun e => hne (by rw [e]))⟩
/-- What has come so far. -/
def Got (w0 : World) (gs : Nat) (pre : List Int) (W : World) : Prop :=
  (∃ v, W.heap[gs]? = some (.cells #[v] 37 (0, 0)) ∧ W.ownsRow w0.heap.size 3 1 v pre.length (nums pre)) ∧ Below w0.heap.size w0 W
theorem got_own (w0 : World) (gs B : Nat) (hB : w0.heap.size ≤ B) : OwnFrom B (Got w0 gs) := by
  rintro s X X' row ⟨⟨v, hv, hrow⟩, hb⟩ hg hr
  refine ⟨⟨v, ?_, ?_⟩, hb.grown hg hb.size (fun k e => Nat.le_trans hB (hr k e).1)⟩
  · rw [hg.block gs (Array.getElem?_eq_some_iff.1 hv).1 (fun e => ?_)]
    · exact hv
    · obtain ⟨-, o, ho, hc⟩ := hr gs e.symm
      rw [hv] at ho; cases ho; cases hc
  · refine hrow.kept hg ?_
    cases row with
    | none =>
      cases hvb : v.ownBlock with
      | none => exact Or.inl rfl
      | some k => exact Or.inr (by simp)
    | some r =>
      obtain ⟨-, o, ho, hc⟩ := hr r rfl
      exact row_apart hrow ho (fun cur e => by rw [e] at hc; cases hc)
set_option maxRecDepth 100000 in
set_option maxHeartbeats 8000000 in
theorem append_it {gb gw gi ga : Nat} (w : World) (hk : Its w bb h l wt H L W gb gw gi ga id name mode A m c ahead) (hN : (blkL H W id name mode ahead).length ≤ 1000000) :
    CallsIn Fence.wide 6 Tryz.prog 67 #[.slice none 0 0, .func (.func 49) #[] #[.pointer (some ⟨gb, 0, none⟩), .pointer (some ⟨gw, 0, none⟩), .pointer (some ⟨gi, 0, none⟩), .pointer (some ⟨ga, 0, none⟩)]] w fun e w' => ∃ v xs, e = .returned v ∧ xs.Perm (blkL H W id name mode ahead) ∧ w'.ownsRow w.heap.size 3 1 v xs.length (nums xs) ∧ Below w.heap.size w w' := by
  obtain ⟨i0, hi, hz0, hz1, hz2⟩ := info_parts info_int
  have hne : ∀ (v : Value) cur, (Obj.cells #[v] 37 (0, 0)) ≠ .cells cur 3 (0, 0) := fun v cur e => by injection e with _ e2 _; exact absurd e2 (by decide)
  refine callsIn_of_wp_marks Tryz.func67 rfl trivial ?_ rfl
  simp only [Tryz.ntmps67, List.size_toArray, List.length_cons, List.length_nil, Nat.reduceAdd, Nat.reduceSub, Array.replicate_succ, Array.replicate_zero, List.push_toArray, List.append_toArray, List.nil_append, List.cons_append]
  gi_wp2
  have hbx : (w.alloc (.cells #[.slice none 0 0] 37)).heap[w.heap.size]? = some (.cells #[.slice none 0 0] 37 (0, 0)) := World.alloc_heap_new w _
  have hb0 : Below w.heap.size w (w.alloc (.cells #[.slice none 0 0] 37)) := (Below.refl _ w).alloc (Nat.le_refl _) _
  have hs1 : (w.alloc (.cells #[.slice none 0 0] 37)).heap.size = w.heap.size + 1 := by simp
  generalize w.alloc (.cells #[.slice none 0 0] 37) = w1 at *
  refine wpIn_rangeFunc_ownF rfl (by decide) rfl trivial (enters_of Tryz.func49 (by kernel_rfl) rfl)
    (blk_stops 5 (by omega) w hk) (fun h k => ⟨walksK_t h.1 k.1, belowK_t h.2 k.2⟩) (fun W l o o' hl h1 h2 h3 => ⟨walksK_b W l o o' hl h1 h2 h3, belowK_b (w := w1) (by omega) W l o o' hl h1 h2 h3⟩) hb0 (fun _ => rfl)
    (Got w w.heap.size) (fun c pre W => False)
    (got_own _ _ _ (by omega)) (fun c s W W' row hs => hs.elim)
    ⟨⟨_, hbx, World.ownsRow_nil _ _ _ _⟩, hb0⟩
    (fun x => { tmps := #[.slice none 0 0, .func (.func 49) #[] #[.pointer (some ⟨gb, 0, none⟩), .pointer (some ⟨gw, 0, none⟩), .pointer (some ⟨gi, 0, none⟩), .pointer (some ⟨ga, 0, none⟩)], .pointer (some ⟨w.heap.size, 0, none⟩), undef, .slice none 0 0, .int .i64 x, .func (.func 49) #[] #[.pointer (some ⟨gb, 0, none⟩), .pointer (some ⟨gw, 0, none⟩), .pointer (some ⟨gi, 0, none⟩), .pointer (some ⟨ga, 0, none⟩)], .int .i64 x, undef, undef, undef, undef, undef], defers := [] }) ?assign ?body ?done ?stop
  case assign =>
    intro l x W K hK
    gi_wp2
    simpa using hK
  case body =>
    rintro l pre x X ⟨⟨v, hv, hrow⟩, hb⟩ hlen
    obtain ⟨hc, hf⟩ := box_cell hv
    have hbl : w.heap.size < X.heap.size := (Array.getElem?_eq_some_iff.1 hv).1
    have hnb : some w.heap.size ≠ v.ownBlock := by
      rcases row_apart hrow hv (hne v) with e | e
      · rw [e]; simp
      · exact fun e' => e e'.symm
    gi_wp2_with (gi_at_builtin; refine wpListIn_append_own _ rfl _ _ 37 rfl w.heap.size 3 i0 (.int .i64 0) 1 8 Tryz.underlying37 hi hz0 hz1 hz2 rfl (by decide) _ _ _ rfl (hrow.alloc _) ⟨X.heap.size, 0, none⟩ 1 1 [.int .i64 x] rfl rfl (cell_one_new _ _ _) (by simp [Value.oneCell']) (by unfold maxLen; omega) (by omega) (by simp; omega) ?_)
    intro v' w3 hown' hg3 hnil3
    have hg3' : (X.alloc (.cells #[.int .i64 x] 3)).grownBy w3 v.ownBlock := hg3
    have hv3 : w3.heap[w.heap.size]? = some (.cells #[v] 37 (0, 0)) := (hg3'.block w.heap.size (by simp; omega) hnb).trans ((Below.heap_alloc _ _ w.heap.size hbl).trans hv)
    obtain ⟨hc3, hf3⟩ := box_cell hv3
    have hb3 : Below w.heap.size w w3 := (hb.alloc hb.size _).grown hg3' (by have := hb.size; simp; omega) (fun k e => (hrow.lt k e).1)
    have hk3 : KeepsOthers X w3 := (KeepsOthers.alloc _ _).trans (KeepsOthers.of_grownBy hg3' (fun j o e ho => by
      rcases (hrow.alloc (.cells #[.int .i64 x] 3)).2 with ⟨rfl, -⟩ | ⟨g, cap, cur, rfl, -, hgb, -⟩
      · cases e
      · have : g = j := by simpa [Value.ownBlock] using e
        subst this
        rw [hgb] at ho; cases ho; rfl))
    obtain ⟨g', cap', cur', rfl, hbase', hgb', hr1, hr2, hr3, hr4⟩ : ∃ g' cap' cur', v' = .slice (some ⟨g', 0, none⟩) (pre.length + 1) cap' ∧ w.heap.size ≤ g' ∧ w3.heap[g']? = some (.cells cur' 3 (0, 0)) ∧ pre.length + 1 ≤ cap' ∧ cap' ≤ maxLen ∧ cur'.size = cap' * 1 ∧ cur'.toList.take ((pre.length + 1) * 1) = nums pre ++ [.int .i64 x] := by
      rcases hown'.2 with ⟨_, h0⟩ | h'
      · exact absurd h0 (by omega)
      · exact h'
    clear hnil3 hg3 hc hf
    gi_wp2
    have hk4 := hk3.trans (KeepsOthers.setCell w3 ⟨w.heap.size, 0, none⟩ (.slice (some ⟨g', 0, none⟩) (pre.length + 1) cap'))
    have hx4 : (w3.setCell ⟨w.heap.size, 0, none⟩ (.slice (some ⟨g', 0, none⟩) (pre.length + 1) cap')).heap[w.heap.size]? = some (.cells #[.slice (some ⟨g', 0, none⟩) (pre.length + 1) cap'] 37 (0, 0)) := by
      have := Blk.set (w := w3) (g := w.heap.size) (T := 37) (cs := #[v]) hv3 0 (.slice (some ⟨g', 0, none⟩) (pre.length + 1) cap')
      exact this
    have hgne : g' ≠ w.heap.size := fun e => by rw [e, hv3] at hgb'; exact hne v _ (Option.some.inj hgb')
    refine ⟨hk4, ⟨hk4.walks, (show Below w.heap.size X _ from ?_)⟩, ⟨⟨_, hx4, ?_⟩, hb3.setCell (Nat.le_refl _) _⟩⟩
    · exact ((((Below.refl _ X).alloc hb.size _).grown hg3' (by have := hb.size; simp; omega) (fun k e => (hrow.lt k e).1))).setCell (Nat.le_refl _) _
    · have h4 := hown'.kept (grownBy_setCell0_b w3 ⟨w.heap.size, 0, none⟩ _ : w3.grownBy (w3.setCell ⟨w.heap.size, 0, none⟩ (.slice (some ⟨g', 0, none⟩) (pre.length + 1) cap')) (some w.heap.size)) (Or.inr (by simp [Value.ownBlock]; exact hgne))
      rw [List.length_append]
      have hnn : nums (pre ++ [x]) = nums pre ++ [.int .i64 x] := by unfold nums; rw [List.map_append]; rfl
      rw [hnn]
      exact h4
  case done =>
    rintro D ys W' hD hS ⟨⟨v, hv, hrow⟩, hb⟩ hK
    obtain ⟨hc, hf⟩ := box_cell hv
    gi_wp2
    refine ⟨by simp, .inl ⟨_, _, rfl, run_takeDeferred hK, ?_⟩⟩
    refine ⟨v, by simp [results, Tryz.f67, go_sem], v, ys, rfl, hS, hrow.kept (grownBy_putObj' _ D (.deferred none)) (row_apart hrow hK (fun cur e => by cases e)), hb.grown (grownBy_putObj' _ D _) hb.size (fun k e => by cases e; omega)⟩
  case stop =>
    rintro D c pre W' hD - hx
    exact hx.elim
set_option maxRecDepth 100000 in
set_option maxHeartbeats 4000000 in
theorem collect_it {gb gw gi ga : Nat} (w : World) (hk : Its w bb h l wt H L W gb gw gi ga id name mode A m c ahead) (hN : (blkL H W id name mode ahead).length ≤ 1000000) :
    Calls Tryz.prog 47 #[.func (.func 49) #[] #[.pointer (some ⟨gb, 0, none⟩), .pointer (some ⟨gw, 0, none⟩), .pointer (some ⟨gi, 0, none⟩), .pointer (some ⟨ga, 0, none⟩)]] w fun e w' => ∃ v xs, e = .returned v ∧ xs.Perm (blkL H W id name mode ahead) ∧ w'.ownsRow w.heap.size 3 1 v xs.length (nums xs) ∧ Below w.heap.size w w' := by
  have HA := Lib.hid ((callsIn_wide (n := 6)).1 (append_it w hk hN))
  go_enter Tryz.func47, Tryz.ntmps47
  go_wp2_with fail
  refine HA.out.mono ?_
  rintro e w1 ⟨v, xs, rfl, hp, hr, hb⟩
  have HP := Lib.hid hp
  have HR := Lib.hid hr
  have HB := Lib.hid hb
  clear HA hp hr hb
  go_wp2_with fail
  go_returns
  exact ⟨v, xs, rfl, HP.out, HR.out, HB.out⟩
end
end Go.Proofs.YtikdjgholjealaaGreatDoor.Lk
