/- Whether one may have what it wants. -/
import Derived.Test.YtikdjgholjealaaGreatDoorLkD
namespace Go.Proofs.YtikdjgholjealaaGreatDoor.Lk
open Go.ChangeShapes Go.WideShapes Go.ChangeAt Go.RowKit Go.PlainAid Aid Md
open Go.Shelf
set_option linter.unusedVariables false
set_option linter.unusedSimpArgs false
attribute [local go_sem] Oper.semAt_some
section
variable {bb h l wt : Nat} {H : List Hol} {L : List Lin} {W : List Wan} {id : Int} {name : By} {mode : Int} {A : Option Addr} {m c : Nat} {ahead : List Int}
theorem blk_stops {gb gw gi ga : Nat} (n : Nat) (hn : 3 ≤ n) (w : World) (k : Its w bb h l wt H L W gb gw gi ga id name mode A m c ahead) :
    SeqStopsK Fence.wide n Tryz.prog 49 #[.pointer (some ⟨gb, 0, none⟩), .pointer (some ⟨gw, 0, none⟩), .pointer (some ⟨gi, 0, none⟩), .pointer (some ⟨ga, 0, none⟩)] (fun x : Int => #[.int .i64 x]) (Kp w.heap.size)
      (fun xs => xs.Perm (blkL H W id name mode ahead)) (fun pre => pre ≠ [] ∧ ∀ x, x ∈ pre → x ∈ blkL H W id name mode ahead) (blkL H W id name mode ahead).length w :=
  fun ly J Jx W1 hW hJ hJx hY h0 => it_walk n hn ly w k J Jx W1 hW hJ hJx hY h0
set_option maxRecDepth 100000 in
set_option maxHeartbeats 4000000 in
theorem blockers_any (w : World) :
    Calls Tryz.prog 35 #[bPtr bb, .int .i64 id, .agg #[.string (ofL name), .int .i64 mode], .slice A m c] w fun e w' => ∃ gb gi gw ga, e = .returned (.func (.func 49) #[] #[.pointer (some ⟨gb, 0, none⟩), .pointer (some ⟨gw, 0, none⟩), .pointer (some ⟨gi, 0, none⟩), .pointer (some ⟨ga, 0, none⟩)]) ∧
      Aid.Own w No w' (Asn.blk ga 37 #[.slice A m c] * (Asn.blk gw 32 #[.string (ofL name), .int .i64 mode] * (Asn.blk gi 3 #[.int .i64 id] * (Asn.blk gb 24 #[bPtr bb] * Asn.emp)))) := by
  have S := Lib.hid (((((Aid.Own.none w).alloc #[bPtr bb] 24).alloc #[.int .i64 id] 3).alloc #[.string (ofL name), .int .i64 mode] 32).alloc #[.slice A m c] 37)
  have hmf : ∀ (fn : Fn) (first cap : Array Value) (w : World), (Instr.makeFunc fn first cap).run Tryz.prog w = .ok (.func fn first cap) w := fun _ _ _ _ => rfl
  go_enter Tryz.func35, Tryz.ntmps35
  go_wp2_with fail
  go_returns
  have S' := S.out
  simp only [World.size_alloc] at S'
  simp only [World.size_alloc]
  exact ⟨_, _, _, _, rfl, S'⟩
theorem own_joinW {w0 w w' : World} {O0 : Nat → Prop} {A B : Asn} (h : Aid.Own w0 O0 w A) (k : Aid.Own w No w' B) : Aid.Own w0 O0 w' (B * A) :=
  h.then fun O hO => k.frame hO (fun _ h => h.elim) (fun _ => ⟨Or.inr, fun h => h.elim (fun x => x.elim) _root_.id⟩)
set_option maxRecDepth 100000 in
set_option maxHeartbeats 8000000 in
theorem free_any (w : World) (k : Bk w bb h l wt H L W) (ht : Tabs w) (hr : Nums w A m ahead) (hi : I64w id) (hnm : name.length ≤ 1000) (ha : ∀ o, o ∈ ahead → I64w o) (hm : m ≤ 1000000) :
    Calls Tryz.prog 22 #[bPtr bb, .int .i64 id, .agg #[.string (ofL name), .int .i64 mode], .slice A m c] w fun e w' => e = .returned (.bool (decide (blkL H W id name mode ahead = []))) ∧ Below w.heap.size w w' := by
  refine (callsIn_wide (n := 5)).1 ?_
  have S := Lib.hid (((Aid.Own.none w).alloc #[.string (ofL name), .int .i64 mode] 32).alloc #[.bool false] 4)
  refine callsIn_of_wp_marks Tryz.func22 rfl trivial ?_ rfl
  simp only [Tryz.ntmps22, List.size_toArray, List.length_cons, List.length_nil, Nat.reduceAdd, Nat.reduceSub, Array.replicate_succ, Array.replicate_zero, List.push_toArray, List.append_toArray, List.nil_append, List.cons_append]
  gi_wp2
  refine ⟨trivial, ?_⟩
  refine (callsIn_wide.2 (blockers_any _)).mono ?_
  rintro e w2 ⟨gb, gi, gw, ga, rfl, hX⟩
  obtain ⟨g6, hg6⟩ : ∃ g, g = w.heap.size := ⟨_, rfl⟩
  have S2 := Lib.hid (own_joinW S.out hX)
  rw [show (w.alloc (.cells #[.string (ofL name), .int .i64 mode] 32)).heap.size = w.heap.size + 1 by simp, ← hg6] at S2
  clear hX S
  gi_wp2
  subst hg6
  have sg := S2.out
  have bga := sg.left.left.has (has_blk _ _ _)
  have bgw := sg.left.right.left.has (has_blk _ _ _)
  have bgi := sg.left.right.right.left.has (has_blk _ _ _)
  have bgb := sg.left.right.right.right.left.has (has_blk _ _ _)
  have b8 := sg.right.left.has (has_blk _ _ _)
  have hB0 := sg.bel
  have hk : Its w2 bb h l wt H L W gb gw gi ga id name mode A m c ahead :=
    ⟨k.keepB hB0, ht.keep hB0, bgb.cell 0, bgw.cell 0, bgw.cell 1, bgi.cell 0, bga.cell 0, hr.keepB hB0, ⟨bgb.lt, bgw.lt, bgi.lt, bga.lt⟩, hi, hnm, ha, hm⟩
  have c8 : w2.cell? ⟨w.heap.size + 1, 0, none⟩ = some (.bool false) := b8.cell 0
  have f8 := b8.free 0
  clear S2 sg bga bgw bgi bgb b8
  refine wpIn_rangeFunc_ownF rfl (by decide) rfl trivial (enters_of Tryz.func49 (by kernel_rfl) rfl)
    (blk_stops 4 (by omega) w2 hk) (fun h k => ⟨walksK_t h.1 k.1, belowK_t h.2 k.2⟩) (fun W l o o' hl h1 h2 h3 => ⟨walksK_b W l o o' hl h1 h2 h3, belowK_b (Nat.le_refl _) W l o o' hl h1 h2 h3⟩) (Below.refl _ _) (fun _ => rfl)
    (fun pre W => (pre = [] ∧ W.cell? ⟨w.heap.size + 1, 0, none⟩ = some (.bool false) ∧ W.frozen? ⟨w.heap.size + 1, 0, none⟩ = false) ∧ Below w.heap.size w W)
    (fun c pre W => (c = .ret ∧ W.cell? ⟨w.heap.size + 1, 0, none⟩ = some (.bool false)) ∧ Below w.heap.size w W)
    (OwnFrom.and (Own.from (fun s A B row hs hg hr => ⟨hs.1, cell_kept hs.2.1 hg hr, (frozen_kept hs.2.1 hg hr).trans hs.2.2⟩) _) (ownFrom_below (Nat.le_refl _) hB0.size))
    (fun c => OwnFrom.and (Own.from (fun s A B row hs hg hr => ⟨hs.1, cell_kept hs.2 hg hr⟩) _) (ownFrom_below (Nat.le_refl _) hB0.size))
    ⟨⟨rfl, c8, f8⟩, hB0⟩
    (fun x => { tmps := #[bPtr bb, .int .i64 id, .agg #[.string (ofL name), .int .i64 mode], .slice A m c, undef, undef, .pointer (some ⟨w.heap.size, 0, none⟩), undef, .pointer (some ⟨w.heap.size + 1, 0, none⟩), bPtr bb, .int .i64 id, .agg #[.string (ofL name), .int .i64 mode], .slice A m c, .func (.func 49) #[] #[.pointer (some ⟨gb, 0, none⟩), .pointer (some ⟨gw, 0, none⟩), .pointer (some ⟨gi, 0, none⟩), .pointer (some ⟨ga, 0, none⟩)], .int .i64 x], defers := [] }) ?assign ?body ?done ?stop
  case assign =>
    intro l x W K hK
    gi_wp2
    simpa using hK
  case body =>
    rintro l pre x W ⟨⟨hp, hcr, hfr⟩, hB⟩ _
    gi_wp2
    have hs : w.heap.size ≤ w.heap.size + 1 := Nat.le_succ _
    exact ⟨KeepsOthers.setCell _ _ _, ⟨rfl, World.cell?_setCell_same' _ _ _ (by rw [hcr]; rfl)⟩, hB.setCell (p := ⟨w.heap.size + 1, 0, none⟩) hs _⟩
  case done =>
    rintro D ys W' hD hS ⟨⟨hne, hcr, hfr⟩, hB⟩ hK
    subst hne
    have hE : blkL H W id name mode ahead = [] := hS.symm.eq_nil
    gi_wp2
    have hs : w.heap.size ≤ w.heap.size + 1 := Nat.le_succ _
    have hD' : w.heap.size ≤ D := by have := hB0.size; omega
    have hK' := (KeepsOthers.setCell W' ⟨w.heap.size + 1, 0, none⟩ (.bool true)).same D _ hK rfl
    refine ⟨by simp, .inl ⟨_, _, rfl, run_takeDeferred hK', ?_⟩⟩
    have hc5 := cell_kept (World.cell?_setCell_same' W' ⟨w.heap.size + 1, 0, none⟩ (.bool true) (by rw [hcr]; rfl)) (grownBy_putObj' _ D (.deferred none)) (fun r e => by cases e; exact ⟨_, hK', rfl⟩)
    refine ⟨.bool true, ?_, by rw [hE]; rfl, (hB.setCell (p := ⟨w.heap.size + 1, 0, none⟩) hs _).trans (belowK_b (w := w) (Nat.le_refl _) _ D _ _ hD' hK' rfl rfl)⟩
    simp [results, Tryz.f22, go_sem, hc5]
  case stop =>
    rintro D c pre W' hD ⟨hpre, hall⟩ ⟨⟨rfl, hcr⟩, hB⟩ hK
    have hE : blkL H W id name mode ahead ≠ [] := by
      intro e
      obtain ⟨y, hy⟩ := List.exists_mem_of_ne_nil _ hpre
      have := hall y hy
      rw [e] at this; cases this
    have hD' : w.heap.size ≤ D := by have := hB0.size; omega
    gi_wp2
    refine ⟨by simp, .inl ⟨_, _, rfl, run_takeDeferred hK, ?_⟩⟩
    have hc5 := cell_kept hcr (grownBy_putObj' _ D (.deferred none)) (fun r e => by cases e; exact ⟨_, hK, rfl⟩)
    refine ⟨.bool false, ?_, by rw [decide_eq_false hE], hB.trans (belowK_b (w := w) (Nat.le_refl _) W' D _ _ hD' hK rfl rfl)⟩
    simp [results, Tryz.f22, go_sem, hc5]
end
end Go.Proofs.YtikdjgholjealaaGreatDoor.Lk
