/- For whom one waits: the iterator. -/
import Derived.Test.YtikdjgholjealaaGreatDoorLkC
import Derived.RangeFuncNested
import Derived.RangeFuncBound
import Derived.RangeFuncCalls
import Derived.RangeFuncLeaves
import Derived.Shelf.Abstract
import Derived.Shelf.RegionOpen
import Derived.OwnWalkIn
import Derived.TacticsInMore
import Derived.LoopNIn
import Derived.LoopIn
import Derived.Sort.QuietIn
namespace Go.Proofs.YtikdjgholjealaaGreatDoor.Lk
open Go.ChangeShapes Go.WideShapes Go.ChangeAt Go.RowKit Go.PlainAid Aid Md
open Go.Shelf
set_option linter.unusedVariables false
set_option linter.unusedSimpArgs false
attribute [local go_sem] Oper.semAt_some
def blkH (l : List (Int × Int)) (id mode : Int) : List Int := (l.filter fun p => !decide (p.1 = id) && !goesZ mode p.2).map Prod.fst
def holE (H : List Hol) (name : By) : List (Int × Int) := match holL H name with
  | some x => x.2.2
  | none => []
def blkA (W : List Wan) (mode : Int) (ahead : List Int) : List Int := ahead.filter fun o => !goesZ mode (wV W o).2
def blkL (H : List Hol) (W : List Wan) (id : Int) (name : By) (mode : Int) (ahead : List Int) : List Int :=
  blkH (holE H name) id mode ++ (if md H id name ≠ 0 then [] else blkA W mode ahead)
/-- A row of numbers. -/
def Nums (w : World) (A : Option Addr) (m : Nat) (l : List Int) : Prop := l.length = m ∧ (m = 0 ∨ ∃ b o, A = some ⟨b, o, none⟩ ∧ b < w.heap.size ∧ ∀ j, j < m → w.cell? ⟨b, o + j, none⟩ = some (.int .i64 (l.getD j 0)))
/-- What the iterator has before it. -/
structure Its (w : World) (bb h l wt : Nat) (H : List Hol) (L : List Lin) (W : List Wan) (gb gw gi ga : Nat) (id : Int) (name : By) (mode : Int) (A : Option Addr) (m c : Nat) (ahead : List Int) : Prop where
  bk : Bk w bb h l wt H L W
  tabs : Tabs w
  cb : w.cell? ⟨gb, 0, none⟩ = some (bPtr bb)
  cn : w.cell? ⟨gw, 0, none⟩ = some (.string (ofL name))
  cm : w.cell? ⟨gw, 1, none⟩ = some (.int .i64 mode)
  ci : w.cell? ⟨gi, 0, none⟩ = some (.int .i64 id)
  ca : w.cell? ⟨ga, 0, none⟩ = some (.slice A m c)
  row : Nums w A m ahead
  lt : gb < w.heap.size ∧ gw < w.heap.size ∧ gi < w.heap.size ∧ ga < w.heap.size
  hi : I64w id
  hn : name.length ≤ 1000
  ha : ∀ o, o ∈ ahead → I64w o
  hm : m ≤ 1000000
theorem Nums.keepB {w w' : World} {A : Option Addr} {m : Nat} {l : List Int} (h : Nums w A m l) (hb : Below w.heap.size w w') : Nums w' A m l := by
  obtain ⟨h1, h2⟩ := h
  refine ⟨h1, ?_⟩
  rcases h2 with h2 | ⟨b, o, rfl, hl, hc⟩
  · exact Or.inl h2
  · exact Or.inr ⟨b, o, rfl, Nat.lt_of_lt_of_le hl hb.size, fun j hj => by rw [(bcell hb).1 _ _ hl]; exact hc j hj⟩
section
variable {bb h l wt : Nat} {H : List Hol} {L : List Lin} {W : List Wan} {gb gw gi ga : Nat} {id : Int} {name : By} {mode : Int} {A : Option Addr} {m c : Nat} {ahead : List Int}
theorem Its.keepB {w w' : World} (k : Its w bb h l wt H L W gb gw gi ga id name mode A m c ahead) (hb : Below w.heap.size w w') : Its w' bb h l wt H L W gb gw gi ga id name mode A m c ahead := by
  obtain ⟨l1, l2, l3, l4⟩ := k.lt
  have hs := hb.size
  exact ⟨k.bk.keepB hb, k.tabs.keep hb, by rw [(bcell hb).1 _ _ l1]; exact k.cb, by rw [(bcell hb).1 _ _ l2]; exact k.cn, by rw [(bcell hb).1 _ _ l2]; exact k.cm, by rw [(bcell hb).1 _ _ l3]; exact k.ci, by rw [(bcell hb).1 _ _ l4]; exact k.ca, k.row.keepB hb, ⟨by omega, by omega, by omega, by omega⟩, k.hi, k.hn, k.ha, k.hm⟩
theorem rng_walks {w w' : World} {P : Program} {k : TypeId} {b r : Nat} {E L : List En} (h : Rng w P k b r E L) (hk : KeepsWalks w w') : Rng w' P k b r E L := by
  obtain ⟨n, D, left, cnt, h1, ⟨es, clock, hb, hF, hE⟩, more⟩ := h
  exact ⟨n, D, left, cnt, h1.of_walks hk, ⟨es, clock, hk.same b _ hb rfl, hF, hE⟩, more⟩
theorem key_inv {key : Value} {a : Int} (h : keyOf Tryz.prog 3 key = some (.int .i64 a)) : key = .int .i64 a := by
  have u : Tryz.prog.underlying 3 = some (.int .i64) := Tryz.underlying3
  cases key <;> simp [keyOf, u, mapKey] at h
  obtain ⟨⟨rfl, -⟩, -, rfl⟩ := h
  rfl
theorem blkH_snoc (l : List (Int × Int)) (y : Int × Int) (id mode : Int) : blkH (l ++ [y]) id mode = blkH l id mode ++ (if !decide (y.1 = id) && !goesZ mode y.2 then [y.1] else []) := by
  unfold blkH
  rw [List.filter_append, List.map_append]
  congr 1
  rw [List.filter_cons]
  split <;> rfl
theorem blkH_perm {l l' : List (Int × Int)} (h : l.Perm l') (id mode : Int) : (blkH l id mode).Perm (blkH l' id mode) := (h.filter _).map _
theorem bel_drew {B : Nat} {w w' : World} (h : Below B w w') : Below B w w'.drew := h.trans ⟨rfl, rfl, rfl, Nat.le_refl _, fun _ _ => rfl⟩
theorem bel_drewN {B : Nat} {w w' : World} (h : Below B w w') (q : Nat) : Below B w (w'.drewN q) := h.trans ⟨rfl, rfl, rfl, Nat.le_refl _, fun _ _ => rfl⟩
theorem field_mode (nm : ByteArray) (md : Int) (w : World) : (Instr.field 32 (.agg #[.string nm, .int .i64 md]) 1).run Tryz.prog w = .ok (.int .i64 md) w := by kernel_rfl
def Kp (n0 : Nat) (W1 W2 : World) : Prop := KeepsWalks W1 W2 ∧ Below n0 W1 W2
set_option maxRecDepth 100000 in
set_option maxHeartbeats 8000000 in
theorem it_walk (n : Nat) (hn : 3 ≤ n) (ly : Nat) (w : World)
    (k : Its w bb h l wt H L W gb gw gi ga id name mode A m c ahead) (J Jx : List Int → World → Prop) (W1 : World) (hW : Below w.heap.size w W1) (hJ : AbidesFrom W1.heap.size J) (hJx : AbidesFrom W1.heap.size Jx)
    (hY : ∀ pre x W2, J pre W2 → pre.length < (blkL H W id name mode ahead).length → YieldAt Fence.wide (n - 1) Tryz.prog ly #[.int .i64 x] W2 fun e W' =>
      (e = .returned (.bool true) ∧ J (pre ++ [x]) W' ∧ Kp w.heap.size W2 W') ∨ (e = .returned (.bool false) ∧ Jx (pre ++ [x]) W'))
    (h0 : J [] W1) :
    CallsIn Fence.wide n Tryz.prog 49 #[.func (.yield ly) #[] #[], .pointer (some ⟨gb, 0, none⟩), .pointer (some ⟨gw, 0, none⟩), .pointer (some ⟨gi, 0, none⟩), .pointer (some ⟨ga, 0, none⟩)] W1 fun e W' => (∃ v, e = .returned v) ∧
      ((∃ xs, xs.Perm (blkL H W id name mode ahead) ∧ J xs W') ∨ (∃ pre, (pre ≠ [] ∧ ∀ x, x ∈ pre → x ∈ blkL H W id name mode ahead) ∧ Jx pre W')) := by
  have k1 := k.keepB hW
  have K1 := Lib.hid k1
  have e1 : ∀ q, (Instr.lookup 48 (.map (some h)) (.string (ofL name)) false).run Tryz.prog (W1.drewN q) = .ok (hV H name) (W1.drewN q) := fun q => (k1.bk.keepB (w' := W1.drewN q) ⟨rfl, rfl, rfl, Nat.le_refl _, fun _ _ => rfl⟩).look_h name k1.hn
  have cb := k1.cb
  have cn := k1.cn
  have c0 : W1.cell? ⟨bb, 0, none⟩ = some (.map (some h)) := k1.bk.blk.cell 0
  clear k1
  unfold bPtr at cb
  refine callsIn_of_wp Tryz.func49 rfl trivial ?_ rfl
  simp only [Tryz.ntmps49, List.size_toArray, List.length_cons, List.length_nil, Nat.reduceAdd, Nat.reduceSub, Array.replicate_succ, Array.replicate_zero, List.push_toArray, List.append_toArray, List.nil_append, List.cons_append]
  gi_wp2
  gi_quiet (fail)
  have hW2 : Below w.heap.size w (W1.drewN nq) := hW.trans ⟨rfl, rfl, rfl, Nat.le_refl _, fun _ _ => rfl⟩
  have h02 : J [] (W1.drewN nq) := hJ [] W1 _ none h0 ⟨rfl, rfl, rfl, Nat.le_refl _, fun _ _ _ => rfl⟩ (fun r e => by cases e)
  have hsz : (W1.drewN nq).heap.size = W1.heap.size := rfl
  rw [← hsz] at hJ hJx
  clear hsz e1 cb cn c0 h0 K1 hW
  generalize W1.drewN nq = W2 at *
  cases hf : holL H name with
  | none =>
    have hv : hV H name = .map none := by unfold hV; rw [hf]
    rw [hv]
    have hr := run_range_nilMap (P := Tryz.prog) W2 60 _ _ Tryz.underlying60
    have hnx := run_next_nilMap (P := Tryz.prog) W2 0 0 0 #[]
    have hE0 : holE H name = [] := by unfold holE; rw [hf]
    have HJ := Lib.hid hJ
    have HJX := Lib.hid hJx
    have HJ1 : Hid (J (blkH [] id mode) (W2.alloc (.mapIter none 0 #[] 0))) := Lib.hid (hJ [] _ _ none h02 (World.grownBy_alloc _ _ _) (fun r e => by cases e))
    have HB : Hid (Below w.heap.size w (W2.alloc (.mapIter none 0 #[] 0))) := Lib.hid (hW2.alloc hW2.size _)
    clear h02 hJ hJx
    gi_wp2
    gi_loopw [7] (fun s7 wr => wr = W2.alloc (.mapIter none 0 #[] 0)) (fun _ _ => 0)
    case atStart => rfl
    case round =>
      obtain rfl := hrel
      have hbp := blkH_perm (List.Perm.refl ([] : List (Int × Int))) id mode
      have hbl : blkL H W id name mode ahead = blkH ([] : List (Int × Int)) id mode ++ (if md H id name ≠ 0 then [] else blkA W mode ahead) := by unfold blkL; rw [hE0]
      have k4 := k.keepB HB.out
      have ci := k4.ci
      have e2 := k4.bk.look_i name id k4.hi
      rw [hv] at e2
      by_cases hmd : md H id name = 0
      · rw [if_neg (fun h => h hmd)] at hbl
        rw [hmd] at e2
        have ca := k4.ca
        have hml := k4.row.1
        have hm1 := k4.hm
        have HB5 := HB
        have HJ5 : Hid (J (blkH [] id mode ++ blkA W mode (ahead.take 0)) (W2.alloc (.mapIter none 0 #[] 0))) := by
          rw [List.take_zero, show blkA W mode [] = [] from rfl, List.append_nil]
          exact HJ1
        clear k4
        gi_wp2
        gi_loopw [47, 10] (fun i s10 wq => ∃ j : Nat, j ≤ m ∧ i = .int .i64 j ∧ Hid (J (blkH [] id mode ++ blkA W mode (ahead.take j)) wq) ∧ Hid (Below w.heap.size w wq)) (fun i _ _ => m - (intOf i).toNat)
        case atStart => exact ⟨0, Nat.zero_le _, rfl, HJ5, HB5⟩
        case round =>
          clear HJ5 HB5 hnx ci ca e2
          obtain ⟨j, hj, rfl, HJ6, HB6⟩ := hrel
          by_cases hjm : j < m
          · have k6 := k.keepB HB6.out
            obtain ⟨rb, ro, rfl, hrb, hrc⟩ := k6.row.2.resolve_left (by omega)
            have cr := hrc j hjm
            clear hrc
            have hoj : ahead[j]? = some (ahead.getD j 0) := by
              rw [List.getD]
              have : j < ahead.length := by omega
              rw [List.getElem?_eq_getElem this]
              rfl
            generalize ahead.getD j 0 = o at *
            have hoi := k6.ha o (List.mem_of_getElem? hoj)
            have hbd := bel_drew HB6.out
            have e3 := ((k.keepB hbd).bk).look_w o hoi
            have cm := k6.cm
            have cb := k6.cb
            unfold bPtr at cb
            have c2 : _ = some (Value.map (some wt)) := k6.bk.blk.cell 2
            have HTb := Lib.hid (fun W' (hb : Below w.heap.size w W') => Goes_any mode (wV W o).2 W' (k.tabs.keep hb))
            have hst : blkA W mode (ahead.take (j + 1)) = blkA W mode (ahead.take j) ++ (if goesZ mode (wV W o).2 then [] else [o]) := by
              unfold blkA
              rw [List.take_add_one, hoj, Option.toList_some, List.filter_append]
              congr 1
              rw [List.filter_cons]
              cases goesZ mode (wV W o).2 <;> rfl
            clear hoj
            cases hg : goesZ mode (wV W o).2 with
            | true =>
              rw [hg] at HTb
              rw [hg, if_pos rfl, List.append_nil] at hst
              have e3q := fun q => ((k.keepB (bel_drewN HB6.out q)).bk).look_w o hoi
              generalize (wV W o).2 = wm at *
              generalize (wV W o).1 = wn at *
              have hfm := fun q => field_mode (ofL wn) wm (World.drewN wr q)
              gi_wp2
              refine wpIn_region_quiet_lit rfl (by kernel_rfl) (by kernel_rfl) ?_
              repeat (refine wpQuietIn_step (by first | quiet_asked_in | (simp [Oper.askedIn, Oper.about, Fence.wide]; done)) (fun K hK => ?_); go_simp; first | (refine hK _ ?_; clear hK K) | (apply Exists.intro; refine ⟨fun _ => ?_, hK _ ?_⟩; (refine ⟨fun _ => by omega, ?_⟩; refine CallsIn.quiet_of_same (callsIn_wide.2 (HTb.out _ (bel_drewN HB6.out _)))); clear hK K))
              refine wpQuietIn_nil ?_
              intro _ hw'
              obtain ⟨nq, hw''⟩ := hw'
              subst hw''
              gi_wp2
              refine ⟨⟨j + 1, by omega, by go_num, ?_, Lib.hid (bel_drewN HB6.out nq)⟩, by simp only [intOf]; omega⟩
              rw [hst]
              exact Lib.hid (HJ.out _ _ _ none HJ6.out ⟨rfl, rfl, rfl, Nat.le_refl _, fun _ _ _ => rfl⟩ (fun r e => by cases e))
            | false =>
              rw [hg] at HTb
              rw [hg, if_neg (by decide)] at hst
              have hJd : J (blkH [] id mode ++ blkA W mode (ahead.take j)) wr.drew := HJ.out _ _ _ none HJ6.out ⟨rfl, rfl, rfl, Nat.le_refl _, fun _ _ _ => rfl⟩ (fun r e => by cases e)
              have hsub : (blkA W mode (ahead.take (j + 1))).Sublist (blkA W mode ahead) := (List.take_sublist _ _).filter _
              have hln : (blkH [] id mode ++ blkA W mode (ahead.take j)).length < (blkL H W id name mode ahead).length := by
                have h1 := hsub.length_le
                have h2 := hbp.length_eq
                rw [hst] at h1
                rw [hbl]
                simp only [List.length_append, List.length_cons, List.length_nil] at h1 ⊢
                omega
              have hin : ∀ y, y ∈ blkH [] id mode ++ blkA W mode (ahead.take j) ++ [o] → y ∈ blkL H W id name mode ahead := fun y hy => by
                rw [hbl]
                rw [List.append_assoc, ← hst] at hy
                rcases List.mem_append.1 hy with hy | hy
                · exact List.mem_append_left _ (hbp.mem_iff.1 hy)
                · exact List.mem_append_right _ (hsub.subset hy)
              obtain ⟨fn, tmps, assign, body, hy, hR⟩ := hY _ o wr.drew hJd hln
              have hfm := field_mode (ofL (wV W o).1) (wV W o).2
              have HST := Lib.hid hst
              have HIN := Lib.hid hin
              clear hst hin hsub hln hJd
              generalize (wV W o).2 = wm at *
              generalize (wV W o).1 = wn at *
              gi_wp2
              refine wpIn_region_any (by kernel_rfl) ?_
              refine wpAnyIn_take (i := 0) (v := ?_) rfl rfl (by kernel_rfl) (by kernel_rfl) (by kernel_rfl) (fun _ _ _ h => h) ⟨Or.inl ⟨by rfl, by intro w; go_simp; try with_reducible rfl⟩, fun _ => rfl⟩ ?_
              refine wpAnyIn_take (i := 6) (v := ?_) rfl rfl (by kernel_rfl) (by kernel_rfl) (by kernel_rfl) (fun _ _ _ h => h) ⟨Or.inl ⟨by rfl, by intro w; go_simp; try with_reducible rfl⟩, fun _ => rfl⟩ ?_
              refine wpAnyIn_ready (rs := [1, 2]) (by kernel_rfl) (by simp) ?_
              refine AllReadyIn.cons rfl (fun K hK => ?_) ?_
              · go_simp
                refine hK _ _ ?_
                clear hK K
                refine wpAnyIn_ready (rs := [2]) (by kernel_rfl) (by simp) ?_
                refine AllReadyIn.cons rfl (fun K hK => ?_) AllReadyIn.nil
                go_simp
                refine hK _ _ ?_
                clear hK K
                refine wpAnyIn_take (i := 3) (v := ?_) rfl rfl (by kernel_rfl) (by kernel_rfl) (by kernel_rfl) (fun _ _ _ h => h) ⟨Or.inl ⟨by rfl, by intro w; go_simp; try with_reducible rfl⟩, fun _ => rfl⟩ ?_
                refine wpAnyIn_take (i := 4) (v := ?_) rfl rfl (by kernel_rfl) (by kernel_rfl) (by kernel_rfl) (fun _ _ _ h => h) ⟨Or.inl ⟨by rfl, by intro w; go_simp; try with_reducible rfl⟩, fun _ => rfl⟩ ?_
                refine wpAnyIn_ready (rs := [5]) (by kernel_rfl) (by simp) ?_
                refine AllReadyIn.cons rfl (fun K hK => ?_) AllReadyIn.nil
                go_simp
                refine hK _ _ ?_
                clear hK K
                refine wpAnyIn_ready (rs := [7]) (by kernel_rfl) (by simp) ?_
                refine AllReadyIn.cons rfl (fun K hK => ?_) AllReadyIn.nil
                go_simp
                refine hK _ _ ?_
                clear hK K
                refine wpAnyIn_take (i := 8) (v := ?_) rfl rfl (by kernel_rfl) (by kernel_rfl) (by kernel_rfl) (fun _ _ _ h => h) ⟨Or.inl ⟨by rfl, by intro w; go_simp; try with_reducible rfl⟩, fun _ => rfl⟩ ?_
                refine wpAnyIn_ready (rs := [9]) (by kernel_rfl) (by simp) ?_
                refine AllReadyIn.cons rfl (fun K hK => ?_) AllReadyIn.nil
                go_simp
                refine ⟨trivial, fun _ => by omega, ?_⟩
                refine (callsIn_wide.2 (HTb.out _ hbd)).mono ?_
                rintro e w' ⟨rfl, rfl⟩
                refine hK _ _ ?_
                clear hK K
                refine wpAnyIn_take (i := 10) (v := ?_) rfl rfl (by kernel_rfl) (by kernel_rfl) (by kernel_rfl) (fun _ _ _ h => h) ⟨Or.inl ⟨by rfl, by intro w; go_simp; try with_reducible rfl⟩, fun _ => rfl⟩ ?_
                refine wpAnyIn_take (i := 11) (v := ?_) rfl rfl (by kernel_rfl) (by kernel_rfl) (by kernel_rfl) (fun _ _ _ h => h) ⟨Or.inl ⟨by rfl, by intro w; go_simp; try with_reducible rfl⟩, fun _ => rfl⟩ ?_
                refine wpAnyIn_take (i := 12) (v := ?_) rfl rfl (by kernel_rfl) (by kernel_rfl) (by kernel_rfl) (fun _ _ _ h => h) ⟨Or.inl ⟨by rfl, by intro w; go_simp; try with_reducible rfl⟩, fun _ => rfl⟩ ?_
                refine wpAnyIn_take (i := 13) (v := ?_) rfl rfl (by kernel_rfl) (by kernel_rfl) (by kernel_rfl) (fun _ _ _ h => h) ⟨Or.inl ⟨by rfl, by intro w; go_simp; try with_reducible rfl⟩, fun _ => rfl⟩ ?_
                refine wpAnyIn_ready (rs := [14]) (by kernel_rfl) (by simp) ?_
                refine AllReadyIn.cons rfl (fun K hK => ?_) AllReadyIn.nil
                go_simp
                refine ⟨fun _ => by omega, ?_⟩
                refine hR.mono ?_
                rintro e W3 (⟨rfl, hJ3, hk3⟩ | ⟨rfl, hJx3⟩)
                · refine hK _ _ ?_
                  clear hK K
                  refine wpAnyIn_take (i := 15) (v := ?_) rfl rfl (by kernel_rfl) (by kernel_rfl) (by kernel_rfl) (fun _ _ _ h => h) ⟨Or.inl ⟨by rfl, by intro w; go_simp; try with_reducible rfl⟩, fun _ => rfl⟩ ?_
                  refine wpAnyIn_take (i := 16) (v := ?_) rfl rfl (by kernel_rfl) (by kernel_rfl) (by kernel_rfl) (fun _ _ _ h => h) ⟨Or.inl ⟨by rfl, by intro w; go_simp; try with_reducible rfl⟩, fun _ => rfl⟩ ?_
                  refine wpAnyIn_done (by kernel_rfl) ?_ _
                  gi_wp2
                  refine ⟨⟨j + 1, by omega, by go_num, ?_, Lib.hid (hbd.trans hk3.2)⟩, by simp only [intOf]; omega⟩
                  rw [HST.out, ← List.append_assoc]
                  exact Lib.hid hJ3
                · refine hK _ _ ?_
                  clear hK K
                  refine wpAnyIn_take (i := 15) (v := ?_) rfl rfl (by kernel_rfl) (by kernel_rfl) (by kernel_rfl) (fun _ _ _ h => h) ⟨Or.inl ⟨by rfl, by intro w; go_simp; try with_reducible rfl⟩, fun _ => rfl⟩ ?_
                  refine wpAnyIn_take (i := 16) (v := ?_) rfl rfl (by kernel_rfl) (by kernel_rfl) (by kernel_rfl) (fun _ _ _ h => h) ⟨Or.inl ⟨by rfl, by intro w; go_simp; try with_reducible rfl⟩, fun _ => rfl⟩ ?_
                  refine wpAnyIn_done (by kernel_rfl) ?_ _
                  gi_wp2
                  refine bodyPost_ret (results_none rfl _ _ _) rfl ?_
                  exact ⟨⟨_, rfl⟩, Or.inr ⟨_, ⟨by simp, HIN.out⟩, hJx3⟩⟩
              refine AllReadyIn.cons rfl (fun K hK => ?_) AllReadyIn.nil
              go_simp
              refine hK _ _ ?_
              clear hK K
              refine wpAnyIn_take (i := 3) (v := ?_) rfl rfl (by kernel_rfl) (by kernel_rfl) (by kernel_rfl) (fun _ _ _ h => h) ⟨Or.inl ⟨by rfl, by intro w; go_simp; try with_reducible rfl⟩, fun _ => rfl⟩ ?_
              refine wpAnyIn_take (i := 4) (v := ?_) rfl rfl (by kernel_rfl) (by kernel_rfl) (by kernel_rfl) (fun _ _ _ h => h) ⟨Or.inl ⟨by rfl, by intro w; go_simp; try with_reducible rfl⟩, fun _ => rfl⟩ ?_
              refine wpAnyIn_ready (rs := [1, 5]) (by kernel_rfl) (by simp) ?_
              refine AllReadyIn.cons rfl (fun K hK => ?_) ?_
              · go_simp
                refine hK _ _ ?_
                clear hK K
                refine wpAnyIn_ready (rs := [5]) (by kernel_rfl) (by simp) ?_
                refine AllReadyIn.cons rfl (fun K hK => ?_) AllReadyIn.nil
                go_simp
                refine hK _ _ ?_
                clear hK K
                refine wpAnyIn_ready (rs := [7]) (by kernel_rfl) (by simp) ?_
                refine AllReadyIn.cons rfl (fun K hK => ?_) AllReadyIn.nil
                go_simp
                refine hK _ _ ?_
                clear hK K
                refine wpAnyIn_take (i := 8) (v := ?_) rfl rfl (by kernel_rfl) (by kernel_rfl) (by kernel_rfl) (fun _ _ _ h => h) ⟨Or.inl ⟨by rfl, by intro w; go_simp; try with_reducible rfl⟩, fun _ => rfl⟩ ?_
                refine wpAnyIn_ready (rs := [9]) (by kernel_rfl) (by simp) ?_
                refine AllReadyIn.cons rfl (fun K hK => ?_) AllReadyIn.nil
                go_simp
                refine ⟨trivial, fun _ => by omega, ?_⟩
                refine (callsIn_wide.2 (HTb.out _ hbd)).mono ?_
                rintro e w' ⟨rfl, rfl⟩
                refine hK _ _ ?_
                clear hK K
                refine wpAnyIn_take (i := 10) (v := ?_) rfl rfl (by kernel_rfl) (by kernel_rfl) (by kernel_rfl) (fun _ _ _ h => h) ⟨Or.inl ⟨by rfl, by intro w; go_simp; try with_reducible rfl⟩, fun _ => rfl⟩ ?_
                refine wpAnyIn_take (i := 11) (v := ?_) rfl rfl (by kernel_rfl) (by kernel_rfl) (by kernel_rfl) (fun _ _ _ h => h) ⟨Or.inl ⟨by rfl, by intro w; go_simp; try with_reducible rfl⟩, fun _ => rfl⟩ ?_
                refine wpAnyIn_take (i := 12) (v := ?_) rfl rfl (by kernel_rfl) (by kernel_rfl) (by kernel_rfl) (fun _ _ _ h => h) ⟨Or.inl ⟨by rfl, by intro w; go_simp; try with_reducible rfl⟩, fun _ => rfl⟩ ?_
                refine wpAnyIn_take (i := 13) (v := ?_) rfl rfl (by kernel_rfl) (by kernel_rfl) (by kernel_rfl) (fun _ _ _ h => h) ⟨Or.inl ⟨by rfl, by intro w; go_simp; try with_reducible rfl⟩, fun _ => rfl⟩ ?_
                refine wpAnyIn_ready (rs := [14]) (by kernel_rfl) (by simp) ?_
                refine AllReadyIn.cons rfl (fun K hK => ?_) AllReadyIn.nil
                go_simp
                refine ⟨fun _ => by omega, ?_⟩
                refine hR.mono ?_
                rintro e W3 (⟨rfl, hJ3, hk3⟩ | ⟨rfl, hJx3⟩)
                · refine hK _ _ ?_
                  clear hK K
                  refine wpAnyIn_take (i := 15) (v := ?_) rfl rfl (by kernel_rfl) (by kernel_rfl) (by kernel_rfl) (fun _ _ _ h => h) ⟨Or.inl ⟨by rfl, by intro w; go_simp; try with_reducible rfl⟩, fun _ => rfl⟩ ?_
                  refine wpAnyIn_take (i := 16) (v := ?_) rfl rfl (by kernel_rfl) (by kernel_rfl) (by kernel_rfl) (fun _ _ _ h => h) ⟨Or.inl ⟨by rfl, by intro w; go_simp; try with_reducible rfl⟩, fun _ => rfl⟩ ?_
                  refine wpAnyIn_done (by kernel_rfl) ?_ _
                  gi_wp2
                  refine ⟨⟨j + 1, by omega, by go_num, ?_, Lib.hid (hbd.trans hk3.2)⟩, by simp only [intOf]; omega⟩
                  rw [HST.out, ← List.append_assoc]
                  exact Lib.hid hJ3
                · refine hK _ _ ?_
                  clear hK K
                  refine wpAnyIn_take (i := 15) (v := ?_) rfl rfl (by kernel_rfl) (by kernel_rfl) (by kernel_rfl) (fun _ _ _ h => h) ⟨Or.inl ⟨by rfl, by intro w; go_simp; try with_reducible rfl⟩, fun _ => rfl⟩ ?_
                  refine wpAnyIn_take (i := 16) (v := ?_) rfl rfl (by kernel_rfl) (by kernel_rfl) (by kernel_rfl) (fun _ _ _ h => h) ⟨Or.inl ⟨by rfl, by intro w; go_simp; try with_reducible rfl⟩, fun _ => rfl⟩ ?_
                  refine wpAnyIn_done (by kernel_rfl) ?_ _
                  gi_wp2
                  refine bodyPost_ret (results_none rfl _ _ _) rfl ?_
                  exact ⟨⟨_, rfl⟩, Or.inr ⟨_, ⟨by simp, HIN.out⟩, hJx3⟩⟩
              refine AllReadyIn.cons rfl (fun K hK => ?_) AllReadyIn.nil
              go_simp
              refine hK _ _ ?_
              clear hK K
              refine wpAnyIn_ready (rs := [1, 7]) (by kernel_rfl) (by simp) ?_
              refine AllReadyIn.cons rfl (fun K hK => ?_) ?_
              · go_simp
                refine hK _ _ ?_
                clear hK K
                refine wpAnyIn_ready (rs := [7]) (by kernel_rfl) (by simp) ?_
                refine AllReadyIn.cons rfl (fun K hK => ?_) AllReadyIn.nil
                go_simp
                refine hK _ _ ?_
                clear hK K
                refine wpAnyIn_take (i := 8) (v := ?_) rfl rfl (by kernel_rfl) (by kernel_rfl) (by kernel_rfl) (fun _ _ _ h => h) ⟨Or.inl ⟨by rfl, by intro w; go_simp; try with_reducible rfl⟩, fun _ => rfl⟩ ?_
                refine wpAnyIn_ready (rs := [9]) (by kernel_rfl) (by simp) ?_
                refine AllReadyIn.cons rfl (fun K hK => ?_) AllReadyIn.nil
                go_simp
                refine ⟨trivial, fun _ => by omega, ?_⟩
                refine (callsIn_wide.2 (HTb.out _ hbd)).mono ?_
                rintro e w' ⟨rfl, rfl⟩
                refine hK _ _ ?_
                clear hK K
                refine wpAnyIn_take (i := 10) (v := ?_) rfl rfl (by kernel_rfl) (by kernel_rfl) (by kernel_rfl) (fun _ _ _ h => h) ⟨Or.inl ⟨by rfl, by intro w; go_simp; try with_reducible rfl⟩, fun _ => rfl⟩ ?_
                refine wpAnyIn_take (i := 11) (v := ?_) rfl rfl (by kernel_rfl) (by kernel_rfl) (by kernel_rfl) (fun _ _ _ h => h) ⟨Or.inl ⟨by rfl, by intro w; go_simp; try with_reducible rfl⟩, fun _ => rfl⟩ ?_
                refine wpAnyIn_take (i := 12) (v := ?_) rfl rfl (by kernel_rfl) (by kernel_rfl) (by kernel_rfl) (fun _ _ _ h => h) ⟨Or.inl ⟨by rfl, by intro w; go_simp; try with_reducible rfl⟩, fun _ => rfl⟩ ?_
                refine wpAnyIn_take (i := 13) (v := ?_) rfl rfl (by kernel_rfl) (by kernel_rfl) (by kernel_rfl) (fun _ _ _ h => h) ⟨Or.inl ⟨by rfl, by intro w; go_simp; try with_reducible rfl⟩, fun _ => rfl⟩ ?_
                refine wpAnyIn_ready (rs := [14]) (by kernel_rfl) (by simp) ?_
                refine AllReadyIn.cons rfl (fun K hK => ?_) AllReadyIn.nil
                go_simp
                refine ⟨fun _ => by omega, ?_⟩
                refine hR.mono ?_
                rintro e W3 (⟨rfl, hJ3, hk3⟩ | ⟨rfl, hJx3⟩)
                · refine hK _ _ ?_
                  clear hK K
                  refine wpAnyIn_take (i := 15) (v := ?_) rfl rfl (by kernel_rfl) (by kernel_rfl) (by kernel_rfl) (fun _ _ _ h => h) ⟨Or.inl ⟨by rfl, by intro w; go_simp; try with_reducible rfl⟩, fun _ => rfl⟩ ?_
                  refine wpAnyIn_take (i := 16) (v := ?_) rfl rfl (by kernel_rfl) (by kernel_rfl) (by kernel_rfl) (fun _ _ _ h => h) ⟨Or.inl ⟨by rfl, by intro w; go_simp; try with_reducible rfl⟩, fun _ => rfl⟩ ?_
                  refine wpAnyIn_done (by kernel_rfl) ?_ _
                  gi_wp2
                  refine ⟨⟨j + 1, by omega, by go_num, ?_, Lib.hid (hbd.trans hk3.2)⟩, by simp only [intOf]; omega⟩
                  rw [HST.out, ← List.append_assoc]
                  exact Lib.hid hJ3
                · refine hK _ _ ?_
                  clear hK K
                  refine wpAnyIn_take (i := 15) (v := ?_) rfl rfl (by kernel_rfl) (by kernel_rfl) (by kernel_rfl) (fun _ _ _ h => h) ⟨Or.inl ⟨by rfl, by intro w; go_simp; try with_reducible rfl⟩, fun _ => rfl⟩ ?_
                  refine wpAnyIn_take (i := 16) (v := ?_) rfl rfl (by kernel_rfl) (by kernel_rfl) (by kernel_rfl) (fun _ _ _ h => h) ⟨Or.inl ⟨by rfl, by intro w; go_simp; try with_reducible rfl⟩, fun _ => rfl⟩ ?_
                  refine wpAnyIn_done (by kernel_rfl) ?_ _
                  gi_wp2
                  refine bodyPost_ret (results_none rfl _ _ _) rfl ?_
                  exact ⟨⟨_, rfl⟩, Or.inr ⟨_, ⟨by simp, HIN.out⟩, hJx3⟩⟩
              refine AllReadyIn.cons rfl (fun K hK => ?_) AllReadyIn.nil
              go_simp
              refine hK _ _ ?_
              clear hK K
              refine wpAnyIn_take (i := 8) (v := ?_) rfl rfl (by kernel_rfl) (by kernel_rfl) (by kernel_rfl) (fun _ _ _ h => h) ⟨Or.inl ⟨by rfl, by intro w; go_simp; try with_reducible rfl⟩, fun _ => rfl⟩ ?_
              refine wpAnyIn_ready (rs := [1]) (by kernel_rfl) (by simp) ?_
              refine AllReadyIn.cons rfl (fun K hK => ?_) AllReadyIn.nil
              go_simp
              refine hK _ _ ?_
              clear hK K
              refine wpAnyIn_ready (rs := [9]) (by kernel_rfl) (by simp) ?_
              refine AllReadyIn.cons rfl (fun K hK => ?_) AllReadyIn.nil
              go_simp
              refine ⟨trivial, fun _ => by omega, ?_⟩
              refine (callsIn_wide.2 (HTb.out _ hbd)).mono ?_
              rintro e w' ⟨rfl, rfl⟩
              refine hK _ _ ?_
              clear hK K
              refine wpAnyIn_take (i := 10) (v := ?_) rfl rfl (by kernel_rfl) (by kernel_rfl) (by kernel_rfl) (fun _ _ _ h => h) ⟨Or.inl ⟨by rfl, by intro w; go_simp; try with_reducible rfl⟩, fun _ => rfl⟩ ?_
              refine wpAnyIn_take (i := 11) (v := ?_) rfl rfl (by kernel_rfl) (by kernel_rfl) (by kernel_rfl) (fun _ _ _ h => h) ⟨Or.inl ⟨by rfl, by intro w; go_simp; try with_reducible rfl⟩, fun _ => rfl⟩ ?_
              refine wpAnyIn_take (i := 12) (v := ?_) rfl rfl (by kernel_rfl) (by kernel_rfl) (by kernel_rfl) (fun _ _ _ h => h) ⟨Or.inl ⟨by rfl, by intro w; go_simp; try with_reducible rfl⟩, fun _ => rfl⟩ ?_
              refine wpAnyIn_take (i := 13) (v := ?_) rfl rfl (by kernel_rfl) (by kernel_rfl) (by kernel_rfl) (fun _ _ _ h => h) ⟨Or.inl ⟨by rfl, by intro w; go_simp; try with_reducible rfl⟩, fun _ => rfl⟩ ?_
              refine wpAnyIn_ready (rs := [14]) (by kernel_rfl) (by simp) ?_
              refine AllReadyIn.cons rfl (fun K hK => ?_) AllReadyIn.nil
              go_simp
              refine ⟨fun _ => by omega, ?_⟩
              refine hR.mono ?_
              rintro e W3 (⟨rfl, hJ3, hk3⟩ | ⟨rfl, hJx3⟩)
              · refine hK _ _ ?_
                clear hK K
                refine wpAnyIn_take (i := 15) (v := ?_) rfl rfl (by kernel_rfl) (by kernel_rfl) (by kernel_rfl) (fun _ _ _ h => h) ⟨Or.inl ⟨by rfl, by intro w; go_simp; try with_reducible rfl⟩, fun _ => rfl⟩ ?_
                refine wpAnyIn_take (i := 16) (v := ?_) rfl rfl (by kernel_rfl) (by kernel_rfl) (by kernel_rfl) (fun _ _ _ h => h) ⟨Or.inl ⟨by rfl, by intro w; go_simp; try with_reducible rfl⟩, fun _ => rfl⟩ ?_
                refine wpAnyIn_done (by kernel_rfl) ?_ _
                gi_wp2
                refine ⟨⟨j + 1, by omega, by go_num, ?_, Lib.hid (hbd.trans hk3.2)⟩, by simp only [intOf]; omega⟩
                rw [HST.out, ← List.append_assoc]
                exact Lib.hid hJ3
              · refine hK _ _ ?_
                clear hK K
                refine wpAnyIn_take (i := 15) (v := ?_) rfl rfl (by kernel_rfl) (by kernel_rfl) (by kernel_rfl) (fun _ _ _ h => h) ⟨Or.inl ⟨by rfl, by intro w; go_simp; try with_reducible rfl⟩, fun _ => rfl⟩ ?_
                refine wpAnyIn_take (i := 16) (v := ?_) rfl rfl (by kernel_rfl) (by kernel_rfl) (by kernel_rfl) (fun _ _ _ h => h) ⟨Or.inl ⟨by rfl, by intro w; go_simp; try with_reducible rfl⟩, fun _ => rfl⟩ ?_
                refine wpAnyIn_done (by kernel_rfl) ?_ _
                gi_wp2
                refine bodyPost_ret (results_none rfl _ _ _) rfl ?_
                exact ⟨⟨_, rfl⟩, Or.inr ⟨_, ⟨by simp, HIN.out⟩, hJx3⟩⟩
          · obtain rfl : j = m := by omega
            rw [List.take_of_length_le (by omega)] at HJ6
            gi_wp2
            go_end0
            exact ⟨⟨_, rfl⟩, Or.inl ⟨_, by rw [hbl], HJ6.out⟩⟩
      · rw [if_pos hmd, List.append_nil] at hbl
        have hmd2 : (md H id name != 0) = true := by simpa using hmd
        clear k4
        gi_wp2
        refine bodyPost_ret (results_none rfl _ _ _) rfl ?_
        exact ⟨⟨_, rfl⟩, Or.inl ⟨blkH [] id mode, by rw [hbl], HJ1.out⟩⟩
  | some x =>
    have hv : hV H name = .map (some x.2.1) := by unfold hV; rw [hf]
    rw [hv]
    have hxm : x ∈ H := List.mem_of_find?_eq_some hf
    obtain ⟨w3, hr, hrg, hch, hsz3⟩ := Rng.start ((k.bk.keepB hW2).hi x hxm) kI Tryz.underlying60
    have h03 : J [] w3 := hJ [] _ _ none h02 ⟨hch.os, hch.tape, hch.output, hch.size, fun i hi _ => hch.block i hi (fun x => x)⟩ (fun r e => by cases e)
    have HR0 := Lib.hid hrg
    have HJ0 := Lib.hid h03
    have HB0 := Lib.hid (show Below w.heap.size w w3 from hW2.trans (hch.below (by exact hW2.size) (fun _ _ x => x.elim)))
    have hE0 : holE H name = x.2.2 := by unfold holE; rw [hf]
    have HJ := Lib.hid hJ
    have HJX := Lib.hid hJx
    clear hrg h03 hch h02 hJ hJx
    gi_wp2
    gi_loopw [7] (fun s7 wr => ∃ (Dn R : List (Int × Int)), x.2.2.Perm (Dn ++ R) ∧ Hid (Rng wr Tryz.prog 3 x.2.1 W2.heap.size (iE x.2.2) (iE R)) ∧ Hid (J (blkH Dn id mode) wr) ∧ Hid (Below w.heap.size w wr)) (fun _ wr => wr.rangeLeft x.2.1 W2.heap.size)
    case atStart => exact ⟨[], x.2.2, List.Perm.refl _, HR0, HJ0, HB0⟩
    case round =>
      clear HR0 HJ0 HB0
      obtain ⟨Dn, R, hp, HR, HJ1, HB⟩ := hrel
      have hms := HR.out.left
      rcases HR.out.next kI 0 with ⟨hnil, hrun⟩ | ⟨key, p, L', w4, hk, hpE, hpL, hrun, hrg, hch, hsz4, hen⟩
      · obtain rfl : R = [] := List.map_eq_nil_iff.1 hnil
        rw [List.append_nil] at hp
        have hbp := blkH_perm hp.symm id mode
        have hbl : blkL H W id name mode ahead = blkH x.2.2 id mode ++ (if md H id name ≠ 0 then [] else blkA W mode ahead) := by unfold blkL; rw [hE0]
        have k4 := k.keepB HB.out
        have ci := k4.ci
        have e2 := k4.bk.look_i name id k4.hi
        rw [hv] at e2
        by_cases hmd : md H id name = 0
        · rw [if_neg (fun h => h hmd)] at hbl
          rw [hmd] at e2
          have ca := k4.ca
          have hml := k4.row.1
          have hm1 := k4.hm
          have HB5 := HB
          have HJ5 : Hid (J (blkH Dn id mode ++ blkA W mode (ahead.take 0)) wr) := by
            rw [List.take_zero, show blkA W mode [] = [] from rfl, List.append_nil]
            exact HJ1
          clear k4 hms HR
          gi_wp2
          gi_loopw [47, 10] (fun i s10 wq => ∃ j : Nat, j ≤ m ∧ i = .int .i64 j ∧ Hid (J (blkH Dn id mode ++ blkA W mode (ahead.take j)) wq) ∧ Hid (Below w.heap.size w wq)) (fun i _ _ => m - (intOf i).toNat)
          case atStart => exact ⟨0, Nat.zero_le _, rfl, HJ5, HB5⟩
          case round =>
            clear HJ5 HB5 hrun ci ca e2
            obtain ⟨j, hj, rfl, HJ6, HB6⟩ := hrel
            by_cases hjm : j < m
            · have k6 := k.keepB HB6.out
              obtain ⟨rb, ro, rfl, hrb, hrc⟩ := k6.row.2.resolve_left (by omega)
              have cr := hrc j hjm
              clear hrc
              have hoj : ahead[j]? = some (ahead.getD j 0) := by
                rw [List.getD]
                have : j < ahead.length := by omega
                rw [List.getElem?_eq_getElem this]
                rfl
              generalize ahead.getD j 0 = o at *
              have hoi := k6.ha o (List.mem_of_getElem? hoj)
              have hbd := bel_drew HB6.out
              have e3 := ((k.keepB hbd).bk).look_w o hoi
              have cm := k6.cm
              have cb := k6.cb
              unfold bPtr at cb
              have c2 : _ = some (Value.map (some wt)) := k6.bk.blk.cell 2
              have HTb := Lib.hid (fun W' (hb : Below w.heap.size w W') => Goes_any mode (wV W o).2 W' (k.tabs.keep hb))
              have hst : blkA W mode (ahead.take (j + 1)) = blkA W mode (ahead.take j) ++ (if goesZ mode (wV W o).2 then [] else [o]) := by
                unfold blkA
                rw [List.take_add_one, hoj, Option.toList_some, List.filter_append]
                congr 1
                rw [List.filter_cons]
                cases goesZ mode (wV W o).2 <;> rfl
              clear hoj
              cases hg : goesZ mode (wV W o).2 with
              | true =>
                rw [hg] at HTb
                rw [hg, if_pos rfl, List.append_nil] at hst
                have e3q := fun q => ((k.keepB (bel_drewN HB6.out q)).bk).look_w o hoi
                generalize (wV W o).2 = wm at *
                generalize (wV W o).1 = wn at *
                have hfm := fun q => field_mode (ofL wn) wm (World.drewN wr q)
                gi_wp2
                refine wpIn_region_quiet_lit rfl (by kernel_rfl) (by kernel_rfl) ?_
                repeat (refine wpQuietIn_step (by first | quiet_asked_in | (simp [Oper.askedIn, Oper.about, Fence.wide]; done)) (fun K hK => ?_); go_simp; first | (refine hK _ ?_; clear hK K) | (apply Exists.intro; refine ⟨fun _ => ?_, hK _ ?_⟩; (refine ⟨fun _ => by omega, ?_⟩; refine CallsIn.quiet_of_same (callsIn_wide.2 (HTb.out _ (bel_drewN HB6.out _)))); clear hK K))
                refine wpQuietIn_nil ?_
                intro _ hw'
                obtain ⟨nq, hw''⟩ := hw'
                subst hw''
                gi_wp2
                refine ⟨⟨j + 1, by omega, by go_num, ?_, Lib.hid (bel_drewN HB6.out nq)⟩, by simp only [intOf]; omega⟩
                rw [hst]
                exact Lib.hid (HJ.out _ _ _ none HJ6.out ⟨rfl, rfl, rfl, Nat.le_refl _, fun _ _ _ => rfl⟩ (fun r e => by cases e))
              | false =>
                rw [hg] at HTb
                rw [hg, if_neg (by decide)] at hst
                have hJd : J (blkH Dn id mode ++ blkA W mode (ahead.take j)) wr.drew := HJ.out _ _ _ none HJ6.out ⟨rfl, rfl, rfl, Nat.le_refl _, fun _ _ _ => rfl⟩ (fun r e => by cases e)
                have hsub : (blkA W mode (ahead.take (j + 1))).Sublist (blkA W mode ahead) := (List.take_sublist _ _).filter _
                have hln : (blkH Dn id mode ++ blkA W mode (ahead.take j)).length < (blkL H W id name mode ahead).length := by
                  have h1 := hsub.length_le
                  have h2 := hbp.length_eq
                  rw [hst] at h1
                  rw [hbl]
                  simp only [List.length_append, List.length_cons, List.length_nil] at h1 ⊢
                  omega
                have hin : ∀ y, y ∈ blkH Dn id mode ++ blkA W mode (ahead.take j) ++ [o] → y ∈ blkL H W id name mode ahead := fun y hy => by
                  rw [hbl]
                  rw [List.append_assoc, ← hst] at hy
                  rcases List.mem_append.1 hy with hy | hy
                  · exact List.mem_append_left _ (hbp.mem_iff.1 hy)
                  · exact List.mem_append_right _ (hsub.subset hy)
                obtain ⟨fn, tmps, assign, body, hy, hR⟩ := hY _ o wr.drew hJd hln
                have hfm := field_mode (ofL (wV W o).1) (wV W o).2
                have HST := Lib.hid hst
                have HIN := Lib.hid hin
                clear hst hin hsub hln hJd
                generalize (wV W o).2 = wm at *
                generalize (wV W o).1 = wn at *
                gi_wp2
                refine wpIn_region_any (by kernel_rfl) ?_
                refine wpAnyIn_take (i := 0) (v := ?_) rfl rfl (by kernel_rfl) (by kernel_rfl) (by kernel_rfl) (fun _ _ _ h => h) ⟨Or.inl ⟨by rfl, by intro w; go_simp; try with_reducible rfl⟩, fun _ => rfl⟩ ?_
                refine wpAnyIn_take (i := 6) (v := ?_) rfl rfl (by kernel_rfl) (by kernel_rfl) (by kernel_rfl) (fun _ _ _ h => h) ⟨Or.inl ⟨by rfl, by intro w; go_simp; try with_reducible rfl⟩, fun _ => rfl⟩ ?_
                refine wpAnyIn_ready (rs := [1, 2]) (by kernel_rfl) (by simp) ?_
                refine AllReadyIn.cons rfl (fun K hK => ?_) ?_
                · go_simp
                  refine hK _ _ ?_
                  clear hK K
                  refine wpAnyIn_ready (rs := [2]) (by kernel_rfl) (by simp) ?_
                  refine AllReadyIn.cons rfl (fun K hK => ?_) AllReadyIn.nil
                  go_simp
                  refine hK _ _ ?_
                  clear hK K
                  refine wpAnyIn_take (i := 3) (v := ?_) rfl rfl (by kernel_rfl) (by kernel_rfl) (by kernel_rfl) (fun _ _ _ h => h) ⟨Or.inl ⟨by rfl, by intro w; go_simp; try with_reducible rfl⟩, fun _ => rfl⟩ ?_
                  refine wpAnyIn_take (i := 4) (v := ?_) rfl rfl (by kernel_rfl) (by kernel_rfl) (by kernel_rfl) (fun _ _ _ h => h) ⟨Or.inl ⟨by rfl, by intro w; go_simp; try with_reducible rfl⟩, fun _ => rfl⟩ ?_
                  refine wpAnyIn_ready (rs := [5]) (by kernel_rfl) (by simp) ?_
                  refine AllReadyIn.cons rfl (fun K hK => ?_) AllReadyIn.nil
                  go_simp
                  refine hK _ _ ?_
                  clear hK K
                  refine wpAnyIn_ready (rs := [7]) (by kernel_rfl) (by simp) ?_
                  refine AllReadyIn.cons rfl (fun K hK => ?_) AllReadyIn.nil
                  go_simp
                  refine hK _ _ ?_
                  clear hK K
                  refine wpAnyIn_take (i := 8) (v := ?_) rfl rfl (by kernel_rfl) (by kernel_rfl) (by kernel_rfl) (fun _ _ _ h => h) ⟨Or.inl ⟨by rfl, by intro w; go_simp; try with_reducible rfl⟩, fun _ => rfl⟩ ?_
                  refine wpAnyIn_ready (rs := [9]) (by kernel_rfl) (by simp) ?_
                  refine AllReadyIn.cons rfl (fun K hK => ?_) AllReadyIn.nil
                  go_simp
                  refine ⟨trivial, fun _ => by omega, ?_⟩
                  refine (callsIn_wide.2 (HTb.out _ hbd)).mono ?_
                  rintro e w' ⟨rfl, rfl⟩
                  refine hK _ _ ?_
                  clear hK K
                  refine wpAnyIn_take (i := 10) (v := ?_) rfl rfl (by kernel_rfl) (by kernel_rfl) (by kernel_rfl) (fun _ _ _ h => h) ⟨Or.inl ⟨by rfl, by intro w; go_simp; try with_reducible rfl⟩, fun _ => rfl⟩ ?_
                  refine wpAnyIn_take (i := 11) (v := ?_) rfl rfl (by kernel_rfl) (by kernel_rfl) (by kernel_rfl) (fun _ _ _ h => h) ⟨Or.inl ⟨by rfl, by intro w; go_simp; try with_reducible rfl⟩, fun _ => rfl⟩ ?_
                  refine wpAnyIn_take (i := 12) (v := ?_) rfl rfl (by kernel_rfl) (by kernel_rfl) (by kernel_rfl) (fun _ _ _ h => h) ⟨Or.inl ⟨by rfl, by intro w; go_simp; try with_reducible rfl⟩, fun _ => rfl⟩ ?_
                  refine wpAnyIn_take (i := 13) (v := ?_) rfl rfl (by kernel_rfl) (by kernel_rfl) (by kernel_rfl) (fun _ _ _ h => h) ⟨Or.inl ⟨by rfl, by intro w; go_simp; try with_reducible rfl⟩, fun _ => rfl⟩ ?_
                  refine wpAnyIn_ready (rs := [14]) (by kernel_rfl) (by simp) ?_
                  refine AllReadyIn.cons rfl (fun K hK => ?_) AllReadyIn.nil
                  go_simp
                  refine ⟨fun _ => by omega, ?_⟩
                  refine hR.mono ?_
                  rintro e W3 (⟨rfl, hJ3, hk3⟩ | ⟨rfl, hJx3⟩)
                  · refine hK _ _ ?_
                    clear hK K
                    refine wpAnyIn_take (i := 15) (v := ?_) rfl rfl (by kernel_rfl) (by kernel_rfl) (by kernel_rfl) (fun _ _ _ h => h) ⟨Or.inl ⟨by rfl, by intro w; go_simp; try with_reducible rfl⟩, fun _ => rfl⟩ ?_
                    refine wpAnyIn_take (i := 16) (v := ?_) rfl rfl (by kernel_rfl) (by kernel_rfl) (by kernel_rfl) (fun _ _ _ h => h) ⟨Or.inl ⟨by rfl, by intro w; go_simp; try with_reducible rfl⟩, fun _ => rfl⟩ ?_
                    refine wpAnyIn_done (by kernel_rfl) ?_ _
                    gi_wp2
                    refine ⟨⟨j + 1, by omega, by go_num, ?_, Lib.hid (hbd.trans hk3.2)⟩, by simp only [intOf]; omega⟩
                    rw [HST.out, ← List.append_assoc]
                    exact Lib.hid hJ3
                  · refine hK _ _ ?_
                    clear hK K
                    refine wpAnyIn_take (i := 15) (v := ?_) rfl rfl (by kernel_rfl) (by kernel_rfl) (by kernel_rfl) (fun _ _ _ h => h) ⟨Or.inl ⟨by rfl, by intro w; go_simp; try with_reducible rfl⟩, fun _ => rfl⟩ ?_
                    refine wpAnyIn_take (i := 16) (v := ?_) rfl rfl (by kernel_rfl) (by kernel_rfl) (by kernel_rfl) (fun _ _ _ h => h) ⟨Or.inl ⟨by rfl, by intro w; go_simp; try with_reducible rfl⟩, fun _ => rfl⟩ ?_
                    refine wpAnyIn_done (by kernel_rfl) ?_ _
                    gi_wp2
                    refine bodyPost_ret (results_none rfl _ _ _) rfl ?_
                    exact ⟨⟨_, rfl⟩, Or.inr ⟨_, ⟨by simp, HIN.out⟩, hJx3⟩⟩
                refine AllReadyIn.cons rfl (fun K hK => ?_) AllReadyIn.nil
                go_simp
                refine hK _ _ ?_
                clear hK K
                refine wpAnyIn_take (i := 3) (v := ?_) rfl rfl (by kernel_rfl) (by kernel_rfl) (by kernel_rfl) (fun _ _ _ h => h) ⟨Or.inl ⟨by rfl, by intro w; go_simp; try with_reducible rfl⟩, fun _ => rfl⟩ ?_
                refine wpAnyIn_take (i := 4) (v := ?_) rfl rfl (by kernel_rfl) (by kernel_rfl) (by kernel_rfl) (fun _ _ _ h => h) ⟨Or.inl ⟨by rfl, by intro w; go_simp; try with_reducible rfl⟩, fun _ => rfl⟩ ?_
                refine wpAnyIn_ready (rs := [1, 5]) (by kernel_rfl) (by simp) ?_
                refine AllReadyIn.cons rfl (fun K hK => ?_) ?_
                · go_simp
                  refine hK _ _ ?_
                  clear hK K
                  refine wpAnyIn_ready (rs := [5]) (by kernel_rfl) (by simp) ?_
                  refine AllReadyIn.cons rfl (fun K hK => ?_) AllReadyIn.nil
                  go_simp
                  refine hK _ _ ?_
                  clear hK K
                  refine wpAnyIn_ready (rs := [7]) (by kernel_rfl) (by simp) ?_
                  refine AllReadyIn.cons rfl (fun K hK => ?_) AllReadyIn.nil
                  go_simp
                  refine hK _ _ ?_
                  clear hK K
                  refine wpAnyIn_take (i := 8) (v := ?_) rfl rfl (by kernel_rfl) (by kernel_rfl) (by kernel_rfl) (fun _ _ _ h => h) ⟨Or.inl ⟨by rfl, by intro w; go_simp; try with_reducible rfl⟩, fun _ => rfl⟩ ?_
                  refine wpAnyIn_ready (rs := [9]) (by kernel_rfl) (by simp) ?_
                  refine AllReadyIn.cons rfl (fun K hK => ?_) AllReadyIn.nil
                  go_simp
                  refine ⟨trivial, fun _ => by omega, ?_⟩
                  refine (callsIn_wide.2 (HTb.out _ hbd)).mono ?_
                  rintro e w' ⟨rfl, rfl⟩
                  refine hK _ _ ?_
                  clear hK K
                  refine wpAnyIn_take (i := 10) (v := ?_) rfl rfl (by kernel_rfl) (by kernel_rfl) (by kernel_rfl) (fun _ _ _ h => h) ⟨Or.inl ⟨by rfl, by intro w; go_simp; try with_reducible rfl⟩, fun _ => rfl⟩ ?_
                  refine wpAnyIn_take (i := 11) (v := ?_) rfl rfl (by kernel_rfl) (by kernel_rfl) (by kernel_rfl) (fun _ _ _ h => h) ⟨Or.inl ⟨by rfl, by intro w; go_simp; try with_reducible rfl⟩, fun _ => rfl⟩ ?_
                  refine wpAnyIn_take (i := 12) (v := ?_) rfl rfl (by kernel_rfl) (by kernel_rfl) (by kernel_rfl) (fun _ _ _ h => h) ⟨Or.inl ⟨by rfl, by intro w; go_simp; try with_reducible rfl⟩, fun _ => rfl⟩ ?_
                  refine wpAnyIn_take (i := 13) (v := ?_) rfl rfl (by kernel_rfl) (by kernel_rfl) (by kernel_rfl) (fun _ _ _ h => h) ⟨Or.inl ⟨by rfl, by intro w; go_simp; try with_reducible rfl⟩, fun _ => rfl⟩ ?_
                  refine wpAnyIn_ready (rs := [14]) (by kernel_rfl) (by simp) ?_
                  refine AllReadyIn.cons rfl (fun K hK => ?_) AllReadyIn.nil
                  go_simp
                  refine ⟨fun _ => by omega, ?_⟩
                  refine hR.mono ?_
                  rintro e W3 (⟨rfl, hJ3, hk3⟩ | ⟨rfl, hJx3⟩)
                  · refine hK _ _ ?_
                    clear hK K
                    refine wpAnyIn_take (i := 15) (v := ?_) rfl rfl (by kernel_rfl) (by kernel_rfl) (by kernel_rfl) (fun _ _ _ h => h) ⟨Or.inl ⟨by rfl, by intro w; go_simp; try with_reducible rfl⟩, fun _ => rfl⟩ ?_
                    refine wpAnyIn_take (i := 16) (v := ?_) rfl rfl (by kernel_rfl) (by kernel_rfl) (by kernel_rfl) (fun _ _ _ h => h) ⟨Or.inl ⟨by rfl, by intro w; go_simp; try with_reducible rfl⟩, fun _ => rfl⟩ ?_
                    refine wpAnyIn_done (by kernel_rfl) ?_ _
                    gi_wp2
                    refine ⟨⟨j + 1, by omega, by go_num, ?_, Lib.hid (hbd.trans hk3.2)⟩, by simp only [intOf]; omega⟩
                    rw [HST.out, ← List.append_assoc]
                    exact Lib.hid hJ3
                  · refine hK _ _ ?_
                    clear hK K
                    refine wpAnyIn_take (i := 15) (v := ?_) rfl rfl (by kernel_rfl) (by kernel_rfl) (by kernel_rfl) (fun _ _ _ h => h) ⟨Or.inl ⟨by rfl, by intro w; go_simp; try with_reducible rfl⟩, fun _ => rfl⟩ ?_
                    refine wpAnyIn_take (i := 16) (v := ?_) rfl rfl (by kernel_rfl) (by kernel_rfl) (by kernel_rfl) (fun _ _ _ h => h) ⟨Or.inl ⟨by rfl, by intro w; go_simp; try with_reducible rfl⟩, fun _ => rfl⟩ ?_
                    refine wpAnyIn_done (by kernel_rfl) ?_ _
                    gi_wp2
                    refine bodyPost_ret (results_none rfl _ _ _) rfl ?_
                    exact ⟨⟨_, rfl⟩, Or.inr ⟨_, ⟨by simp, HIN.out⟩, hJx3⟩⟩
                refine AllReadyIn.cons rfl (fun K hK => ?_) AllReadyIn.nil
                go_simp
                refine hK _ _ ?_
                clear hK K
                refine wpAnyIn_ready (rs := [1, 7]) (by kernel_rfl) (by simp) ?_
                refine AllReadyIn.cons rfl (fun K hK => ?_) ?_
                · go_simp
                  refine hK _ _ ?_
                  clear hK K
                  refine wpAnyIn_ready (rs := [7]) (by kernel_rfl) (by simp) ?_
                  refine AllReadyIn.cons rfl (fun K hK => ?_) AllReadyIn.nil
                  go_simp
                  refine hK _ _ ?_
                  clear hK K
                  refine wpAnyIn_take (i := 8) (v := ?_) rfl rfl (by kernel_rfl) (by kernel_rfl) (by kernel_rfl) (fun _ _ _ h => h) ⟨Or.inl ⟨by rfl, by intro w; go_simp; try with_reducible rfl⟩, fun _ => rfl⟩ ?_
                  refine wpAnyIn_ready (rs := [9]) (by kernel_rfl) (by simp) ?_
                  refine AllReadyIn.cons rfl (fun K hK => ?_) AllReadyIn.nil
                  go_simp
                  refine ⟨trivial, fun _ => by omega, ?_⟩
                  refine (callsIn_wide.2 (HTb.out _ hbd)).mono ?_
                  rintro e w' ⟨rfl, rfl⟩
                  refine hK _ _ ?_
                  clear hK K
                  refine wpAnyIn_take (i := 10) (v := ?_) rfl rfl (by kernel_rfl) (by kernel_rfl) (by kernel_rfl) (fun _ _ _ h => h) ⟨Or.inl ⟨by rfl, by intro w; go_simp; try with_reducible rfl⟩, fun _ => rfl⟩ ?_
                  refine wpAnyIn_take (i := 11) (v := ?_) rfl rfl (by kernel_rfl) (by kernel_rfl) (by kernel_rfl) (fun _ _ _ h => h) ⟨Or.inl ⟨by rfl, by intro w; go_simp; try with_reducible rfl⟩, fun _ => rfl⟩ ?_
                  refine wpAnyIn_take (i := 12) (v := ?_) rfl rfl (by kernel_rfl) (by kernel_rfl) (by kernel_rfl) (fun _ _ _ h => h) ⟨Or.inl ⟨by rfl, by intro w; go_simp; try with_reducible rfl⟩, fun _ => rfl⟩ ?_
                  refine wpAnyIn_take (i := 13) (v := ?_) rfl rfl (by kernel_rfl) (by kernel_rfl) (by kernel_rfl) (fun _ _ _ h => h) ⟨Or.inl ⟨by rfl, by intro w; go_simp; try with_reducible rfl⟩, fun _ => rfl⟩ ?_
                  refine wpAnyIn_ready (rs := [14]) (by kernel_rfl) (by simp) ?_
                  refine AllReadyIn.cons rfl (fun K hK => ?_) AllReadyIn.nil
                  go_simp
                  refine ⟨fun _ => by omega, ?_⟩
                  refine hR.mono ?_
                  rintro e W3 (⟨rfl, hJ3, hk3⟩ | ⟨rfl, hJx3⟩)
                  · refine hK _ _ ?_
                    clear hK K
                    refine wpAnyIn_take (i := 15) (v := ?_) rfl rfl (by kernel_rfl) (by kernel_rfl) (by kernel_rfl) (fun _ _ _ h => h) ⟨Or.inl ⟨by rfl, by intro w; go_simp; try with_reducible rfl⟩, fun _ => rfl⟩ ?_
                    refine wpAnyIn_take (i := 16) (v := ?_) rfl rfl (by kernel_rfl) (by kernel_rfl) (by kernel_rfl) (fun _ _ _ h => h) ⟨Or.inl ⟨by rfl, by intro w; go_simp; try with_reducible rfl⟩, fun _ => rfl⟩ ?_
                    refine wpAnyIn_done (by kernel_rfl) ?_ _
                    gi_wp2
                    refine ⟨⟨j + 1, by omega, by go_num, ?_, Lib.hid (hbd.trans hk3.2)⟩, by simp only [intOf]; omega⟩
                    rw [HST.out, ← List.append_assoc]
                    exact Lib.hid hJ3
                  · refine hK _ _ ?_
                    clear hK K
                    refine wpAnyIn_take (i := 15) (v := ?_) rfl rfl (by kernel_rfl) (by kernel_rfl) (by kernel_rfl) (fun _ _ _ h => h) ⟨Or.inl ⟨by rfl, by intro w; go_simp; try with_reducible rfl⟩, fun _ => rfl⟩ ?_
                    refine wpAnyIn_take (i := 16) (v := ?_) rfl rfl (by kernel_rfl) (by kernel_rfl) (by kernel_rfl) (fun _ _ _ h => h) ⟨Or.inl ⟨by rfl, by intro w; go_simp; try with_reducible rfl⟩, fun _ => rfl⟩ ?_
                    refine wpAnyIn_done (by kernel_rfl) ?_ _
                    gi_wp2
                    refine bodyPost_ret (results_none rfl _ _ _) rfl ?_
                    exact ⟨⟨_, rfl⟩, Or.inr ⟨_, ⟨by simp, HIN.out⟩, hJx3⟩⟩
                refine AllReadyIn.cons rfl (fun K hK => ?_) AllReadyIn.nil
                go_simp
                refine hK _ _ ?_
                clear hK K
                refine wpAnyIn_take (i := 8) (v := ?_) rfl rfl (by kernel_rfl) (by kernel_rfl) (by kernel_rfl) (fun _ _ _ h => h) ⟨Or.inl ⟨by rfl, by intro w; go_simp; try with_reducible rfl⟩, fun _ => rfl⟩ ?_
                refine wpAnyIn_ready (rs := [1]) (by kernel_rfl) (by simp) ?_
                refine AllReadyIn.cons rfl (fun K hK => ?_) AllReadyIn.nil
                go_simp
                refine hK _ _ ?_
                clear hK K
                refine wpAnyIn_ready (rs := [9]) (by kernel_rfl) (by simp) ?_
                refine AllReadyIn.cons rfl (fun K hK => ?_) AllReadyIn.nil
                go_simp
                refine ⟨trivial, fun _ => by omega, ?_⟩
                refine (callsIn_wide.2 (HTb.out _ hbd)).mono ?_
                rintro e w' ⟨rfl, rfl⟩
                refine hK _ _ ?_
                clear hK K
                refine wpAnyIn_take (i := 10) (v := ?_) rfl rfl (by kernel_rfl) (by kernel_rfl) (by kernel_rfl) (fun _ _ _ h => h) ⟨Or.inl ⟨by rfl, by intro w; go_simp; try with_reducible rfl⟩, fun _ => rfl⟩ ?_
                refine wpAnyIn_take (i := 11) (v := ?_) rfl rfl (by kernel_rfl) (by kernel_rfl) (by kernel_rfl) (fun _ _ _ h => h) ⟨Or.inl ⟨by rfl, by intro w; go_simp; try with_reducible rfl⟩, fun _ => rfl⟩ ?_
                refine wpAnyIn_take (i := 12) (v := ?_) rfl rfl (by kernel_rfl) (by kernel_rfl) (by kernel_rfl) (fun _ _ _ h => h) ⟨Or.inl ⟨by rfl, by intro w; go_simp; try with_reducible rfl⟩, fun _ => rfl⟩ ?_
                refine wpAnyIn_take (i := 13) (v := ?_) rfl rfl (by kernel_rfl) (by kernel_rfl) (by kernel_rfl) (fun _ _ _ h => h) ⟨Or.inl ⟨by rfl, by intro w; go_simp; try with_reducible rfl⟩, fun _ => rfl⟩ ?_
                refine wpAnyIn_ready (rs := [14]) (by kernel_rfl) (by simp) ?_
                refine AllReadyIn.cons rfl (fun K hK => ?_) AllReadyIn.nil
                go_simp
                refine ⟨fun _ => by omega, ?_⟩
                refine hR.mono ?_
                rintro e W3 (⟨rfl, hJ3, hk3⟩ | ⟨rfl, hJx3⟩)
                · refine hK _ _ ?_
                  clear hK K
                  refine wpAnyIn_take (i := 15) (v := ?_) rfl rfl (by kernel_rfl) (by kernel_rfl) (by kernel_rfl) (fun _ _ _ h => h) ⟨Or.inl ⟨by rfl, by intro w; go_simp; try with_reducible rfl⟩, fun _ => rfl⟩ ?_
                  refine wpAnyIn_take (i := 16) (v := ?_) rfl rfl (by kernel_rfl) (by kernel_rfl) (by kernel_rfl) (fun _ _ _ h => h) ⟨Or.inl ⟨by rfl, by intro w; go_simp; try with_reducible rfl⟩, fun _ => rfl⟩ ?_
                  refine wpAnyIn_done (by kernel_rfl) ?_ _
                  gi_wp2
                  refine ⟨⟨j + 1, by omega, by go_num, ?_, Lib.hid (hbd.trans hk3.2)⟩, by simp only [intOf]; omega⟩
                  rw [HST.out, ← List.append_assoc]
                  exact Lib.hid hJ3
                · refine hK _ _ ?_
                  clear hK K
                  refine wpAnyIn_take (i := 15) (v := ?_) rfl rfl (by kernel_rfl) (by kernel_rfl) (by kernel_rfl) (fun _ _ _ h => h) ⟨Or.inl ⟨by rfl, by intro w; go_simp; try with_reducible rfl⟩, fun _ => rfl⟩ ?_
                  refine wpAnyIn_take (i := 16) (v := ?_) rfl rfl (by kernel_rfl) (by kernel_rfl) (by kernel_rfl) (fun _ _ _ h => h) ⟨Or.inl ⟨by rfl, by intro w; go_simp; try with_reducible rfl⟩, fun _ => rfl⟩ ?_
                  refine wpAnyIn_done (by kernel_rfl) ?_ _
                  gi_wp2
                  refine bodyPost_ret (results_none rfl _ _ _) rfl ?_
                  exact ⟨⟨_, rfl⟩, Or.inr ⟨_, ⟨by simp, HIN.out⟩, hJx3⟩⟩
            · obtain rfl : j = m := by omega
              rw [List.take_of_length_le (by omega)] at HJ6
              gi_wp2
              go_end0
              exact ⟨⟨_, rfl⟩, Or.inl ⟨_, by rw [hbl]; exact hbp.append_right _, HJ6.out⟩⟩
        · rw [if_pos hmd, List.append_nil] at hbl
          have hmd2 : (md H id name != 0) = true := by simpa using hmd
          clear k4
          gi_wp2
          refine bodyPost_ret (results_none rfl _ _ _) rfl ?_
          exact ⟨⟨_, rfl⟩, Or.inl ⟨blkH Dn id mode, by rw [hbl]; exact hbp, HJ1.out⟩⟩
      · obtain ⟨y, R', hpr, rfl, hpl⟩ := perm_map_cons _ hpL
        obtain rfl := key_inv hk
        have HB4 := Lib.hid (show Below w.heap.size w w4 from HB.out.trans (hch.below HB.out.size (fun i _ e => by rw [e]; exact hW2.size)))
        have hJ4 : J (blkH Dn id mode) w4 := HJ.out _ _ _ (some W2.heap.size) HJ1.out ⟨hch.os, hch.tape, hch.output, hch.size, fun i hi hne => hch.block i hi (fun e => hne (by rw [e]))⟩ (fun r e => by
          cases e
          obtain ⟨n', D', left', cnt', h1', -⟩ := HR.out
          exact ⟨Nat.le_refl _, h1'.iter_walk⟩)
        have HR4 := Lib.hid (hrg.perm hpl.symm)
        have hm4 : w4.rangeLeft x.2.1 W2.heap.size = (iE R').length := HR4.out.left
        have hlen : (iE R).length = (iE R').length + 1 := by
          have := hpr.length_eq
          simp [iE, this]
        have k4 := k.keepB HB4.out
        have ci := k4.ci
        have cm := k4.cm
        have HG := Lib.hid (Goes_any mode y.2 w4 k4.tabs)
        have hsn := blkH_snoc Dn y id mode
        have hp2 : x.2.2.Perm ((Dn ++ [y]) ++ R') := by
          rw [List.append_assoc]
          exact hp.trans (hpr.append_left Dn)
        have HP2 := Lib.hid hp2
        have hin : (!decide (y.1 = id) && !goesZ mode y.2) = true → (blkH Dn id mode).length < (blkL H W id name mode ahead).length ∧ ∀ z, z ∈ blkH Dn id mode ++ [y.1] → z ∈ blkL H W id name mode ahead := fun hc => by
          have h1 := blkH_perm hp2 id mode
          rw [hc, if_pos rfl] at hsn
          have h2 : blkH (Dn ++ [y] ++ R') id mode = (blkH Dn id mode ++ [y.1]) ++ blkH R' id mode := by
            rw [← hsn]
            unfold blkH
            rw [List.filter_append, List.map_append]
          rw [h2] at h1
          refine ⟨?_, fun z hz => ?_⟩
          · have h3 := h1.length_eq
            unfold blkL
            rw [hE0]
            simp only [List.length_append, List.length_cons, List.length_nil] at h3 ⊢
            omega
          · unfold blkL
            rw [hE0]
            exact List.mem_append_left _ (h1.mem_iff.2 (List.mem_append_left _ hz))
        have HIN := Lib.hid hin
        clear hrg hpl hpL hch k4 hp hpr hp2 hin
        by_cases hyi : y.1 = id
        · rw [decide_eq_true hyi, Bool.not_true, Bool.false_and, if_neg (by decide), List.append_nil] at hsn
          have hyb : (y.1 == id) = true := beq_iff_eq.2 hyi
          gi_wp2
          repeat (first | (refine ⟨trivial, ?_⟩; gi_wp2) | (refine ⟨fun _ h => (by cases h), ?_⟩; gi_wp2))
          refine ⟨⟨Dn ++ [y], R', HP2.out, HR4, by rw [hsn]; exact Lib.hid hJ4, HB4⟩, by rw [hm4, hms]; omega⟩
        · have hyb : (y.1 == id) = false := beq_eq_false_iff_ne.2 hyi
          have hyb2 : (y.1 != id) = true := by simpa using hyi
          cases hg : goesZ mode y.2 with
          | true =>
            rw [decide_eq_false hyi, hg, Bool.not_true, Bool.and_false, if_neg (by decide), List.append_nil] at hsn
            rw [hg] at HG
            gi_wp2
            refine ⟨trivial, fun _ => by omega, ?_⟩
            refine (callsIn_wide.2 HG.out).mono ?_
            rintro e w' ⟨rfl, rfl⟩
            gi_wp2
            repeat (first | (refine ⟨trivial, ?_⟩; gi_wp2) | (refine ⟨fun _ h => (by cases h), ?_⟩; gi_wp2))
            refine ⟨⟨Dn ++ [y], R', HP2.out, HR4, by rw [hsn]; exact Lib.hid hJ4, HB4⟩, by rw [hm4, hms]; omega⟩
          | false =>
            have hcd : (!decide (y.1 = id) && !goesZ mode y.2) = true := by rw [decide_eq_false hyi, hg]; rfl
            obtain ⟨hln, hmem⟩ := HIN.out hcd
            rw [hcd, if_pos rfl] at hsn
            rw [hg] at HG
            obtain ⟨fn, tmps, assign, body, hy, hR⟩ := hY _ y.1 w4 hJ4 hln
            have HMEM := Lib.hid hmem
            clear hcd hmem hln HIN
            gi_wp2
            refine ⟨trivial, fun _ => by omega, ?_⟩
            refine (callsIn_wide.2 HG.out).mono ?_
            rintro e w' ⟨rfl, rfl⟩
            gi_wp2
            refine ⟨fun _ => by omega, ?_⟩
            refine hR.mono ?_
            rintro e W3 (⟨rfl, hJ3, hk3⟩ | ⟨rfl, hJx3⟩)
            · gi_wp2
              have hr3 := rng_walks HR4.out hk3.1
              have hm3 : W3.rangeLeft x.2.1 W2.heap.size = (iE R').length := hr3.left
              refine ⟨⟨Dn ++ [y], R', HP2.out, Lib.hid hr3, by rw [hsn]; exact Lib.hid hJ3, Lib.hid (HB4.out.trans hk3.2)⟩, by rw [hm3, hms]; omega⟩
            · gi_wp2
              refine bodyPost_ret (results_none rfl _ _ _) rfl ?_
              exact ⟨⟨_, rfl⟩, Or.inr ⟨_, ⟨by simp, HMEM.out⟩, hJx3⟩⟩
end
end Go.Proofs.YtikdjgholjealaaGreatDoor.Lk
