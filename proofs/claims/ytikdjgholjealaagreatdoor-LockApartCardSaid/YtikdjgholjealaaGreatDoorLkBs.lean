/- For whom a transaction waits, told: whether there is anybody. -/
import Derived.Test.YtikdjgholjealaaGreatDoorLkBa
import Derived.Test.YtikdjgholjealaaGreatDoorLkF
import Derived.Lib.SlKeysI
import Derived.Shelf.SlicesE.Compact
import Derived.Shelf.SortM.Plain
import Derived.Shelf.SortM.SortNone
import Derived.Test.YtikdjgholjealaaGreatDoorShelf
namespace Go.Proofs.YtikdjgholjealaaGreatDoor.Lk
open Go.ChangeShapes Go.WideShapes Go.ChangeAt Go.RowKit Go.PlainAid Aid Md
open Go.Shelf
set_option linter.unusedVariables false
set_option linter.unusedSimpArgs false
section
variable {bb h l wt : Nat} {H : List Hol} {L : List Lin} {W : List Wan} {id : Int} {name : By} {mode : Int} {A : Option Addr} {m c : Nat} {ahead : List Int}
theorem nums_enc (xs : List Int) : nums xs = xs.map encZ := rfl
set_option maxRecDepth 100000 in
set_option maxHeartbeats 4000000 in
theorem sorted_it {gb gw gi ga : Nat} (w : World) (hk : Its w bb h l wt H L W gb gw gi ga id name mode A m c ahead) (hN : (blkL H W id name mode ahead).length ≤ 1000000) :
    Calls Tryz.prog 34 #[.func (.func 49) #[] #[.pointer (some ⟨gb, 0, none⟩), .pointer (some ⟨gw, 0, none⟩), .pointer (some ⟨gi, 0, none⟩), .pointer (some ⟨ga, 0, none⟩)]] w fun e w' => ∃ v xs, e = .returned v ∧ xs.length = (blkL H W id name mode ahead).length ∧ w'.ownsRow w.heap.size 3 1 v xs.length (nums xs) ∧ Below w.heap.size w w' := by
  have HA := Lib.hid (collect_it w hk hN)
  go_enter Tryz.func34, Tryz.ntmps34
  go_wp2_with fail
  refine HA.out.mono ?_
  rintro e w1 ⟨v, xs, rfl, hp, hr, hb⟩
  have HP := Lib.hid hp.length_eq
  have HB := Lib.hid hb
  clear HA hp hb
  rcases hr.2 with ⟨rfl, hz⟩ | ⟨g, cap, cur, rfl, hbase, hgb, r1, r2, r3, r4⟩
  · have hR := Lib.hid hr
    have hS := AnyM.slices_Sort_int_none Tryz.sortI none 0 w1
    clear hr
    go_wp2_with fail
    refine (show Calls Tryz.prog 48 #[.slice none 0 0] w1 _ from hS).mono ?_
    rintro e w2 ⟨rfl, hww⟩
    rw [hww]
    clear hww hS
    go_wp2_with fail
    go_returns
    exact ⟨_, xs, rfl, HP.out, hR.out, HB.out⟩
  · have hlen : xs.length ≤ 1000000 := by rw [HP.out]; exact hN
    have hH : Sort.Holds encZ w1 g 0 xs.toArray := holds_of_block_i hgb (by simpa [nums_enc] using r4)
    have hgl : g < w1.heap.size := (Array.getElem?_eq_some_iff.1 hgb).1
    have hS := AnyM.slices_Sort_int Tryz.sortI g 0 cap xs w1 hH hgl (by omega)
    have HS := Lib.hid hS
    have HO := fun n os => ownsRow_sorted_i (w := w1) (base := w.heap.size) (g := g) (cap := cap) (n := n) (e := 3) (os := os) (cur := cur) (ss := xs) (ts := xs.mergeSort fun x y => decide (x ≤ y)) (by simp) hbase hgb r1 r2 r3
    have HOO := Lib.hid HO
    have HBA := Lib.hid hbase
    clear hS hH hr hgb r3 r4 HO hgl hbase
    go_wp2_with fail
    refine (show Calls Tryz.prog 48 #[.slice (some ⟨g, 0, none⟩) xs.length cap] w1 _ from HS.out).mono ?_
    rintro e w2 ⟨rfl, n, os, hww⟩
    have hO2 := HOO.out n os
    have hg2 : w1.grownBy (Sort.grow (Sort.putRow encZ (Sort.ahead w1 n) g 0 (xs.mergeSort fun x y => decide (x ≤ y)).toArray) os) (some g) := grownBy_sorted_i _
    have hb2 : Below w.heap.size w w2 := by
      rw [hww]
      exact HB.out.grown hg2 HB.out.size (fun j e => by cases e; exact HBA.out)
    have hO3 : w2.ownsRow w.heap.size 3 1 (.slice (some ⟨g, 0, none⟩) xs.length cap) (xs.mergeSort fun x y => decide (x ≤ y)).length (nums (xs.mergeSort fun x y => decide (x ≤ y))) := by
      rw [hww, nums_enc, show (xs.mergeSort fun x y => decide (x ≤ y)).length = xs.length by simp]
      exact hO2
    have HO3 := Lib.hid hO3
    have HB2 := Lib.hid hb2
    clear hww hO2 hg2 hb2 HS HOO hO3 HB
    go_wp2_with fail
    go_returns
    exact ⟨_, xs.mergeSort fun x y => decide (x ≤ y), rfl, by rw [show (xs.mergeSort fun x y => decide (x ≤ y)).length = xs.length by simp]; exact HP.out, HO3.out, HB2.out⟩
theorem compact_pos {d : Array Int} (h : 0 < d.size) : 0 < (Lib.compactUpTo d d.size).length := by
  unfold Lib.compactUpTo
  rw [List.length_map]
  refine List.length_pos_iff.2 fun e => ?_
  have := List.filter_eq_nil_iff.1 e 0 (List.mem_range.2 h)
  exact this (Lib.keeps_lt_one d 0 (by omega))
set_option maxRecDepth 100000 in
set_option maxHeartbeats 4000000 in
theorem compact_any (base : Nat) (v : Value) (xs : List Int) (w : World) (hr : w.ownsRow base 3 1 v xs.length (nums xs)) (hn : xs.length ≤ 1000000) :
    Calls Tryz.prog 33 #[v] w fun e w' => ∃ A' n c', e = .returned (.slice A' n c') ∧ (0 < n ↔ 0 < xs.length) ∧ (base ≤ w.heap.size → Below base w w') := by
  rcases hr.2 with ⟨rfl, hz⟩ | ⟨g, cap, cur, rfl, hbase, hgb, r1, r2, r3, r4⟩
  · go_enter Tryz.func33, Tryz.ntmps33
    go_wp2_with fail
    go_returns
    exact ⟨none, 0, 0, rfl, by omega, fun _ => Below.refl _ _⟩
  · have hH : Sort.Holds (Value.int .i64) w g 0 xs.toArray := holds_of_block_i hgb (by simpa [nums_enc] using r4)
    have hC := AnyE.slices_Compact Tryz.compI (Value.int .i64) (fun _ => rfl) (EqlAt.intD _ _ _) (NeqAt.intD _ _ _) 0 (fun w => by kernel_rfl) g 0 cap xs.toArray w hH (by simp; omega) (by simpa using r1)
    refine (show Calls Tryz.prog 33 #[.slice (some ⟨g, 0, none⟩) xs.length cap] w _ from hC).mono ?_
    rintro e w' ⟨rfl, q, hww⟩
    refine ⟨_, _, _, rfl, ?_, fun hle => ?_⟩
    · constructor
      · intro h
        rcases Nat.eq_zero_or_pos xs.length with e | e
        · obtain rfl := List.eq_nil_of_length_eq_zero e
          simp [Lib.compactUpTo] at h
        · exact e
      · intro h
        exact compact_pos (by simpa using h)
    · have hg : w.grownBy (Sort.grow (Sort.putRow encZ (Sort.ahead w q) g 0 (Lib.compactUpTo xs.toArray xs.toArray.size ++ List.replicate (xs.toArray.size - (Lib.compactUpTo xs.toArray xs.toArray.size).length) (0 : Int)).toArray) #[]) (some g) := grownBy_sorted_i _
      rw [Sort.grow_empty] at hg
      rw [hww]
      exact (Below.refl base w).grown hg hle (fun j e => by cases e; exact hbase)
end
end Go.Proofs.YtikdjgholjealaaGreatDoor.Lk
