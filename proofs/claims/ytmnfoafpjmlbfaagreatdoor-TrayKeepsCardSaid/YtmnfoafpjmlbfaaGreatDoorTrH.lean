/- TrayKeeps, walked. -/
import Derived.Test.YtmnfoafpjmlbfaaGreatDoorTrF
import Derived.Test.YtmnfoafpjmlbfaaGreatDoorTrK
import Derived.Test.YtmnfoafpjmlbfaaGreatDoorTrG
import Derived.Test.YtmnfoafpjmlbfaaGreatDoorNdM
namespace Go.Proofs.YtmnfoafpjmlbfaaGreatDoor.Tr
open Go.ChangeShapes Go.WideShapes Go.ChangeAt Go.RowKit Go.PlainAid Aid Nt Nd Cr
set_option linter.unusedVariables false
set_option linter.unusedSimpArgs false
set_option linter.unusedSectionVars false
/-- Nodes in a row, each with the value that is its list. -/
def nws (k : Nat) (now : Nat → Nod) (nv : Nat → Value) : List Value := (List.range k).flatMap fun p => (nodCells (now p) (nv p)).toList
theorem range_split (p n : Nat) (hp : p < n) : List.range n = List.range p ++ (p :: List.range' (p + 1) (n - (p + 1))) := by
  rw [List.range_eq_range', List.range_eq_range', ← List.range'_succ, show n - (p + 1) + 1 = n - p by omega]
  have := List.range'_append (s := 0) (m := p) (n := n - p) (step := 1)
  rw [show p + (n - p) = n by omega] at this
  simpa using this.symm
theorem flat7_len (l : List Nat) (f : Nat → List Value) (hf : ∀ p, (f p).length = 7) : (l.flatMap f).length = l.length * 7 := by
  induction l with
  | nil => rfl
  | cons a l ih => rw [List.flatMap_cons, List.length_append, ih, hf, List.length_cons]; omega
theorem nws_len (k : Nat) (now : Nat → Nod) (nv : Nat → Value) : (nws k now nv).length = k * 7 := by unfold nws; rw [flat7_len _ _ (fun _ => rfl), List.length_range]
theorem nws_at (k : Nat) (now : Nat → Nod) (nv : Nat → Value) (p j : Nat) (hp : p < k) (hj : j < 7) : (nws k now nv)[p * 7 + j]? = (nodCells (now p) (nv p))[j]? := by
  unfold nws
  rw [flatMap_at _ 7 (fun _ => rfl) (List.range k) p j p (by rw [List.getElem?_range hp]) hj, Array.getElem?_toList]
theorem flat_same (l : List Nat) (f g : Nat → List Value) (h : ∀ p, p ∈ l → f p = g p) : l.flatMap f = l.flatMap g := by
  induction l with
  | nil => rfl
  | cons a l ih => rw [List.flatMap_cons, List.flatMap_cons, h a (List.mem_cons_self ..), ih (fun p hp => h p (List.mem_cons_of_mem _ hp))]
theorem nws_set (k : Nat) (now : Nat → Nod) (nv : Nat → Value) (p : Nat) (hp : p < k) (nd : Nod) (v : Value) :
    (nws k now nv).take (p * 7) ++ (nodCells nd v).toList ++ (nws k now nv).drop (p * 7 + 7) = nws k (Sl.upd now p nd) (Sl.upd nv p v) := by
  unfold nws
  rw [range_split p k hp, List.flatMap_append, List.flatMap_cons, List.flatMap_append, List.flatMap_cons]
  have hl : ((List.range p).flatMap fun p => (nodCells (now p) (nv p)).toList).length = p * 7 := by rw [flat7_len _ _ (fun _ => rfl), List.length_range]
  rw [← hl, List.take_left, List.drop_length_add_append, Sl.upd_same, Sl.upd_same]
  rw [show ((nodCells (now p) (nv p)).toList ++ (List.range' (p + 1) (k - (p + 1))).flatMap fun p => (nodCells (now p) (nv p)).toList).drop 7 = (List.range' (p + 1) (k - (p + 1))).flatMap fun p => (nodCells (now p) (nv p)).toList from rfl, List.append_assoc]
  congr 1
  · exact flat_same _ _ _ fun q hq => by
      have : q ≠ p := by have := List.mem_range.1 hq; omega
      rw [Sl.upd_other _ _ _ _ this, Sl.upd_other _ _ _ _ this]
  · congr 1
    exact flat_same _ _ _ fun q hq => by
      have : q ≠ p := by have := List.mem_range'_1.1 hq; omega
      rw [Sl.upd_other _ _ _ _ this, Sl.upd_other _ _ _ _ this]
theorem nws_stamp (k : Nat) (now : Nat → Nod) (nv : Nat → Value) (p : Nat) (hp : p < k) (st : Int) : (nws k now nv).set (p * 7 + 2) (.int .i64 st) = nws k (Sl.upd now p (restamp (now p) st)) nv := by
  apply List.ext_getElem?
  intro i
  rw [List.getElem?_set]
  by_cases hi : i < k * 7
  · have h1 := nws_at k now nv (i / 7) (i % 7) (by omega) (Nat.mod_lt _ (by decide))
    have h2 := nws_at k (Sl.upd now p (restamp (now p) st)) nv (i / 7) (i % 7) (by omega) (Nat.mod_lt _ (by decide))
    rw [show i / 7 * 7 + i % 7 = i by omega] at h1 h2
    rw [h2]
    by_cases hq : i / 7 = p
    · rw [hq] at h1 ⊢
      rw [Sl.upd_same]
      by_cases h0 : p * 7 + 2 = i
      · rw [if_pos h0, if_pos (by rw [nws_len]; omega), show i % 7 = 2 by omega]; rfl
      · rw [if_neg h0, h1]
        have h7 : i % 7 < 7 := Nat.mod_lt _ (by decide)
        have h8 : i % 7 ≠ 2 := by omega
        generalize i % 7 = j at *
        match j, h7, h8 with
        | 0, _, _ => rfl
        | 1, _, _ => rfl
        | 3, _, _ => rfl
        | 4, _, _ => rfl
        | 5, _, _ => rfl
        | 6, _, _ => rfl
    · rw [Sl.upd_other _ _ _ _ hq, if_neg (by omega), h1]
  · rw [if_neg (by omega), List.getElem?_eq_none (by rw [nws_len]; omega), List.getElem?_eq_none (by rw [nws_len]; omega)]
theorem upd_upd {α : Type} (P : Nat → α) (p : Nat) (a b : α) : Sl.upd (Sl.upd P p a) p b = Sl.upd P p b := by
  funext q
  unfold Sl.upd
  split <;> rfl
/-- Numbers in a row. -/
def fs (k : Nat) (f : Nat → Int) : List Value := (List.range k).map fun p => .int .i64 (f p)
theorem fs_len (k : Nat) (f : Nat → Int) : (fs k f).length = k * 1 := by simp [fs]
theorem fs_at (k : Nat) (f : Nat → Int) (p : Nat) (hp : p < k) : (fs k f)[p]? = some (.int .i64 (f p)) := by
  unfold fs; rw [List.getElem?_map, List.getElem?_range hp]; rfl
theorem fs_congr (k : Nat) (f g : Nat → Int) (h : ∀ p, p < k → f p = g p) : fs k f = fs k g := by
  unfold fs; exact List.map_congr_left fun p hp => by rw [h p (List.mem_range.1 hp)]
theorem fs_set (k : Nat) (f : Nat → Int) (q : Nat) (v : Int) : (fs k f).set q (.int .i64 v) = fs k (Sl.upd f q v) := by
  apply List.ext_getElem?
  intro i
  rw [List.getElem?_set]
  by_cases hi : i < k
  · rw [fs_at k _ i hi, fs_at k _ i hi]
    by_cases hq : q = i
    · subst hq; rw [if_pos rfl, if_pos (by rw [fs_len]; omega), Sl.upd_same]
    · rw [if_neg hq, Sl.upd_other _ _ _ _ (fun e => hq e.symm)]
  · rw [List.getElem?_eq_none (l := fs k (Sl.upd f q v)) (by rw [fs_len]; omega), List.getElem?_eq_none (l := fs k f) (by rw [fs_len]; omega)]
    split
    · rw [if_neg (by rw [fs_len]; omega)]
    · rfl
theorem made_fs (k : Nat) : (madeCells #[.int .i64 0] k).toList = fs k (fun _ => 0) := by
  apply List.ext_getElem?
  intro i
  by_cases hi : i < k
  · rw [fs_at k _ i hi, Array.getElem?_toList]
    simp [madeCells, hi, Nat.mod_one]
  · rw [List.getElem?_eq_none (by simp [madeCells]; omega), List.getElem?_eq_none (by rw [fs_len]; omega)]
/-- The first stamps that pages lack, of the first i of the dirty ones. -/
def fI (d : Nat → Option Db) (i p : Nat) : Int := match d p with
  | some y => if (lst d p).length < i then (y.first : Int) else 0
  | none => 0
def fF (d : Nat → Option Db) (p : Nat) : Int := match d p with
  | some y => (y.first : Int)
  | none => 0
theorem fI_zero (d : Nat → Option Db) (p : Nat) : fI d 0 p = 0 := by unfold fI; split <;> simp
theorem fI_full (d : Nat → Option Db) (k p : Nat) (hp : p < k) : fI d (lst d k).length p = fF d p := by
  unfold fI fF
  cases hd : d p with
  | none => rfl
  | some y => exact if_pos (lst_lt d p k hp y hd)
theorem fI_step (d : Nat → Option Db) (i q : Nat) (y : Db) (hq : d q = some y) (hi : (lst d q).length = i) (p : Nat) : Sl.upd (fI d i) q (y.first : Int) p = fI d (i + 1) p := by
  by_cases hpq : p = q
  · subst hpq
    rw [Sl.upd_same]
    unfold fI
    rw [hq]
    exact (if_pos (by omega)).symm
  · rw [Sl.upd_other _ _ _ _ hpq]
    unfold fI
    cases hd : d p with
    | none => rfl
    | some z =>
      have hne : (lst d p).length ≠ i := by
        intro e
        rcases Nat.lt_or_gt_of_ne hpq with h | h
        · have := lst_lt d p q h z hd; omega
        · have := lst_lt d q p h y hq; omega
      by_cases h : (lst d p).length < i
      · simp only [if_pos h, if_pos (show (lst d p).length < i + 1 by omega)]
      · simp only [if_neg h, if_neg (show ¬ (lst d p).length < i + 1 by omega)]
theorem dty_at (D : List Db) (i : Nat) (y : Db) (hy : D[i]? = some y) (j : Nat) (hj : j < 2) : (dty D)[i * 2 + j]? = [Value.int .i64 y.page, .int .i64 y.first][j]? :=
  flatMap_at (fun x : Db => [Value.int .i64 x.page, .int .i64 x.first]) 2 (fun _ => rfl) D i j y hy hj
theorem bit_zero (j : Nat) : Sl.bitK 0 j = false := by unfold Sl.bitK; simp
theorem settled_now (P : Nat → Sl.Pg) (n p : Nat) (hp : p < n) (hf : (P p).fresh = false → (P p).safe = (P p).now) : (Sl.settled P 0 n p).now = (P p).safe := by
  unfold Sl.settled
  by_cases h : (P p).fresh = true
  · have hl : (Sl.freshL P p).length < n := by have := Sl.freshL_le P p; omega
    rw [if_pos ⟨h, hl⟩, bit_zero]
    rfl
  · rw [if_neg (fun e => h e.1)]
    exact (hf (by simpa using h)).symm
theorem blk_vecN {w0 w : World} {O0 : Nat → Prop} {A : Asn} {g : Nat} {e : TypeId} {cs : Array Value} (size m : Nat) (xs : List Value) (hx : cs.toList = xs) (hm : xs.length = m * size) (hl : m ≤ maxLen) (h : Own w0 O0 w (Asn.blk g e cs * A)) : Own w0 O0 w (Asn.vec e size (.slice (some ⟨g, 0, none⟩) m m) m xs * A) :=
  h.imp (Imp.l fun w O h => ⟨Vec.built cs.toList (by have := h.1; unfold Blk at this; simpa using this) (Nat.le_refl _) hl (by rw [hx]; exact hm) (by rw [hx, ← hm, List.take_length]), fun k => by rw [h.2 k]; simp only [VB, Value.ownBlock, Option.some.injEq]; exact eq_comm⟩)
theorem made_nws (k : Nat) : (madeCells #[.int .i64 0, .int .i64 0, .int .i64 0, .bool false, .string ⟨#[]⟩, .int .i64 0, .slice none 0 0] (k * 7)).toList = nws k (fun _ => Nod.none) (fun _ => .slice none 0 0) := by
  apply List.ext_getElem?
  intro i
  by_cases hi : i < k * 7
  · have h := nws_at k (fun _ => Nod.none) (fun _ => .slice none 0 0) (i / 7) (i % 7) (by omega) (Nat.mod_lt _ (by decide))
    rw [show i / 7 * 7 + i % 7 = i by omega] at h
    rw [h, Array.getElem?_toList]
    unfold madeCells
    rw [Array.getElem?_map, Array.getElem?_range, if_pos hi]
    have h7 : i % 7 < 7 := Nat.mod_lt _ (by decide)
    show some ((#[.int .i64 0, .int .i64 0, .int .i64 0, .bool false, .string ⟨#[]⟩, .int .i64 0, .slice none 0 0] : Array Value)[i % 7]!) = (nodCells Nod.none (.slice none 0 0))[i % 7]?
    generalize i % 7 = j at *
    match j, h7 with
    | 0, _ => rfl
    | 1, _ => rfl
    | 2, _ => rfl
    | 3, _ => rfl
    | 4, _ => rfl
    | 5, _ => rfl
    | 6, _ => rfl
  · rw [List.getElem?_eq_none (by simp [madeCells]; omega), List.getElem?_eq_none (by rw [nws_len]; omega)]
theorem infoNode : (Tryz.prog.info? 31).map (fun i => (i.zero, i.size, i.bytes)) = some (some (.agg #[.int .i64 0, .int .i64 0, .int .i64 0, .bool false, .string ⟨#[]⟩, .int .i64 0, .slice none 0 0]), 7, 80) := by kernel_rfl
set_option maxRecDepth 100000 in
set_option maxHeartbeats 64000000 in
theorem keeps_any (n : Int) (A : Option Addr) (m1 c : Nat) (L : List Dn) (w : World) (ht : Tab w) (hm : m1 ≤ maxLen) (x1 : DnRow w A m1 L) :
    Calls Tryz.prog 4 #[.int .i64 n, .slice A m1 c] w fun e w' => e = .returned (.bool true) ∧ Below w.heap.size w w' := by
  obtain ⟨K8, hK, hK2⟩ := mod_u n 8 (by decide) (by decide)
  obtain ⟨k, hk⟩ : ∃ k, k = K8 + 1 := ⟨_, rfl⟩
  have hw1 : IntKind.i64.wrap (1 + (K8 : Int)) = (k : Int) := by rw [IntKind.wrap_i64]; omega
  have hk9 : k ≤ 8 := by omega
  have hk0 : 1 ≤ k := by omega
  unfold maxLen at hm
  have HT := Lib.hid ht
  have X1 := Lib.hid x1
  have HA := Lib.hid (fun w' C (h : Own w No w' C) => awake_any w w' C ht h)
  have HM := Lib.hid (fun w' C (h : Own w No w' C) => made_any k (by omega) w w' C ht h)
  have hmk := make_rows (P := Tryz.prog) 70 31 _ _ _ Tryz.underlying70 infoNode .i64 .i64 k (by omega) (by omega)
  have hmi := make_rows (P := Tryz.prog) 57 3 _ _ _ Tryz.underlying57 infoInt .i64 .i64 k (by omega) (by omega)
  rw [Nat.mul_one] at hmi
  have S0 := Lib.hid (Own.none w)
  clear ht x1 hk hK2
  go_enter Tryz.func4, Tryz.ntmps4
  go_wp2_with fail
  refine (HA.out _ _ S0.out).mono ?_
  rintro e w1 ⟨rfl, hb⟩
  have S1 := Lib.hid (Own.of_below hb)
  clear hb S0 HA
  go_wp2_with fail
  refine (HM.out _ _ S1.out).mono ?_
  rintro e w2 ⟨y, Y, rfl, hX⟩
  have hX := hX.alloc (madeCells #[.int .i64 0, .int .i64 0, .int .i64 0, .bool false, .string ⟨#[]⟩, .int .i64 0, .slice none 0 0] (k * 7)) 31
  have S2 := blk_vecN 7 k _ (made_nws k) (nws_len ..) (by unfold maxLen; omega) hX
  have S3 : Hid (Own w No (w2.alloc (.cells (madeCells #[.int .i64 0, .int .i64 0, .int .i64 0, .bool false, .string ⟨#[]⟩, .int .i64 0, .slice none 0 0] (k * 7)) 31)) (aB y k ⟨y.lv, .slice none 0 0, .slice none 0 0⟩ (fun _ => none) (Ls 0) bare3 (Asn.blk y.gb 42 (bRow y) * (Asn.vec 31 7 (.slice (some ⟨w2.heap.size, 0, none⟩) k k) k (nws k (fun _ => Nod.none) (fun _ => .slice none 0 0)) * Y)))) := Lib.hid (S2.re (by unfold aBn aB; dsimp only; rw [show Ls 0 = [] from rfl]; ac_rfl))
  clear hX S2 S1 HM
  go_upto_region 8 with fail
  obtain ⟨gn, hgz⟩ : ∃ g, g = w2.heap.size := ⟨_, rfl⟩
  rw [← hgz] at S3 ⊢
  clear hgz
  generalize w2.alloc _ = w3 at *
  have HG0 := Lib.hid (good_start k)
  have HR0 : Hid (∀ p, p < k → Row3 w ((fun _ => .slice none 0 0 : Nat → Value) p) ((fun _ => Nod.none : Nat → Nod) p).list) := Lib.hid fun p _ => Row3.nil w
  go_wp2_with fail
  go_loopw [8, 9, 10, 11] (fun p8 _ _ _ wr => ∃ (i K : Nat) (v : Vs) (h : Nat → Option Sh) (s : W3) (now : Nat → Nod) (nv : Nat → Value), p8 = .int .i64 i ∧ i ≤ m1 ∧ i ≤ 40 ∧ K ≤ i ∧ Hid (Good k K now h s) ∧ Hid (∀ p, p < k → Row3 w (nv p) (now p).list) ∧
    Hid (Own w No wr (aB y k v h (Ls K) s (Asn.blk y.gb 42 (bRow y) * (Asn.vec 31 7 (.slice (some ⟨gn, 0, none⟩) k k) k (nws k now nv) * Y))))) (fun p8 _ _ _ _ => 41 - (intOf p8).toNat)
  case atStart => exact ⟨0, 0, ⟨y.lv, .slice none 0 0, .slice none 0 0⟩, fun _ => none, bare3, fun _ => Nod.none, fun _ => .slice none 0 0, rfl, Nat.zero_le _, Nat.zero_le _, Nat.le_refl _, HG0, HR0, S3⟩
  case round =>
    clear S3 HG0 HR0 hmk
    obtain ⟨i, K, v, h, s, now, nv, rfl, hi1, hi2, hKi, HG, HR, S⟩ := hrel
    by_cases hlt : i < m1 ∧ i < 40
    · obtain ⟨hl1, hl2⟩ := hlt
      obtain ⟨x, ba, oa, A1, c1, hx, hx64, rfl, hcells, hrow⟩ := X1.out.at i hl1
      obtain ⟨kd, pg, nd⟩ := x
      dsimp only at hx64 hcells hrow
      obtain ⟨e0, e1, e2, e3, e4, e5, e6, e7, e8⟩ := hcells _ S.out.bel
      have HRow := Lib.hid (fun W (hb : Below w.heap.size w W) => hrow.keep hb)
      have HGr := Lib.hid (fun W (hb : Below w.heap.size w W) => great_list nd (.agg (nodCells nd (.slice A1 nd.list.length c1))) W ⟨_, rfl, hrow.keep hb⟩)
      clear hcells hrow hx
      unfold nodCells at HGr
      have S4 := Lib.hid ((S.out.alloc #[.int .i64 kd, .int .i64 pg, .int .i64 nd.tree, .int .i64 nd.level, .int .i64 nd.stamp, .bool nd.has, .string (ofL nd.high), .int .i64 nd.right, .slice A1 nd.list.length c1] 33).re (show _ = aB y k v h (Ls K) s (Asn.blk y.gb 42 (bRow y) * (Asn.vec 31 7 (.slice (some ⟨gn, 0, none⟩) k k) k (nws k now nv) * (Asn.blk wr.heap.size 33 #[.int .i64 kd, .int .i64 pg, .int .i64 nd.tree, .int .i64 nd.level, .int .i64 nd.stamp, .bool nd.has, .string (ofL nd.high), .int .i64 nd.right, .slice A1 nd.list.length c1] * Y))) by unfold aB; ac_rfl))
      clear S
      go_upto_region 12 with fail
      obtain ⟨gx, hgz⟩ : ∃ g, g = wr.heap.size := ⟨_, rfl⟩
      rw [← hgz] at S4 ⊢
      clear hgz e0 e1 e2 e3 e4 e5 e6 e7 e8
      generalize wr.alloc _ = w4 at *
      have hB4 := S4.out.right.right.right.right.right.right.has (Has.l (has_blk _ _ _))
      have k2 := hB4.cell 2
      have k3 := hB4.cell 3
      have k4 := hB4.cell 4
      have k5 := hB4.cell 5
      have k6 := hB4.cell 6
      have k7 := hB4.cell 7
      have k8 := hB4.cell 8
      clear hB4
      go_wp2_with fail
      refine (HGr.out _ S4.out.bel).mono ?_
      rintro e w5 ⟨he, hX⟩
      have S5 := Lib.hid (S4.out.below hX)
      clear hX S4 HGr k2 k3 k4 k5 k6 k7 k8
      rcases he with rfl | ⟨rfl, hll⟩
      · go_wp2_with fail
        go_returns
        exact ⟨rfl, S5.out.bel⟩
      have HB := Lib.hid (fun W C (hS : Own w No W (aB y k v h (Ls K) s C)) => hS)
      clear HB
      obtain ⟨st, hst⟩ : ∃ st, st = 29 * K + 1 := ⟨_, rfl⟩
      have hst1 : 1 ≤ st := by omega
      have hst2 : st ≤ 2147483647 := by omega
      by_cases hA : kd = 1 ∨ kd = 6
      · have HAdd := Lib.hid (bAdd y k v h s K (by omega) w w5 _ HT.out S5.out)
        rw [← hst] at HAdd
        unfold bareV at HAdd
        have HST := Lib.hid hst
        clear hst
        have hB5 := S5.out.right.right.right.right.right.right.has (Has.l (has_blk _ _ _))
        have k0 := hB5.cell 0
        obtain ⟨c0', c1', c2', c3'⟩ := b_cells S5.out
        clear hB5
        rcases hA with rfl | rfl
        · go_upto_region 17 with fail
          go_wp2_with fail
          refine HAdd.out.mono ?_
          rintro e w6 ⟨v6, rfl, hX⟩
          have S6 := Lib.hid hX
          clear hX S5 HAdd k0 c0' c1' c2' c3'
          have HG6 := Lib.hid (good_more HG.out)
          obtain ⟨c0', c1', c2', c3'⟩ := b_cells S6.out
          have hB6 := S6.out.right.right.right.right.right.right.has (Has.l (has_blk _ _ _))
          have k1 := hB6.cell 1
          have k2 := hB6.cell 2
          have k3 := hB6.cell 3
          have k4 := hB6.cell 4
          have k5 := hB6.cell 5
          have k6 := hB6.cell 6
          have k7 := hB6.cell 7
          have k8 := hB6.cell 8
          clear hB6
          have S6B := ((S6.out.below (blA (Below.refl _ _) (.cells (shZ pg nd (.slice A1 nd.list.length c1)) 53))).drew)
          have c3B := (b_cells S6B).2.2.2
          have HSB := Lib.hid S6B
          clear S6B
          unfold shZ at HSB c3B
          cases hy : nay k pg (restamp nd st) with
          | true =>
            have HPut := Lib.hid (bPut_bad y k (by omega) v6 h HG.out.oks (Ls (K + 1)) s HG.out.okd st hst1 hst2 w6.heap.size 1 pg nd (.slice A1 nd.list.length c1) hy w _ _ (HRow.out _ HSB.out.bel) (Blk.new w6 (shZ pg nd (.slice A1 nd.list.length c1)) 53) HSB.out)
            clear hy
            go_upto_region 20 with fail
            have F : Hid (∀ (W : World) (v : Vs) (h : Nat → Option Sh) (s : W3), Own w No W (aB y k v h (Ls (K + 1)) s (Asn.blk y.gb 42 (bRow y) * (Asn.vec 31 7 (.slice (some ⟨gn, 0, none⟩) k k) k (nws k now nv) * (Asn.blk gx 33 #[.int .i64 1, .int .i64 pg, .int .i64 nd.tree, .int .i64 nd.level, .int .i64 nd.stamp, .bool nd.has, .string (ofL nd.high), .int .i64 nd.right, .slice A1 nd.list.length c1] * Y)))) → W.cell? ⟨y.gb, 3, none⟩ = some (.pointer (some ⟨y.g, 0, none⟩)) ∧ W.cell? ⟨gx, 1, none⟩ = some (.int .i64 pg) ∧ W.cell? ⟨gx, 2, none⟩ = some (.int .i64 nd.tree) ∧ W.cell? ⟨gx, 3, none⟩ = some (.int .i64 nd.level) ∧ W.cell? ⟨gx, 4, none⟩ = some (.int .i64 nd.stamp) ∧ W.cell? ⟨gx, 5, none⟩ = some (.bool nd.has) ∧ W.cell? ⟨gx, 6, none⟩ = some (.string (ofL nd.high)) ∧ W.cell? ⟨gx, 7, none⟩ = some (.int .i64 nd.right) ∧ W.cell? ⟨gx, 8, none⟩ = some (.slice A1 nd.list.length c1)) := Lib.hid fun W v h s hS => by
              have hB := hS.right.right.right.right.right.right.has (Has.l (has_blk _ _ _))
              exact ⟨(b_cells hS).2.2.2, hB.cell 1, hB.cell 2, hB.cell 3, hB.cell 4, hB.cell 5, hB.cell 6, hB.cell 7, hB.cell 8⟩
            have tA := F.out _ _ _ _ S6.out.drew
            have tB := F.out _ _ _ _ HSB.out
            clear c0' c1' c2' c3' c3B k1 k2 k3 k4 k5 k6 k7 k8
            go_region_held3 (fun W : World => W.cell? ⟨y.gb, 3, none⟩ = some (.pointer (some ⟨y.g, 0, none⟩)) ∧ W.cell? ⟨gx, 1, none⟩ = some (.int .i64 pg) ∧ W.cell? ⟨gx, 2, none⟩ = some (.int .i64 nd.tree) ∧ W.cell? ⟨gx, 3, none⟩ = some (.int .i64 nd.level) ∧ W.cell? ⟨gx, 4, none⟩ = some (.int .i64 nd.stamp) ∧ W.cell? ⟨gx, 5, none⟩ = some (.bool nd.has) ∧ W.cell? ⟨gx, 6, none⟩ = some (.string (ofL nd.high)) ∧ W.cell? ⟨gx, 7, none⟩ = some (.int .i64 nd.right) ∧ W.cell? ⟨gx, 8, none⟩ = some (.slice A1 nd.list.length c1)) (first | exact tA | exact tB | exact tC) (first | (go_at_call 10; refine HPut.out.mono ?_; rintro e w7 ⟨rfl, hX⟩; have S7 := Lib.hid hX; have tC := F.out _ _ _ _ hX))
            have S8 := Lib.hid ((S7.out.re (show _ = Asn.blk gx 33 _ * aB y k v6 h (Ls (K + 1)) s (Asn.blk y.gb 42 (bRow y) * (Asn.vec 31 7 (.slice (some ⟨gn, 0, none⟩) k k) k (nws k now nv) * Y)) by unfold aB; ac_rfl)).right)
            clear S7 HPut HSB S6 tA tB tC F hX
            go_wp2_with fail
            go_roundw
            case rel => exact ⟨i + 1, K + 1, v6, h, s, now, nv, by go_num, by omega, by omega, by omega, HG6, HR, S8⟩
            case measure => simp [intOf]; omega
          | false =>
            obtain ⟨p, rfl, hp, hf⟩ := nay_yes k pg (restamp nd st) hy
            have HPut := Lib.hid (bPut_ok y k (by omega) v6 h HG.out.oks (Ls (K + 1)) s HG.out.okd st hst1 hst2 w6.heap.size 1 p nd (.slice A1 nd.list.length c1) hp hf (by omega) w _ _ (HRow.out _ HSB.out.bel) (Blk.new w6 (shZ p nd (.slice A1 nd.list.length c1)) 53) HSB.out)
            have HGP := Lib.hid (fun lv => good_put HG.out p hp nd (by rw [← HST.out]; exact hf) lv)
            clear hy
            go_upto_region 20 with fail
            have F : Hid (∀ (W : World) (v : Vs) (h : Nat → Option Sh) (s : W3), Own w No W (aB y k v h (Ls (K + 1)) s (Asn.blk y.gb 42 (bRow y) * (Asn.vec 31 7 (.slice (some ⟨gn, 0, none⟩) k k) k (nws k now nv) * (Asn.blk gx 33 #[.int .i64 1, .int .i64 (p : Int), .int .i64 nd.tree, .int .i64 nd.level, .int .i64 nd.stamp, .bool nd.has, .string (ofL nd.high), .int .i64 nd.right, .slice A1 nd.list.length c1] * Y)))) → W.cell? ⟨y.gb, 3, none⟩ = some (.pointer (some ⟨y.g, 0, none⟩)) ∧ W.cell? ⟨gx, 1, none⟩ = some (.int .i64 p) ∧ W.cell? ⟨gx, 2, none⟩ = some (.int .i64 nd.tree) ∧ W.cell? ⟨gx, 3, none⟩ = some (.int .i64 nd.level) ∧ W.cell? ⟨gx, 4, none⟩ = some (.int .i64 nd.stamp) ∧ W.cell? ⟨gx, 5, none⟩ = some (.bool nd.has) ∧ W.cell? ⟨gx, 6, none⟩ = some (.string (ofL nd.high)) ∧ W.cell? ⟨gx, 7, none⟩ = some (.int .i64 nd.right) ∧ W.cell? ⟨gx, 8, none⟩ = some (.slice A1 nd.list.length c1)) := Lib.hid fun W v h s hS => by
              have hB := hS.right.right.right.right.right.right.has (Has.l (has_blk _ _ _))
              exact ⟨(b_cells hS).2.2.2, hB.cell 1, hB.cell 2, hB.cell 3, hB.cell 4, hB.cell 5, hB.cell 6, hB.cell 7, hB.cell 8⟩
            have tA := F.out _ _ _ _ S6.out.drew
            have tB := F.out _ _ _ _ HSB.out
            clear c0' c1' c2' c3' c3B k1 k2 k3 k4 k5 k6 k7 k8
            go_region_held3 (fun W : World => W.cell? ⟨y.gb, 3, none⟩ = some (.pointer (some ⟨y.g, 0, none⟩)) ∧ W.cell? ⟨gx, 1, none⟩ = some (.int .i64 p) ∧ W.cell? ⟨gx, 2, none⟩ = some (.int .i64 nd.tree) ∧ W.cell? ⟨gx, 3, none⟩ = some (.int .i64 nd.level) ∧ W.cell? ⟨gx, 4, none⟩ = some (.int .i64 nd.stamp) ∧ W.cell? ⟨gx, 5, none⟩ = some (.bool nd.has) ∧ W.cell? ⟨gx, 6, none⟩ = some (.string (ofL nd.high)) ∧ W.cell? ⟨gx, 7, none⟩ = some (.int .i64 nd.right) ∧ W.cell? ⟨gx, 8, none⟩ = some (.slice A1 nd.list.length c1)) (first | exact tA | exact tB | exact tC) (first | (go_at_call 10; refine HPut.out.mono ?_; rintro e w7 ⟨v7, lv7, rfl, hX⟩; have S7 := Lib.hid hX; have tC := F.out _ _ _ _ hX))
            clear HPut HSB S6 tA tB F hX
            obtain ⟨-, k1, k2, k3, k4, k5, k6, k7, k8⟩ := tC
            have S8 := Lib.hid (S7.out.re (show _ = Asn.vec 31 7 (.slice (some ⟨gn, 0, none⟩) k k) k (nws k now nv) * (Asn.blk gx 33 #[.int .i64 1, .int .i64 (p : Int), .int .i64 nd.tree, .int .i64 nd.level, .int .i64 nd.stamp, .bool nd.has, .string (ofL nd.high), .int .i64 nd.right, .slice A1 nd.list.length c1] * aB y k v7 (put h p (some ⟨p, restamp nd st, lv7⟩)) (Ls (K + 1)) ⟨owed s.d p st, s.P, s.safe⟩ (Asn.blk y.gb 42 (bRow y) * Y)) by unfold aB; ac_rfl))
            clear S7
            have HTH : Hid (w7.there gn (p * 7) 7) := Lib.hid fun j hj => by
              have hx : (nws k now nv)[p * 7 + j]? = some ((nws k now nv)[p * 7 + j]'(by rw [nws_len]; omega)) := List.getElem?_eq_getElem _
              refine ⟨?_, S8.out.vec.free _⟩
              rw [S8.out.vec.cell hx]; rfl
            go_upto_region 22 with (with_reducible refine wpList_store_mid rfl 31 (.tmp 83) (.tmp 82) rfl gn (p * 7) #[.int .i64 nd.tree, .int .i64 nd.level, .int .i64 nd.stamp, .bool nd.has, .string (ofL nd.high), .int .i64 nd.right, .slice A1 nd.list.length c1] ?c1 ?c2 ?c5 ?c3 ?c4 ?_)
            case c1 => rfl
            case c2 => rfl
            case c3 => kernel_rfl
            case c4 => exact all_oneCell_toArray (cs := [.int .i64 nd.tree, .int .i64 nd.level, .int .i64 nd.stamp, .bool nd.has, .string (ofL nd.high), .int .i64 nd.right, .slice A1 nd.list.length c1]) (by intro u hu; simp at hu; rcases hu with rfl | rfl | rfl | rfl | rfl | rfl | rfl <;> rfl)
            case c5 => exact HTH.out
            have S9 := own_setCells 31 7 gn k k [.int .i64 nd.tree, .int .i64 nd.level, .int .i64 nd.stamp, .bool nd.has, .string (ofL nd.high), .int .i64 nd.right, .slice A1 nd.list.length c1] (p * 7) _ _ S8.out (by simp only [List.length_cons, List.length_nil]; omega)
            have e9 := nws_set k now nv p hp nd (.slice A1 nd.list.length c1)
            unfold nodCells at e9
            simp only [List.length_cons, List.length_nil] at S9
            rw [show p * 7 + (0 + 1 + 1 + 1 + 1 + 1 + 1 + 1) = p * 7 + 7 from rfl] at S9
            rw [e9] at S9
            have S10 := Lib.hid S9
            clear S9 e9 S8 HTH k1 k2 k3 k4 k5 k6 k7 k8
            generalize World.setCells w7 _ _ _ = w8 at *
            have k1 := (S10.out.right.has (Has.l (has_blk _ _ _))).cell 1
            have hat := nws_at k (Sl.upd now p nd) (Sl.upd nv p (.slice A1 nd.list.length c1)) p 2 hp (by decide)
            rw [Sl.upd_same, Sl.upd_same] at hat
            have q2 := S10.out.vec.cell hat
            have f2 := S10.out.vec.free (p * 7 + 2)
            clear hat
            have S11 := S10.out.set (Sets.l (sets_vec _ _ _ _ _ _ (p * 7 + 2) (by omega) (.int .i64 st)))
            rw [nws_stamp k _ _ p hp, Sl.upd_same, upd_upd] at S11
            have S12 := Lib.hid (S11.re (show _ = Asn.blk gx 33 #[.int .i64 1, .int .i64 (p : Int), .int .i64 nd.tree, .int .i64 nd.level, .int .i64 nd.stamp, .bool nd.has, .string (ofL nd.high), .int .i64 nd.right, .slice A1 nd.list.length c1] * aB y k v7 (put h p (some ⟨p, restamp nd st, lv7⟩)) (Ls (K + 1)) ⟨owed s.d p st, s.P, s.safe⟩ (Asn.blk y.gb 42 (bRow y) * (Asn.vec 31 7 (.slice (some ⟨gn, 0, none⟩) k k) k (nws k (Sl.upd now p (restamp nd st)) (Sl.upd nv p (.slice A1 nd.list.length c1))) * Y)) by unfold aB; ac_rfl)).right
            have HGN := Lib.hid (HGP.out lv7)
            rw [← HST.out] at HGN
            have HRN : Hid (∀ q, q < k → Row3 w (Sl.upd nv p (.slice A1 nd.list.length c1) q) (Sl.upd now p (restamp nd st) q).list) := Lib.hid fun q hq => by
              by_cases hqp : q = p
              · subst hqp
                rw [Sl.upd_same, Sl.upd_same]
                exact HRow.out w (Below.refl _ _)
              · rw [Sl.upd_other _ _ _ _ hqp, Sl.upd_other _ _ _ _ hqp]
                exact HR.out q hq
            clear S11 S10
            go_wp2_with fail
            go_roundw
            case rel => exact ⟨i + 1, K + 1, v7, _, _, _, _, by go_num, by omega, by omega, by omega, HGN, HRN, S12⟩
            case measure => simp [intOf]; omega
        · go_upto_region 17 with fail
          go_wp2_with fail
          refine HAdd.out.mono ?_
          rintro e w6 ⟨v6, rfl, hX⟩
          have S6 := Lib.hid hX
          clear hX S5 HAdd k0 c0' c1' c2' c3'
          have HG6 := Lib.hid (good_more HG.out)
          obtain ⟨c0', c1', c2', c3'⟩ := b_cells S6.out
          have hB6 := S6.out.right.right.right.right.right.right.has (Has.l (has_blk _ _ _))
          have k1 := hB6.cell 1
          have k2 := hB6.cell 2
          have k3 := hB6.cell 3
          have k4 := hB6.cell 4
          have k5 := hB6.cell 5
          have k6 := hB6.cell 6
          have k7 := hB6.cell 7
          have k8 := hB6.cell 8
          clear hB6
          have S6B := ((S6.out.below (blA (Below.refl _ _) (.cells (shZ pg nd (.slice A1 nd.list.length c1)) 53))).drew)
          have c3B := (b_cells S6B).2.2.2
          have HSB := Lib.hid S6B
          clear S6B
          unfold shZ at HSB c3B
          cases hy : nay k pg (restamp nd st) with
          | true =>
            have HPut := Lib.hid (bPut_bad y k (by omega) v6 h HG.out.oks (Ls (K + 1)) s HG.out.okd st hst1 hst2 w6.heap.size 1 pg nd (.slice A1 nd.list.length c1) hy w _ _ (HRow.out _ HSB.out.bel) (Blk.new w6 (shZ pg nd (.slice A1 nd.list.length c1)) 53) HSB.out)
            clear hy
            go_upto_region 20 with fail
            have F : Hid (∀ (W : World) (v : Vs) (h : Nat → Option Sh) (s : W3), Own w No W (aB y k v h (Ls (K + 1)) s (Asn.blk y.gb 42 (bRow y) * (Asn.vec 31 7 (.slice (some ⟨gn, 0, none⟩) k k) k (nws k now nv) * (Asn.blk gx 33 #[.int .i64 6, .int .i64 pg, .int .i64 nd.tree, .int .i64 nd.level, .int .i64 nd.stamp, .bool nd.has, .string (ofL nd.high), .int .i64 nd.right, .slice A1 nd.list.length c1] * Y)))) → W.cell? ⟨y.gb, 3, none⟩ = some (.pointer (some ⟨y.g, 0, none⟩)) ∧ W.cell? ⟨gx, 1, none⟩ = some (.int .i64 pg) ∧ W.cell? ⟨gx, 2, none⟩ = some (.int .i64 nd.tree) ∧ W.cell? ⟨gx, 3, none⟩ = some (.int .i64 nd.level) ∧ W.cell? ⟨gx, 4, none⟩ = some (.int .i64 nd.stamp) ∧ W.cell? ⟨gx, 5, none⟩ = some (.bool nd.has) ∧ W.cell? ⟨gx, 6, none⟩ = some (.string (ofL nd.high)) ∧ W.cell? ⟨gx, 7, none⟩ = some (.int .i64 nd.right) ∧ W.cell? ⟨gx, 8, none⟩ = some (.slice A1 nd.list.length c1)) := Lib.hid fun W v h s hS => by
              have hB := hS.right.right.right.right.right.right.has (Has.l (has_blk _ _ _))
              exact ⟨(b_cells hS).2.2.2, hB.cell 1, hB.cell 2, hB.cell 3, hB.cell 4, hB.cell 5, hB.cell 6, hB.cell 7, hB.cell 8⟩
            have tA := F.out _ _ _ _ S6.out.drew
            have tB := F.out _ _ _ _ HSB.out
            clear c0' c1' c2' c3' c3B k1 k2 k3 k4 k5 k6 k7 k8
            go_region_held3 (fun W : World => W.cell? ⟨y.gb, 3, none⟩ = some (.pointer (some ⟨y.g, 0, none⟩)) ∧ W.cell? ⟨gx, 1, none⟩ = some (.int .i64 pg) ∧ W.cell? ⟨gx, 2, none⟩ = some (.int .i64 nd.tree) ∧ W.cell? ⟨gx, 3, none⟩ = some (.int .i64 nd.level) ∧ W.cell? ⟨gx, 4, none⟩ = some (.int .i64 nd.stamp) ∧ W.cell? ⟨gx, 5, none⟩ = some (.bool nd.has) ∧ W.cell? ⟨gx, 6, none⟩ = some (.string (ofL nd.high)) ∧ W.cell? ⟨gx, 7, none⟩ = some (.int .i64 nd.right) ∧ W.cell? ⟨gx, 8, none⟩ = some (.slice A1 nd.list.length c1)) (first | exact tA | exact tB | exact tC) (first | (go_at_call 10; refine HPut.out.mono ?_; rintro e w7 ⟨rfl, hX⟩; have S7 := Lib.hid hX; have tC := F.out _ _ _ _ hX))
            have S8 := Lib.hid ((S7.out.re (show _ = Asn.blk gx 33 _ * aB y k v6 h (Ls (K + 1)) s (Asn.blk y.gb 42 (bRow y) * (Asn.vec 31 7 (.slice (some ⟨gn, 0, none⟩) k k) k (nws k now nv) * Y)) by unfold aB; ac_rfl)).right)
            clear S7 HPut HSB S6 tA tB tC F hX
            go_wp2_with fail
            go_roundw
            case rel => exact ⟨i + 1, K + 1, v6, h, s, now, nv, by go_num, by omega, by omega, by omega, HG6, HR, S8⟩
            case measure => simp [intOf]; omega
          | false =>
            obtain ⟨p, rfl, hp, hf⟩ := nay_yes k pg (restamp nd st) hy
            have HPut := Lib.hid (bPut_ok y k (by omega) v6 h HG.out.oks (Ls (K + 1)) s HG.out.okd st hst1 hst2 w6.heap.size 1 p nd (.slice A1 nd.list.length c1) hp hf (by omega) w _ _ (HRow.out _ HSB.out.bel) (Blk.new w6 (shZ p nd (.slice A1 nd.list.length c1)) 53) HSB.out)
            have HGP := Lib.hid (fun lv => good_put HG.out p hp nd (by rw [← HST.out]; exact hf) lv)
            clear hy
            go_upto_region 20 with fail
            have F : Hid (∀ (W : World) (v : Vs) (h : Nat → Option Sh) (s : W3), Own w No W (aB y k v h (Ls (K + 1)) s (Asn.blk y.gb 42 (bRow y) * (Asn.vec 31 7 (.slice (some ⟨gn, 0, none⟩) k k) k (nws k now nv) * (Asn.blk gx 33 #[.int .i64 6, .int .i64 (p : Int), .int .i64 nd.tree, .int .i64 nd.level, .int .i64 nd.stamp, .bool nd.has, .string (ofL nd.high), .int .i64 nd.right, .slice A1 nd.list.length c1] * Y)))) → W.cell? ⟨y.gb, 3, none⟩ = some (.pointer (some ⟨y.g, 0, none⟩)) ∧ W.cell? ⟨gx, 1, none⟩ = some (.int .i64 p) ∧ W.cell? ⟨gx, 2, none⟩ = some (.int .i64 nd.tree) ∧ W.cell? ⟨gx, 3, none⟩ = some (.int .i64 nd.level) ∧ W.cell? ⟨gx, 4, none⟩ = some (.int .i64 nd.stamp) ∧ W.cell? ⟨gx, 5, none⟩ = some (.bool nd.has) ∧ W.cell? ⟨gx, 6, none⟩ = some (.string (ofL nd.high)) ∧ W.cell? ⟨gx, 7, none⟩ = some (.int .i64 nd.right) ∧ W.cell? ⟨gx, 8, none⟩ = some (.slice A1 nd.list.length c1)) := Lib.hid fun W v h s hS => by
              have hB := hS.right.right.right.right.right.right.has (Has.l (has_blk _ _ _))
              exact ⟨(b_cells hS).2.2.2, hB.cell 1, hB.cell 2, hB.cell 3, hB.cell 4, hB.cell 5, hB.cell 6, hB.cell 7, hB.cell 8⟩
            have tA := F.out _ _ _ _ S6.out.drew
            have tB := F.out _ _ _ _ HSB.out
            clear c0' c1' c2' c3' c3B k1 k2 k3 k4 k5 k6 k7 k8
            go_region_held3 (fun W : World => W.cell? ⟨y.gb, 3, none⟩ = some (.pointer (some ⟨y.g, 0, none⟩)) ∧ W.cell? ⟨gx, 1, none⟩ = some (.int .i64 p) ∧ W.cell? ⟨gx, 2, none⟩ = some (.int .i64 nd.tree) ∧ W.cell? ⟨gx, 3, none⟩ = some (.int .i64 nd.level) ∧ W.cell? ⟨gx, 4, none⟩ = some (.int .i64 nd.stamp) ∧ W.cell? ⟨gx, 5, none⟩ = some (.bool nd.has) ∧ W.cell? ⟨gx, 6, none⟩ = some (.string (ofL nd.high)) ∧ W.cell? ⟨gx, 7, none⟩ = some (.int .i64 nd.right) ∧ W.cell? ⟨gx, 8, none⟩ = some (.slice A1 nd.list.length c1)) (first | exact tA | exact tB | exact tC) (first | (go_at_call 10; refine HPut.out.mono ?_; rintro e w7 ⟨v7, lv7, rfl, hX⟩; have S7 := Lib.hid hX; have tC := F.out _ _ _ _ hX))
            clear HPut HSB S6 tA tB F hX
            obtain ⟨-, k1, k2, k3, k4, k5, k6, k7, k8⟩ := tC
            have S8 := Lib.hid (S7.out.re (show _ = Asn.vec 31 7 (.slice (some ⟨gn, 0, none⟩) k k) k (nws k now nv) * (Asn.blk gx 33 #[.int .i64 6, .int .i64 (p : Int), .int .i64 nd.tree, .int .i64 nd.level, .int .i64 nd.stamp, .bool nd.has, .string (ofL nd.high), .int .i64 nd.right, .slice A1 nd.list.length c1] * aB y k v7 (put h p (some ⟨p, restamp nd st, lv7⟩)) (Ls (K + 1)) ⟨owed s.d p st, s.P, s.safe⟩ (Asn.blk y.gb 42 (bRow y) * Y)) by unfold aB; ac_rfl))
            clear S7
            have HTH : Hid (w7.there gn (p * 7) 7) := Lib.hid fun j hj => by
              have hx : (nws k now nv)[p * 7 + j]? = some ((nws k now nv)[p * 7 + j]'(by rw [nws_len]; omega)) := List.getElem?_eq_getElem _
              refine ⟨?_, S8.out.vec.free _⟩
              rw [S8.out.vec.cell hx]; rfl
            go_upto_region 22 with (with_reducible refine wpList_store_mid rfl 31 (.tmp 83) (.tmp 82) rfl gn (p * 7) #[.int .i64 nd.tree, .int .i64 nd.level, .int .i64 nd.stamp, .bool nd.has, .string (ofL nd.high), .int .i64 nd.right, .slice A1 nd.list.length c1] ?c1 ?c2 ?c5 ?c3 ?c4 ?_)
            case c1 => rfl
            case c2 => rfl
            case c3 => kernel_rfl
            case c4 => exact all_oneCell_toArray (cs := [.int .i64 nd.tree, .int .i64 nd.level, .int .i64 nd.stamp, .bool nd.has, .string (ofL nd.high), .int .i64 nd.right, .slice A1 nd.list.length c1]) (by intro u hu; simp at hu; rcases hu with rfl | rfl | rfl | rfl | rfl | rfl | rfl <;> rfl)
            case c5 => exact HTH.out
            have S9 := own_setCells 31 7 gn k k [.int .i64 nd.tree, .int .i64 nd.level, .int .i64 nd.stamp, .bool nd.has, .string (ofL nd.high), .int .i64 nd.right, .slice A1 nd.list.length c1] (p * 7) _ _ S8.out (by simp only [List.length_cons, List.length_nil]; omega)
            have e9 := nws_set k now nv p hp nd (.slice A1 nd.list.length c1)
            unfold nodCells at e9
            simp only [List.length_cons, List.length_nil] at S9
            rw [show p * 7 + (0 + 1 + 1 + 1 + 1 + 1 + 1 + 1) = p * 7 + 7 from rfl] at S9
            rw [e9] at S9
            have S10 := Lib.hid S9
            clear S9 e9 S8 HTH k1 k2 k3 k4 k5 k6 k7 k8
            generalize World.setCells w7 _ _ _ = w8 at *
            have k1 := (S10.out.right.has (Has.l (has_blk _ _ _))).cell 1
            have hat := nws_at k (Sl.upd now p nd) (Sl.upd nv p (.slice A1 nd.list.length c1)) p 2 hp (by decide)
            rw [Sl.upd_same, Sl.upd_same] at hat
            have q2 := S10.out.vec.cell hat
            have f2 := S10.out.vec.free (p * 7 + 2)
            clear hat
            have S11 := S10.out.set (Sets.l (sets_vec _ _ _ _ _ _ (p * 7 + 2) (by omega) (.int .i64 st)))
            rw [nws_stamp k _ _ p hp, Sl.upd_same, upd_upd] at S11
            have S12 := Lib.hid (S11.re (show _ = Asn.blk gx 33 #[.int .i64 6, .int .i64 (p : Int), .int .i64 nd.tree, .int .i64 nd.level, .int .i64 nd.stamp, .bool nd.has, .string (ofL nd.high), .int .i64 nd.right, .slice A1 nd.list.length c1] * aB y k v7 (put h p (some ⟨p, restamp nd st, lv7⟩)) (Ls (K + 1)) ⟨owed s.d p st, s.P, s.safe⟩ (Asn.blk y.gb 42 (bRow y) * (Asn.vec 31 7 (.slice (some ⟨gn, 0, none⟩) k k) k (nws k (Sl.upd now p (restamp nd st)) (Sl.upd nv p (.slice A1 nd.list.length c1))) * Y)) by unfold aB; ac_rfl)).right
            have HGN := Lib.hid (HGP.out lv7)
            rw [← HST.out] at HGN
            have HRN : Hid (∀ q, q < k → Row3 w (Sl.upd nv p (.slice A1 nd.list.length c1) q) (Sl.upd now p (restamp nd st) q).list) := Lib.hid fun q hq => by
              by_cases hqp : q = p
              · subst hqp
                rw [Sl.upd_same, Sl.upd_same]
                exact HRow.out w (Below.refl _ _)
              · rw [Sl.upd_other _ _ _ _ hqp, Sl.upd_other _ _ _ _ hqp]
                exact HR.out q hq
            clear S11 S10
            go_wp2_with fail
            go_roundw
            case rel => exact ⟨i + 1, K + 1, v7, _, _, _, _, by go_num, by omega, by omega, by omega, HGN, HRN, S12⟩
            case measure => simp [intOf]; omega
      · have n1 : ¬ kd = 1 := fun e => hA (Or.inl e)
        have n6 : ¬ kd = 6 := fun e => hA (Or.inr e)
        have m1' : (kd == 1) = false := beq_eq_false_iff_ne.2 n1
        have m6' : (kd == 6) = false := beq_eq_false_iff_ne.2 n6
        clear hA hst hst1 hst2
        obtain ⟨c0', c1', c2', c3'⟩ := b_cells S5.out
        have hB5 := S5.out.right.right.right.right.right.right.has (Has.l (has_blk _ _ _))
        have k0 := hB5.cell 0
        have k1 := hB5.cell 1
        clear hB5
        by_cases h2 : kd = 2
        · subst h2
          go_upto_region 24 with fail
          have F : Hid (∀ (W : World) (v : Vs) (h : Nat → Option Sh) (s : W3), Own w No W (aB y k v h (Ls K) s (Asn.blk y.gb 42 (bRow y) * (Asn.vec 31 7 (.slice (some ⟨gn, 0, none⟩) k k) k (nws k now nv) * (Asn.blk gx 33 #[.int .i64 2, .int .i64 pg, .int .i64 nd.tree, .int .i64 nd.level, .int .i64 nd.stamp, .bool nd.has, .string (ofL nd.high), .int .i64 nd.right, .slice A1 nd.list.length c1] * Y)))) → W.cell? ⟨y.gb, 3, none⟩ = some (.pointer (some ⟨y.g, 0, none⟩)) ∧ W.cell? ⟨gx, 1, none⟩ = some (.int .i64 pg)) := Lib.hid fun W v h s hS => by
            have hB := hS.right.right.right.right.right.right.has (Has.l (has_blk _ _ _))
            exact ⟨(b_cells hS).2.2.2, hB.cell 1⟩
          have tA := F.out _ _ _ _ S5.out.drew
          have SD := Lib.hid S5.out.drew
          by_cases hin : ∃ (p : Nat) (z : Sh), pg = p ∧ p < k ∧ h p = some z
          · obtain ⟨p, z, rfl, hp, hz⟩ := hin
            have hzp := HG.out.oks p z hz
            have hfit := good_fit HG.out z (by omega) (by rw [hzp]; exact hz)
            obtain ⟨hgw, hun⟩ := good_wr HG.out z (by omega) (by rw [hzp]; exact hz)
            rw [hzp] at hun
            have HG2 := Lib.hid (good_drop hgw p hun)
            have HEv := Lib.hid (bEvict_yes y k (by omega) v h HG.out.oks (Ls K) s HG.out.okd p hp z hz hfit w _ _ HT.out SD.out)
            clear hfit hgw hun hzp hz c0' c1' c2' c3' k0 k1
            go_region_held3 (fun W : World => W.cell? ⟨y.gb, 3, none⟩ = some (.pointer (some ⟨y.g, 0, none⟩)) ∧ W.cell? ⟨gx, 1, none⟩ = some (.int .i64 (p : Int))) (first | exact tA | exact tC) (first | (go_at_call 14; refine HEv.out.mono ?_; rintro e w7 ⟨v7, rfl, hX⟩; have S7 := Lib.hid hX; have tC := F.out _ _ _ _ hX))
            have S8 := Lib.hid (S7.out.re (show _ = Asn.blk gx 33 #[.int .i64 2, .int .i64 (p : Int), .int .i64 nd.tree, .int .i64 nd.level, .int .i64 nd.stamp, .bool nd.has, .string (ofL nd.high), .int .i64 nd.right, .slice A1 nd.list.length c1] * aB y k v7 _ (Ls K) _ (Asn.blk y.gb 42 (bRow y) * (Asn.vec 31 7 (.slice (some ⟨gn, 0, none⟩) k k) k (nws k now nv) * Y)) by unfold aB; ac_rfl)).right
            clear S7 HEv SD tA tC F hX S5
            go_wp2_with fail
            go_roundw
            case rel => exact ⟨i + 1, K, v7, _, _, now, nv, by go_num, by omega, by omega, by omega, HG2, HR, S8⟩
            case measure => simp [intOf]; omega
          · have hno : pg < 0 ∨ (k : Int) ≤ pg ∨ ∃ p : Nat, pg = p ∧ p < k ∧ h p = none := by
              by_cases a1 : pg < 0
              · exact Or.inl a1
              · by_cases a2 : (k : Int) ≤ pg
                · exact Or.inr (Or.inl a2)
                · refine Or.inr (Or.inr ⟨pg.toNat, by omega, by omega, ?_⟩)
                  cases hz : h pg.toNat with
                  | none => rfl
                  | some z => exact absurd ⟨pg.toNat, z, by omega, by omega, hz⟩ hin
            have HEv := Lib.hid (bEvict_no y k (by omega) v h HG.out.oks (Ls K) s HG.out.okd pg hno w _ _ SD.out)
            clear hno hin c0' c1' c2' c3' k0 k1
            go_region_held3 (fun W : World => W.cell? ⟨y.gb, 3, none⟩ = some (.pointer (some ⟨y.g, 0, none⟩)) ∧ W.cell? ⟨gx, 1, none⟩ = some (.int .i64 pg)) (first | exact tA | exact tC) (first | (go_at_call 14; refine HEv.out.mono ?_; rintro e w7 ⟨rfl, hX⟩; have S7 := Lib.hid hX; have tC := F.out _ _ _ _ hX))
            have S8 := Lib.hid (S7.out.re (show _ = Asn.blk gx 33 #[.int .i64 2, .int .i64 pg, .int .i64 nd.tree, .int .i64 nd.level, .int .i64 nd.stamp, .bool nd.has, .string (ofL nd.high), .int .i64 nd.right, .slice A1 nd.list.length c1] * aB y k v h (Ls K) s (Asn.blk y.gb 42 (bRow y) * (Asn.vec 31 7 (.slice (some ⟨gn, 0, none⟩) k k) k (nws k now nv) * Y)) by unfold aB; ac_rfl)).right
            clear S7 HEv SD tA tC F hX S5
            go_wp2_with fail
            go_roundw
            case rel => exact ⟨i + 1, K, v, h, s, now, nv, by go_num, by omega, by omega, by omega, HG, HR, S8⟩
            case measure => simp [intOf]; omega
        have m2' : (kd == 2) = false := beq_eq_false_iff_ne.2 h2
        by_cases h3 : kd = 3
        · subst h3
          have HFl := Lib.hid (bFlush y k (by omega) v h HG.out.oks (Ls K) s HG.out.okd (fun x hx => good_fit HG.out x (held_mem HG.out.oks x hx).1 (held_mem HG.out.oks x hx).2) w _ _ HT.out S5.out)
          have HG2 := Lib.hid (good_sync (good_fold (lst h k) HG.out (fun x hx => held_mem HG.out.oks x hx)))
          go_wp2_with fail
          refine HFl.out.mono ?_
          rintro e w7 ⟨v7, rfl, hX⟩
          have S8 := Lib.hid (hX.re (show _ = Asn.blk gx 33 #[.int .i64 3, .int .i64 pg, .int .i64 nd.tree, .int .i64 nd.level, .int .i64 nd.stamp, .bool nd.has, .string (ofL nd.high), .int .i64 nd.right, .slice A1 nd.list.length c1] * aB y k v7 h (Ls K) _ (Asn.blk y.gb 42 (bRow y) * (Asn.vec 31 7 (.slice (some ⟨gn, 0, none⟩) k k) k (nws k now nv) * Y)) by unfold aB; ac_rfl)).right
          clear hX HFl S5 c0' c1' c2' c3' k0 k1
          go_wp2_with fail
          go_roundw
          case rel => exact ⟨i + 1, K, v7, h, _, now, nv, by go_num, by omega, by omega, by omega, HG2, HR, S8⟩
          case measure => simp [intOf]; omega
        have m3' : (kd == 3) = false := beq_eq_false_iff_ne.2 h3
        by_cases h4 : kd = 4
        · subst h4
          have HSy := Lib.hid (bSync y k (by omega) v h HG.out.oks (Ls K) s HG.out.okd w _ _ S5.out)
          have HG2 := Lib.hid (good_sync HG.out)
          go_wp2_with fail
          refine HSy.out.mono ?_
          rintro e w7 ⟨v7, rfl, hX⟩
          have S8 := Lib.hid (hX.re (show _ = Asn.blk gx 33 #[.int .i64 4, .int .i64 pg, .int .i64 nd.tree, .int .i64 nd.level, .int .i64 nd.stamp, .bool nd.has, .string (ofL nd.high), .int .i64 nd.right, .slice A1 nd.list.length c1] * aB y k v7 h (Ls K) _ (Asn.blk y.gb 42 (bRow y) * (Asn.vec 31 7 (.slice (some ⟨gn, 0, none⟩) k k) k (nws k now nv) * Y)) by unfold aB; ac_rfl)).right
          clear hX HSy S5 c0' c1' c2' c3' k0 k1
          go_wp2_with fail
          go_roundw
          case rel => exact ⟨i + 1, K, v7, h, _, now, nv, by go_num, by omega, by omega, by omega, HG2, HR, S8⟩
          case measure => simp [intOf]; omega
        have m4' : (kd == 4) = false := beq_eq_false_iff_ne.2 h4
        have S8 := Lib.hid (S5.out.re (show _ = Asn.blk gx 33 #[.int .i64 kd, .int .i64 pg, .int .i64 nd.tree, .int .i64 nd.level, .int .i64 nd.stamp, .bool nd.has, .string (ofL nd.high), .int .i64 nd.right, .slice A1 nd.list.length c1] * aB y k v h (Ls K) s (Asn.blk y.gb 42 (bRow y) * (Asn.vec 31 7 (.slice (some ⟨gn, 0, none⟩) k k) k (nws k now nv) * Y)) by unfold aB; ac_rfl)).right
        clear S5 c0' c1' c2' c3' k1
        go_wp2_with fail
        go_roundw
        case rel => exact ⟨i + 1, K, v, h, s, now, nv, by go_num, by omega, by omega, by omega, HG, HR, S8⟩
        case measure => simp [intOf]; omega
    · have hx' : (decide (i < m1) && decide (i < 40)) = false := by
        by_cases a1 : i < m1
        · rw [decide_eq_true a1, decide_eq_false (fun e => hlt ⟨a1, e⟩)]; rfl
        · rw [decide_eq_false a1]; rfl
      have SF0 := blk_vecN 1 k _ (made_fs k) (fs_len ..) (by unfold maxLen; omega) (S.out.alloc (madeCells #[.int .i64 0] k) 3)
      have S1 : Hid (Own w No (wr.alloc (.cells (madeCells #[.int .i64 0] k) 3)) (aB y k v h (Ls K) s (Asn.blk y.gb 42 (bRow y) * (Asn.vec 31 7 (.slice (some ⟨gn, 0, none⟩) k k) k (nws k now nv) * (Asn.vec 3 1 (.slice (some ⟨wr.heap.size, 0, none⟩) k k) k (fs k (fun _ => 0)) * Y))))) := Lib.hid (SF0.re (by unfold aB; ac_rfl))
      clear SF0
      have HGG := HG
      by_cases a1 : i < m1
      · have a2 : ¬ i < 40 := fun e => hlt ⟨a1, e⟩
        clear hlt hx'
        go_upto_region 30 with fail
        obtain ⟨gf, hgz⟩ : ∃ g, g = wr.heap.size := ⟨_, rfl⟩
        rw [← hgz] at S1 ⊢
        clear hgz S
        generalize wr.alloc _ = w4 at *
        obtain ⟨c0', c1', c2', c3'⟩ := b_cells S1.out
        have HD := Lib.hid (bDirty y k (by omega) v h HG.out.oks (Ls K) s HG.out.okd w w4 _ S1.out)
        go_wp2_with fail
        refine HD.out.mono ?_
        rintro e w5 ⟨pd, rfl, hX⟩
        obtain ⟨AD, mD, rfl⟩ := hX.vec.slice
        have S2 : Hid (Own w No w5 (Asn.vec 3 1 (.slice (some ⟨gf, 0, none⟩) k k) k (fs k (fI s.d 0)) * (Asn.vec 73 2 (.slice AD (lst s.d k).length mD) (lst s.d k).length (dty (lst s.d k)) * aB y k v h (Ls K) s (Asn.blk y.gb 42 (bRow y) * (Asn.vec 31 7 (.slice (some ⟨gn, 0, none⟩) k k) k (nws k now nv) * Y))))) := Lib.hid (hX.re (by rw [fs_congr k (fI s.d 0) (fun _ => 0) (fun p _ => fI_zero s.d p)]; unfold aB; ac_rfl))
        clear hX S1 HD c0' c1' c2' c3'
        have hld := lst_le s.d k
        go_wp2_with fail
        go_loopw [14] (fun p14 wr => ∃ i' : Nat, p14 = .int .i64 i' ∧ i' ≤ (lst s.d k).length ∧ Hid (Own w No wr (Asn.vec 3 1 (.slice (some ⟨gf, 0, none⟩) k k) k (fs k (fI s.d i')) * (Asn.vec 73 2 (.slice AD (lst s.d k).length mD) (lst s.d k).length (dty (lst s.d k)) * aB y k v h (Ls K) s (Asn.blk y.gb 42 (bRow y) * (Asn.vec 31 7 (.slice (some ⟨gn, 0, none⟩) k k) k (nws k now nv) * Y)))))) (fun p14 _ => (lst s.d k).length - (intOf p14).toNat)
        case atStart => exact ⟨0, rfl, Nat.zero_le _, S2⟩
        case round =>
          clear S2
          obtain ⟨i', rfl, hi', S2⟩ := hrel
          by_cases hlt' : i' < (lst s.d k).length
          · obtain ⟨yd, hyd⟩ : ∃ z, (lst s.d k)[i']? = some z := ⟨(lst s.d k)[i']'hlt', List.getElem?_eq_getElem _⟩
            obtain ⟨q, hq, hdq, hlq⟩ := lst_mem s.d k i' yd hyd
            have hpq := HG.out.okd q yd hdq
            obtain ⟨bd, rfl⟩ : ∃ b, AD = some ⟨b, 0, none⟩ := by
              rcases S2.out.right.vec.forms with ⟨-, hz⟩ | ⟨g, cap, he, -⟩
              · omega
              · cases he; exact ⟨_, rfl⟩
            have d0 : wr.cell? ⟨bd, i' * 2, none⟩ = some (.int .i64 yd.page) := S2.out.right.vec.cell (j := i' * 2 + 0) (by rw [dty_at _ i' yd hyd 0 (by decide)]; rfl)
            have d1 : wr.cell? ⟨bd, i' * 2 + 1, none⟩ = some (.int .i64 yd.first) := S2.out.right.vec.cell (by rw [dty_at _ i' yd hyd 1 (by decide)]; rfl)
            rw [hpq] at d0
            have f0 := S2.out.vec.cell (fs_at k (fI s.d i') q hq)
            have f1 := S2.out.vec.free q
            have S3 := (S2.out.set (Sets.l (sets_vec _ _ _ _ _ _ q (by omega) (.int .i64 (yd.first : Int))))).drew
            rw [fs_set, fs_congr k _ (fI s.d (i' + 1)) (fun p _ => fI_step s.d i' q yd hdq hlq p)] at S3
            have S4 := Lib.hid S3
            clear S3 S2 hyd hdq hlq hpq
            generalize (yd.first : Int) = yf at *
            go_upto_region 34 with fail
            go_region
            go_wp2_with fail
            go_roundw
            case rel => exact ⟨i' + 1, by go_num, by omega, S4⟩
            case measure => simp [intOf]; omega
          · obtain rfl : i' = (lst s.d k).length := by omega
            have S3 : Hid (Own w No wr (Mn.aMn y.m Rl.idle * (Sl.aDk y.gd y.m y.b k s.P * (Asn.blk y.gb 42 (bRow y) * (Asn.vec 31 7 (.slice (some ⟨gn, 0, none⟩) k k) k (nws k now nv) * (Asn.vec 3 1 (.slice (some ⟨gf, 0, none⟩) k k) k (fs k (fF s.d)) * (Asn.vec 73 2 (.slice AD (lst s.d k).length mD) (lst s.d k).length (dty (lst s.d k)) * (aTr y.g y.gd y.gl v.hv v.ov (lst h k) (lst s.d k) * (aLg y.gl y.gr y.m 65536 v.lv (Ls K) s.safe 0 * Y))))))))) := Lib.hid (S2.out.re (by rw [fs_congr k (fI s.d (lst s.d k).length) (fF s.d) (fun p hp => fI_full s.d k p hp)]; unfold aB; ac_rfl))
            clear S2
            generalize Asn.vec 73 2 (.slice AD (lst s.d k).length mD) (lst s.d k).length (dty (lst s.d k)) * (aTr y.g y.gd y.gl v.hv v.ov (lst h k) (lst s.d k) * (aLg y.gl y.gr y.m 65536 v.lv (Ls K) s.safe 0 * Y)) = Z at *
            have cb := S3.out.right.right.has (Has.l (has_blk _ _ _))
            have c0' : wr.cell? ⟨y.gb, 0, none⟩ = some (.pointer (some ⟨y.m, 0, none⟩)) := cb.cell 0
            clear cb
            have HOff := Lib.hid (Mn.tOff y.m Rl.idle)
            have HOn := Lib.hid (Mn.tOn y.m Rl.idle.off)
            rw [show Rl.idle.off.come = (⟨true, -1, 2⟩ : Mn.Pw) from by simp [Mn.Pw.come, Mn.Pw.off, Rl.idle, wrap64]] at HOn
            have HSet := Lib.hid (Sl.tSettle_off y.gd y.m y.b k s.P Rl.idle.off 0 rfl)
            have hPn : Hid (∀ p, p < k → (Sl.settled s.P 0 k p).now = (s.P p).safe) := Lib.hid fun p hp => settled_now s.P k p hp (HG.out.page p hp).fresh
            generalize Rl.idle.off = q1 at *
            generalize Sl.settled s.P 0 k = P2 at *
            go_wp2_with fail
            refine (S3.out.call HOff.out.l).mono ?_
            rintro e w6 ⟨rfl, hX⟩
            have S4 := Lib.hid (hX.re (show _ = (Sl.aDk y.gd y.m y.b k s.P * Mn.aMn y.m q1) * (Asn.blk y.gb 42 (bRow y) * (Asn.vec 31 7 (.slice (some ⟨gn, 0, none⟩) k k) k (nws k now nv) * (Asn.vec 3 1 (.slice (some ⟨gf, 0, none⟩) k k) k (fs k (fF s.d)) * Z))) by ac_rfl))
            clear hX S3 HOff c0'
            have cb := S4.out.right.has (Has.l (has_blk _ _ _))
            have c1' : w6.cell? ⟨y.gb, 1, none⟩ = some (.pointer (some ⟨y.gd, 0, none⟩)) := cb.cell 1
            clear cb
            go_wp2_with fail
            refine (S4.out.call HSet.out.l).mono ?_
            rintro e w7 ⟨rfl, hX⟩
            have S5 := Lib.hid (hX.re (show _ = Mn.aMn y.m q1 * (Sl.aDk y.gd y.m y.b k P2 * (Asn.blk y.gb 42 (bRow y) * (Asn.vec 31 7 (.slice (some ⟨gn, 0, none⟩) k k) k (nws k now nv) * (Asn.vec 3 1 (.slice (some ⟨gf, 0, none⟩) k k) k (fs k (fF s.d)) * Z)))) by ac_rfl))
            clear hX S4 HSet c1'
            have cb := S5.out.right.right.has (Has.l (has_blk _ _ _))
            have c0' : w7.cell? ⟨y.gb, 0, none⟩ = some (.pointer (some ⟨y.m, 0, none⟩)) := cb.cell 0
            clear cb
            go_wp2_with fail
            refine (S5.out.call HOn.out.l).mono ?_
            rintro e w8 ⟨rfl, hX⟩
            have S6 := Lib.hid hX
            clear hX S5 HOn c0'
            have F : Hid (∀ W, Own w No W (Mn.aMn y.m ⟨true, -1, 2⟩ * (Sl.aDk y.gd y.m y.b k P2 * (Asn.blk y.gb 42 (bRow y) * (Asn.vec 31 7 (.slice (some ⟨gn, 0, none⟩) k k) k (nws k now nv) * (Asn.vec 3 1 (.slice (some ⟨gf, 0, none⟩) k k) k (fs k (fF s.d)) * Z))))) → W.cell? ⟨y.gb, 1, none⟩ = some (.pointer (some ⟨y.gd, 0, none⟩)) ∧ W.cell? ⟨y.gb, 2, none⟩ = some (.pointer (some ⟨y.gl, 0, none⟩))) := Lib.hid fun W hS => by
              have cb := hS.right.right.has (Has.l (has_blk _ _ _))
              exact ⟨cb.cell 1, cb.cell 2⟩
            have tA := F.out _ S6.out.drew
            have HNew := Lib.hid (new_any y.gd y.gl w _ _ S6.out.drew)
            go_upto_region 39 with fail
            go_region_held3 (fun W : World => W.cell? ⟨y.gb, 1, none⟩ = some (.pointer (some ⟨y.gd, 0, none⟩)) ∧ W.cell? ⟨y.gb, 2, none⟩ = some (.pointer (some ⟨y.gl, 0, none⟩))) (first | exact tA | exact tC) (first | (go_at_call 26; refine HNew.out.mono ?_; rintro e w9 ⟨g2, rfl, hX⟩; have S7 := Lib.hid hX; have tC := F.out _ hX.right))
            have S8 : Hid (Own w No w9 (aTr g2 y.gd y.gl (.slice none 0 0) (.slice none 0 0) (lst (fun _ => none) k) (lst (fun _ => none) k) * (Sl.aDk y.gd y.m y.b k P2 * (Mn.aMn y.m ⟨true, -1, 2⟩ * (Asn.vec 3 1 (.slice (some ⟨gf, 0, none⟩) k k) k (fs k (fF s.d)) * (Asn.vec 31 7 (.slice (some ⟨gn, 0, none⟩) k k) k (nws k now nv) * (Asn.blk y.gb 42 (bRow y) * Z))))))) := Lib.hid (S7.out.re (by rw [lst_empty, lst_empty]; ac_rfl))
            clear S7 S6 F tA tC hX HNew
            generalize Asn.blk y.gb 42 (bRow y) * Z = Z2 at *
            go_wp2_with fail
            go_loopw [16, 17, 18] (fun p16 _ _ wr => ∃ (j : Nat) (hv2 : Value) (h2 : Nat → Option Sh), p16 = .int .i64 j ∧ j ≤ k ∧ Hid (OkS h2) ∧ Hid (∀ p, j ≤ p → h2 p = none) ∧ Hid (Own w No wr (aTr g2 y.gd y.gl hv2 (.slice none 0 0) (lst h2 k) (lst (fun _ => none) k) * (Sl.aDk y.gd y.m y.b k P2 * (Mn.aMn y.m ⟨true, -1, 2⟩ * (Asn.vec 3 1 (.slice (some ⟨gf, 0, none⟩) k k) k (fs k (fF s.d)) * (Asn.vec 31 7 (.slice (some ⟨gn, 0, none⟩) k k) k (nws k now nv) * Z2))))))) (fun p16 _ _ _ => k - (intOf p16).toNat)
            case atStart => exact ⟨0, .slice none 0 0, fun _ => none, rfl, Nat.zero_le _, Lib.hid empty_ok, Lib.hid (fun _ _ => rfl), S8⟩
            case round =>
              clear S8
              obtain ⟨j, hv2, h2, rfl, hj, HO2, HN2, S8⟩ := hrel
              by_cases hlj : j < k
              · have hg1 := HG.out.page j hlj
                obtain ⟨n0, t0, hs0, hc0, hf0, hd0, hd1⟩ := hg1.safe
                have hl0 : n0.list.length ≤ 100000 := by have := (goods (fits_good hf0).1).ll; omega
                have HNd := Lib.hid (node_miss k g2 y.gd y.gl y.m y.b hv2 (.slice none 0 0) P2 ⟨true, -1, 2⟩ (by omega) h2 HO2.out (fun _ => none) rfl j hlj (HN2.out j (Nat.le_refl _)) t0 (by rw [hPn.out j hlj, hs0]) n0 hc0 hl0 w _ _ HT.out S8.out)
                unfold nodCells tPtr at HNd
                go_wp2_with fail
                refine HNd.out.mono ?_
                rintro e w10 ⟨⟨v1, hv3, lv3⟩, rfl, hX⟩
                dsimp only at hX
                obtain ⟨AV, cV, rfl⟩ := (show Own w No w10 (Asn.vec 84 3 v1 n0.list.length (cells3 n0.list) * _) from hX).vec.slice
                have S9 := Lib.hid ((hX.alloc #[.int .i64 n0.tree, .int .i64 n0.level, .int .i64 n0.stamp, .bool n0.has, .string (ofL n0.high), .int .i64 n0.right, .slice AV n0.list.length cV] 31).re (show _ = Asn.vec 3 1 (.slice (some ⟨gf, 0, none⟩) k k) k (fs k (fF s.d)) * (Asn.vec 31 7 (.slice (some ⟨gn, 0, none⟩) k k) k (nws k now nv) * (Asn.blk w10.heap.size 31 #[.int .i64 n0.tree, .int .i64 n0.level, .int .i64 n0.stamp, .bool n0.has, .string (ofL n0.high), .int .i64 n0.right, .slice AV n0.list.length cV] * (aEnts n0 (.slice AV n0.list.length cV) * (aTr g2 y.gd y.gl hv3 (.slice none 0 0) (lst (put h2 j (some ⟨j, n0, lv3⟩)) k) (lst (fun _ => none) k) * (Sl.aDk y.gd y.m y.b k P2 * (Mn.aMn y.m ⟨true, -1, 2⟩ * Z2)))))) by ac_rfl))
                clear hX S8 HNd
                go_upto_region 44 with fail
                obtain ⟨g17, hgz⟩ : ∃ g, g = w10.heap.size := ⟨_, rfl⟩
                rw [← hgz] at S9 ⊢
                clear hgz
                generalize w10.alloc _ = w11 at *
                have hnw := fun (q : Nat) (hq : q < 7) => nws_at k now nv j q hlj hq
                have F : Hid (∀ W, Own w No W (Asn.vec 3 1 (.slice (some ⟨gf, 0, none⟩) k k) k (fs k (fF s.d)) * (Asn.vec 31 7 (.slice (some ⟨gn, 0, none⟩) k k) k (nws k now nv) * (Asn.blk g17 31 #[.int .i64 n0.tree, .int .i64 n0.level, .int .i64 n0.stamp, .bool n0.has, .string (ofL n0.high), .int .i64 n0.right, .slice AV n0.list.length cV] * (aEnts n0 (.slice AV n0.list.length cV) * (aTr g2 y.gd y.gl hv3 (.slice none 0 0) (lst (put h2 j (some ⟨j, n0, lv3⟩)) k) (lst (fun _ => none) k) * (Sl.aDk y.gd y.m y.b k P2 * (Mn.aMn y.m ⟨true, -1, 2⟩ * Z2))))))) → W.cell? ⟨gf, j, none⟩ = some (.int .i64 (fF s.d j)) ∧ W.cell? ⟨g17, 0, none⟩ = some (.int .i64 n0.tree) ∧ W.cell? ⟨g17, 1, none⟩ = some (.int .i64 n0.level) ∧ W.cell? ⟨g17, 2, none⟩ = some (.int .i64 n0.stamp) ∧ W.cell? ⟨g17, 3, none⟩ = some (.bool n0.has) ∧ W.cell? ⟨g17, 4, none⟩ = some (.string (ofL n0.high)) ∧ W.cell? ⟨g17, 5, none⟩ = some (.int .i64 n0.right) ∧ W.cell? ⟨g17, 6, none⟩ = some (.slice AV n0.list.length cV) ∧ W.cell? ⟨gn, j * 7, none⟩ = some (.int .i64 (now j).tree) ∧ W.cell? ⟨gn, j * 7 + 1, none⟩ = some (.int .i64 (now j).level) ∧ W.cell? ⟨gn, j * 7 + 2, none⟩ = some (.int .i64 (now j).stamp) ∧ W.cell? ⟨gn, j * 7 + 3, none⟩ = some (.bool (now j).has) ∧ W.cell? ⟨gn, j * 7 + 4, none⟩ = some (.string (ofL (now j).high)) ∧ W.cell? ⟨gn, j * 7 + 5, none⟩ = some (.int .i64 (now j).right) ∧ W.cell? ⟨gn, j * 7 + 6, none⟩ = some (nv j)) := Lib.hid fun W hS => by
                  have hb := hS.right.right.has (Has.l (has_blk _ _ _))
                  have hv' := hS.right.vec
                  exact ⟨hS.vec.cell (fs_at k (fF s.d) j hlj), hb.cell 0, hb.cell 1, hb.cell 2, hb.cell 3, hb.cell 4, hb.cell 5, hb.cell 6, hv'.cell (j := j * 7 + 0) (hnw 0 (by decide)), hv'.cell (hnw 1 (by decide)), hv'.cell (hnw 2 (by decide)), hv'.cell (hnw 3 (by decide)), hv'.cell (hnw 4 (by decide)), hv'.cell (hnw 5 (by decide)), hv'.cell (hnw 6 (by decide))⟩
                clear hnw
                have HO3 : Hid (OkS (put h2 j (some ⟨j, n0, lv3⟩))) := Lib.hid (HO2.out.put _ _ fun z hz => by cases hz; rfl)
                have HN3 : Hid (∀ p, j + 1 ≤ p → put h2 j (some ⟨j, n0, lv3⟩) p = none) := Lib.hid fun p hp => by rw [put_other _ _ _ _ (by omega)]; exact HN2.out p (by omega)
                obtain ⟨AN, cN, hnvj⟩ : ∃ A c, nv j = .slice A (now j).list.length c := (HR.out j hlj).slice
                cases hdj : s.d j with
                | none =>
                  have e0 := hd0 hdj
                  subst e0
                  have hfz : fF s.d j = 0 := by unfold fF; rw [hdj]
                  rw [hfz, hnvj] at F
                  have tA := F.out _ S9.out.drew
                  have HSm := Lib.hid (Same_any (now j) (now j) _ _ _ (ents_at S9.out.drew.right.right.right.left) ⟨nv j, rfl, (HR.out j hlj).keep S9.out.drew.bel⟩)
                  unfold nodCells at HSm
                  rw [hnvj, decide_eq_true rfl] at HSm
                  clear hd0 hd1 hc0 hs0 hg1
                  refine wp_region_held_drew (S := fun W => W.cell? ⟨gf, j, none⟩ = some (.int .i64 0) ∧ W.cell? ⟨g17, 0, none⟩ = some (.int .i64 (now j).tree) ∧ W.cell? ⟨g17, 1, none⟩ = some (.int .i64 (now j).level) ∧ W.cell? ⟨g17, 2, none⟩ = some (.int .i64 (now j).stamp) ∧ W.cell? ⟨g17, 3, none⟩ = some (.bool (now j).has) ∧ W.cell? ⟨g17, 4, none⟩ = some (.string (ofL (now j).high)) ∧ W.cell? ⟨g17, 5, none⟩ = some (.int .i64 (now j).right) ∧ W.cell? ⟨g17, 6, none⟩ = some (.slice AV (now j).list.length cV) ∧ W.cell? ⟨gn, j * 7, none⟩ = some (.int .i64 (now j).tree) ∧ W.cell? ⟨gn, j * 7 + 1, none⟩ = some (.int .i64 (now j).level) ∧ W.cell? ⟨gn, j * 7 + 2, none⟩ = some (.int .i64 (now j).stamp) ∧ W.cell? ⟨gn, j * 7 + 3, none⟩ = some (.bool (now j).has) ∧ W.cell? ⟨gn, j * 7 + 4, none⟩ = some (.string (ofL (now j).high)) ∧ W.cell? ⟨gn, j * 7 + 5, none⟩ = some (.int .i64 (now j).right) ∧ W.cell? ⟨gn, j * 7 + 6, none⟩ = some (.slice AN (now j).list.length cN)) (by kernel_rfl) tA (fun hHeld => ?_)
                  refine' wpAnyH_take (i := 0) (oi := ?oqa0) (v := ?vqa0) ?hqa0 ?sqa0 ?fqa0 ?zqa0 ?qqa0 ?yqa0 ?aqa0 ?rqa0
                  case hqa0 => (simp only [List.getElem?_toArray, List.getElem?_cons_succ, List.getElem?_cons_zero]; rfl)
                  case sqa0 => kernel_rfl
                  case fqa0 => kernel_rfl
                  case zqa0 => kernel_rfl
                  case qqa0 => exact fun _ _ _ h => h
                  case yqa0 => (refine Or.inl ⟨rfl, ?_⟩; intro w hSw; (try dsimp only at hSw); go_simp; try with_reducible rfl)
                  case aqa0 => assumption
                  case rqa0 =>
                  simp only [Act.put, List.setIfInBounds_toArray, List.set_cons_zero, List.set_cons_succ]
                  refine' wpAnyH_take (i := 1) (oi := ?oqa1) (v := ?vqa1) ?hqa1 ?sqa1 ?fqa1 ?zqa1 ?qqa1 ?yqa1 ?aqa1 ?rqa1
                  case hqa1 => (simp only [List.getElem?_toArray, List.getElem?_cons_succ, List.getElem?_cons_zero]; rfl)
                  case sqa1 => kernel_rfl
                  case fqa1 => kernel_rfl
                  case zqa1 => kernel_rfl
                  case qqa1 => exact fun _ _ _ h => h
                  case yqa1 => (refine Or.inl ⟨rfl, ?_⟩; intro w hSw; (try dsimp only at hSw); go_simp; try with_reducible rfl)
                  case aqa1 => assumption
                  case rqa1 =>
                  simp only [Act.put, List.setIfInBounds_toArray, List.set_cons_zero, List.set_cons_succ]
                  refine' wpAnyH_take (i := 2) (oi := ?oqa2) (v := ?vqa2) ?hqa2 ?sqa2 ?fqa2 ?zqa2 ?qqa2 ?yqa2 ?aqa2 ?rqa2
                  case hqa2 => (simp only [List.getElem?_toArray, List.getElem?_cons_succ, List.getElem?_cons_zero]; rfl)
                  case sqa2 => kernel_rfl
                  case fqa2 => kernel_rfl
                  case zqa2 => kernel_rfl
                  case qqa2 => exact fun _ _ _ h => h
                  case yqa2 => (refine Or.inl ⟨rfl, ?_⟩; intro w hSw; (try dsimp only at hSw); go_simp; try with_reducible rfl)
                  case aqa2 => assumption
                  case rqa2 =>
                  simp only [Act.put, List.setIfInBounds_toArray, List.set_cons_zero, List.set_cons_succ]
                  refine' wpAnyH_take (i := 3) (oi := ?oqa3) (v := ?vqa3) ?hqa3 ?sqa3 ?fqa3 ?zqa3 ?qqa3 ?yqa3 ?aqa3 ?rqa3
                  case hqa3 => (simp only [List.getElem?_toArray, List.getElem?_cons_succ, List.getElem?_cons_zero]; rfl)
                  case sqa3 => kernel_rfl
                  case fqa3 => kernel_rfl
                  case zqa3 => kernel_rfl
                  case qqa3 => exact fun _ _ _ h => h
                  case yqa3 => (refine Or.inl ⟨rfl, ?_⟩; intro w hSw; (try dsimp only at hSw); go_simp; try with_reducible rfl)
                  case aqa3 => assumption
                  case rqa3 =>
                  simp only [Act.put, List.setIfInBounds_toArray, List.set_cons_zero, List.set_cons_succ]
                  refine' wpAnyH_take (i := 4) (oi := ?oqa4) (v := ?vqa4) ?hqa4 ?sqa4 ?fqa4 ?zqa4 ?qqa4 ?yqa4 ?aqa4 ?rqa4
                  case hqa4 => (simp only [List.getElem?_toArray, List.getElem?_cons_succ, List.getElem?_cons_zero]; rfl)
                  case sqa4 => kernel_rfl
                  case fqa4 => kernel_rfl
                  case zqa4 => kernel_rfl
                  case qqa4 => exact fun _ _ _ h => h
                  case yqa4 => (refine Or.inl ⟨rfl, ?_⟩; intro w hSw; (try dsimp only at hSw); go_simp; try with_reducible rfl)
                  case aqa4 => assumption
                  case rqa4 =>
                  simp only [Act.put, List.setIfInBounds_toArray, List.set_cons_zero, List.set_cons_succ]
                  refine' wpAnyH_take (i := 5) (oi := ?oqa5) (v := ?vqa5) ?hqa5 ?sqa5 ?fqa5 ?zqa5 ?qqa5 ?yqa5 ?aqa5 ?rqa5
                  case hqa5 => (simp only [List.getElem?_toArray, List.getElem?_cons_succ, List.getElem?_cons_zero]; rfl)
                  case sqa5 => kernel_rfl
                  case fqa5 => kernel_rfl
                  case zqa5 => kernel_rfl
                  case qqa5 => exact fun _ _ _ h => h
                  case yqa5 => (refine Or.inl ⟨rfl, ?_⟩; intro w hSw; (try dsimp only at hSw); go_simp; try with_reducible rfl)
                  case aqa5 => assumption
                  case rqa5 =>
                  simp only [Act.put, List.setIfInBounds_toArray, List.set_cons_zero, List.set_cons_succ]
                  refine' wpAnyH_take (i := 6) (oi := ?oqa6) (v := ?vqa6) ?hqa6 ?sqa6 ?fqa6 ?zqa6 ?qqa6 ?yqa6 ?aqa6 ?rqa6
                  case hqa6 => (simp only [List.getElem?_toArray, List.getElem?_cons_succ, List.getElem?_cons_zero]; rfl)
                  case sqa6 => kernel_rfl
                  case fqa6 => kernel_rfl
                  case zqa6 => kernel_rfl
                  case qqa6 => exact fun _ _ _ h => h
                  case yqa6 => (refine Or.inl ⟨rfl, ?_⟩; intro w hSw; (try dsimp only at hSw); go_simp; try with_reducible rfl)
                  case aqa6 => assumption
                  case rqa6 =>
                  simp only [Act.put, List.setIfInBounds_toArray, List.set_cons_zero, List.set_cons_succ]
                  refine' wpAnyH_take (i := 7) (oi := ?oqa7) (v := ?vqa7) ?hqa7 ?sqa7 ?fqa7 ?zqa7 ?qqa7 ?yqa7 ?aqa7 ?rqa7
                  case hqa7 => (simp only [List.getElem?_toArray, List.getElem?_cons_succ, List.getElem?_cons_zero]; rfl)
                  case sqa7 => kernel_rfl
                  case fqa7 => kernel_rfl
                  case zqa7 => kernel_rfl
                  case qqa7 => exact fun _ _ _ h => h
                  case yqa7 => (refine Or.inl ⟨rfl, ?_⟩; intro w hSw; (try dsimp only at hSw); go_simp; try with_reducible rfl)
                  case aqa7 => assumption
                  case rqa7 =>
                  simp only [Act.put, List.setIfInBounds_toArray, List.set_cons_zero, List.set_cons_succ]
                  refine' wpAnyH_take (i := 8) (oi := ?oqa8) (v := ?vqa8) ?hqa8 ?sqa8 ?fqa8 ?zqa8 ?qqa8 ?yqa8 ?aqa8 ?rqa8
                  case hqa8 => (simp only [List.getElem?_toArray, List.getElem?_cons_succ, List.getElem?_cons_zero]; rfl)
                  case sqa8 => kernel_rfl
                  case fqa8 => kernel_rfl
                  case zqa8 => kernel_rfl
                  case qqa8 => exact fun _ _ _ h => h
                  case yqa8 => (refine Or.inl ⟨rfl, ?_⟩; intro w hSw; (try dsimp only at hSw); go_simp; try with_reducible rfl)
                  case aqa8 => assumption
                  case rqa8 =>
                  simp only [Act.put, List.setIfInBounds_toArray, List.set_cons_zero, List.set_cons_succ]
                  refine' wpAnyH_take (i := 9) (oi := ?oqa9) (v := ?vqa9) ?hqa9 ?sqa9 ?fqa9 ?zqa9 ?qqa9 ?yqa9 ?aqa9 ?rqa9
                  case hqa9 => (simp only [List.getElem?_toArray, List.getElem?_cons_succ, List.getElem?_cons_zero]; rfl)
                  case sqa9 => kernel_rfl
                  case fqa9 => kernel_rfl
                  case zqa9 => kernel_rfl
                  case qqa9 => exact fun _ _ _ h => h
                  case yqa9 => (refine Or.inl ⟨rfl, ?_⟩; intro w hSw; (try dsimp only at hSw); go_simp; try with_reducible rfl)
                  case aqa9 => assumption
                  case rqa9 =>
                  simp only [Act.put, List.setIfInBounds_toArray, List.set_cons_zero, List.set_cons_succ]
                  refine' wpAnyH_take (i := 10) (oi := ?oqa10) (v := ?vqa10) ?hqa10 ?sqa10 ?fqa10 ?zqa10 ?qqa10 ?yqa10 ?aqa10 ?rqa10
                  case hqa10 => (simp only [List.getElem?_toArray, List.getElem?_cons_succ, List.getElem?_cons_zero]; rfl)
                  case sqa10 => kernel_rfl
                  case fqa10 => kernel_rfl
                  case zqa10 => kernel_rfl
                  case qqa10 => exact fun _ _ _ h => h
                  case yqa10 => (refine Or.inl ⟨rfl, ?_⟩; intro w hSw; (try dsimp only at hSw); go_simp; try with_reducible rfl)
                  case aqa10 => assumption
                  case rqa10 =>
                  simp only [Act.put, List.setIfInBounds_toArray, List.set_cons_zero, List.set_cons_succ]
                  refine' wpAnyH_take (i := 11) (oi := ?oqa11) (v := ?vqa11) ?hqa11 ?sqa11 ?fqa11 ?zqa11 ?qqa11 ?yqa11 ?aqa11 ?rqa11
                  case hqa11 => (simp only [List.getElem?_toArray, List.getElem?_cons_succ, List.getElem?_cons_zero]; rfl)
                  case sqa11 => kernel_rfl
                  case fqa11 => kernel_rfl
                  case zqa11 => kernel_rfl
                  case qqa11 => exact fun _ _ _ h => h
                  case yqa11 => (refine Or.inl ⟨rfl, ?_⟩; intro w hSw; (try dsimp only at hSw); go_simp; try with_reducible rfl)
                  case aqa11 => assumption
                  case rqa11 =>
                  simp only [Act.put, List.setIfInBounds_toArray, List.set_cons_zero, List.set_cons_succ]
                  refine' wpAnyH_take (i := 12) (oi := ?oqa12) (v := ?vqa12) ?hqa12 ?sqa12 ?fqa12 ?zqa12 ?qqa12 ?yqa12 ?aqa12 ?rqa12
                  case hqa12 => (simp only [List.getElem?_toArray, List.getElem?_cons_succ, List.getElem?_cons_zero]; rfl)
                  case sqa12 => kernel_rfl
                  case fqa12 => kernel_rfl
                  case zqa12 => kernel_rfl
                  case qqa12 => exact fun _ _ _ h => h
                  case yqa12 => (refine Or.inl ⟨rfl, ?_⟩; intro w hSw; (try dsimp only at hSw); go_simp; try with_reducible rfl)
                  case aqa12 => assumption
                  case rqa12 =>
                  simp only [Act.put, List.setIfInBounds_toArray, List.set_cons_zero, List.set_cons_succ]
                  refine' wpAnyH_take (i := 13) (oi := ?oqa13) (v := ?vqa13) ?hqa13 ?sqa13 ?fqa13 ?zqa13 ?qqa13 ?yqa13 ?aqa13 ?rqa13
                  case hqa13 => (simp only [List.getElem?_toArray, List.getElem?_cons_succ, List.getElem?_cons_zero]; rfl)
                  case sqa13 => kernel_rfl
                  case fqa13 => kernel_rfl
                  case zqa13 => kernel_rfl
                  case qqa13 => exact fun _ _ _ h => h
                  case yqa13 => (refine Or.inl ⟨rfl, ?_⟩; intro w hSw; (try dsimp only at hSw); go_simp; try with_reducible rfl)
                  case aqa13 => assumption
                  case rqa13 =>
                  simp only [Act.put, List.setIfInBounds_toArray, List.set_cons_zero, List.set_cons_succ]
                  refine wpAnyH_ready (rs := [14]) (by kernel_rfl) (by simp) ?_
                  refine' AllReadyH.cons (o := ?oqa14) ?hqa14 ?kqa14 AllReadyH.nil
                  case hqa14 => (simp only [List.getElem?_toArray, List.getElem?_cons_succ, List.getElem?_cons_zero]; rfl)
                  case kqa14 =>
                  intro K hK
                  go_simp
                  go_at_call 27
                  refine HSm.out.mono ?_
                  rintro e w12 ⟨rfl, hX⟩
                  have S12 := Lib.hid (S9.out.drew.below hX)
                  have tC := F.out _ S12.out
                  clear hX
                  refine hK.out _ _ ?_ (fun hHeld => ?_)
                  · exact tC
                  clear hK K
                  (try simp only [Act.put, List.setIfInBounds_toArray, List.set_cons_zero, List.set_cons_succ])
                  refine' wpAnyH_take (i := 15) (oi := ?oqa15) (v := ?vqa15) ?hqa15 ?sqa15 ?fqa15 ?zqa15 ?qqa15 ?yqa15 ?aqa15 ?rqa15
                  case hqa15 => (simp only [List.getElem?_toArray, List.getElem?_cons_succ, List.getElem?_cons_zero]; rfl)
                  case sqa15 => kernel_rfl
                  case fqa15 => kernel_rfl
                  case zqa15 => kernel_rfl
                  case qqa15 => exact fun _ _ _ h => h
                  case yqa15 => (refine Or.inl ⟨rfl, ?_⟩; intro w hSw; (try dsimp only at hSw); go_simp; try with_reducible rfl)
                  case aqa15 => assumption
                  case rqa15 =>
                  simp only [Act.put, List.setIfInBounds_toArray, List.set_cons_zero, List.set_cons_succ]
                  refine' wpAnyH_take (i := 16) (oi := ?oqa16) (v := ?vqa16) ?hqa16 ?sqa16 ?fqa16 ?zqa16 ?qqa16 ?yqa16 ?aqa16 ?rqa16
                  case hqa16 => (simp only [List.getElem?_toArray, List.getElem?_cons_succ, List.getElem?_cons_zero]; rfl)
                  case sqa16 => kernel_rfl
                  case fqa16 => kernel_rfl
                  case zqa16 => kernel_rfl
                  case qqa16 => exact fun _ _ _ h => h
                  case yqa16 => (refine Or.inl ⟨rfl, ?_⟩; intro w hSw; (try dsimp only at hSw); go_simp; try with_reducible rfl)
                  case aqa16 => assumption
                  case rqa16 =>
                  simp only [Act.put, List.setIfInBounds_toArray, List.set_cons_zero, List.set_cons_succ]
                  refine' wpAnyH_take (i := 17) (oi := ?oqa17) (v := ?vqa17) ?hqa17 ?sqa17 ?fqa17 ?zqa17 ?qqa17 ?yqa17 ?aqa17 ?rqa17
                  case hqa17 => (simp only [List.getElem?_toArray, List.getElem?_cons_succ, List.getElem?_cons_zero]; rfl)
                  case sqa17 => kernel_rfl
                  case fqa17 => kernel_rfl
                  case zqa17 => kernel_rfl
                  case qqa17 => exact fun _ _ _ h => h
                  case yqa17 => (refine Or.inl ⟨rfl, ?_⟩; intro w hSw; (try dsimp only at hSw); go_simp; try with_reducible rfl)
                  case aqa17 => assumption
                  case rqa17 =>
                  simp only [Act.put, List.setIfInBounds_toArray, List.set_cons_zero, List.set_cons_succ]
                  refine' wpAnyH_take (i := 18) (oi := ?oqa18) (v := ?vqa18) ?hqa18 ?sqa18 ?fqa18 ?zqa18 ?qqa18 ?yqa18 ?aqa18 ?rqa18
                  case hqa18 => (simp only [List.getElem?_toArray, List.getElem?_cons_succ, List.getElem?_cons_zero]; rfl)
                  case sqa18 => kernel_rfl
                  case fqa18 => kernel_rfl
                  case zqa18 => kernel_rfl
                  case qqa18 => exact fun _ _ _ h => h
                  case yqa18 => (refine Or.inl ⟨rfl, ?_⟩; intro w hSw; (try dsimp only at hSw); go_simp; try with_reducible rfl)
                  case aqa18 => assumption
                  case rqa18 =>
                  simp only [Act.put, List.setIfInBounds_toArray, List.set_cons_zero, List.set_cons_succ]
                  refine' wpAnyH_take (i := 19) (oi := ?oqa19) (v := ?vqa19) ?hqa19 ?sqa19 ?fqa19 ?zqa19 ?qqa19 ?yqa19 ?aqa19 ?rqa19
                  case hqa19 => (simp only [List.getElem?_toArray, List.getElem?_cons_succ, List.getElem?_cons_zero]; rfl)
                  case sqa19 => kernel_rfl
                  case fqa19 => kernel_rfl
                  case zqa19 => kernel_rfl
                  case qqa19 => exact fun _ _ _ h => h
                  case yqa19 => (refine Or.inl ⟨rfl, ?_⟩; intro w hSw; (try dsimp only at hSw); go_simp; try with_reducible rfl)
                  case aqa19 => assumption
                  case rqa19 =>
                  simp only [Act.put, List.setIfInBounds_toArray, List.set_cons_zero, List.set_cons_succ]
                  refine' wpAnyH_take (i := 20) (oi := ?oqa20) (v := ?vqa20) ?hqa20 ?sqa20 ?fqa20 ?zqa20 ?qqa20 ?yqa20 ?aqa20 ?rqa20
                  case hqa20 => (simp only [List.getElem?_toArray, List.getElem?_cons_succ, List.getElem?_cons_zero]; rfl)
                  case sqa20 => kernel_rfl
                  case fqa20 => kernel_rfl
                  case zqa20 => kernel_rfl
                  case qqa20 => exact fun _ _ _ h => h
                  case yqa20 => (refine Or.inl ⟨rfl, ?_⟩; intro w hSw; (try dsimp only at hSw); go_simp; try with_reducible rfl)
                  case aqa20 => assumption
                  case rqa20 =>
                  simp only [Act.put, List.setIfInBounds_toArray, List.set_cons_zero, List.set_cons_succ]
                  refine' wpAnyH_take (i := 21) (oi := ?oqa21) (v := ?vqa21) ?hqa21 ?sqa21 ?fqa21 ?zqa21 ?qqa21 ?yqa21 ?aqa21 ?rqa21
                  case hqa21 => (simp only [List.getElem?_toArray, List.getElem?_cons_succ, List.getElem?_cons_zero]; rfl)
                  case sqa21 => kernel_rfl
                  case fqa21 => kernel_rfl
                  case zqa21 => kernel_rfl
                  case qqa21 => exact fun _ _ _ h => h
                  case yqa21 => (refine Or.inl ⟨rfl, ?_⟩; intro w hSw; (try dsimp only at hSw); go_simp; try with_reducible rfl)
                  case aqa21 => assumption
                  case rqa21 =>
                  simp only [Act.put, List.setIfInBounds_toArray, List.set_cons_zero, List.set_cons_succ]
                  refine' wpAnyH_take (i := 22) (oi := ?oqa22) (v := ?vqa22) ?hqa22 ?sqa22 ?fqa22 ?zqa22 ?qqa22 ?yqa22 ?aqa22 ?rqa22
                  case hqa22 => (simp only [List.getElem?_toArray, List.getElem?_cons_succ, List.getElem?_cons_zero]; rfl)
                  case sqa22 => kernel_rfl
                  case fqa22 => kernel_rfl
                  case zqa22 => kernel_rfl
                  case qqa22 => exact fun _ _ _ h => h
                  case yqa22 => (refine Or.inl ⟨rfl, ?_⟩; intro w hSw; (try dsimp only at hSw); go_simp; try with_reducible rfl)
                  case aqa22 => assumption
                  case rqa22 =>
                  simp only [Act.put, List.setIfInBounds_toArray, List.set_cons_zero, List.set_cons_succ]
                  refine' wpAnyH_take (i := 23) (oi := ?oqa23) (v := ?vqa23) ?hqa23 ?sqa23 ?fqa23 ?zqa23 ?qqa23 ?yqa23 ?aqa23 ?rqa23
                  case hqa23 => (simp only [List.getElem?_toArray, List.getElem?_cons_succ, List.getElem?_cons_zero]; rfl)
                  case sqa23 => kernel_rfl
                  case fqa23 => kernel_rfl
                  case zqa23 => kernel_rfl
                  case qqa23 => exact fun _ _ _ h => h
                  case yqa23 => (refine Or.inl ⟨rfl, ?_⟩; intro w hSw; (try dsimp only at hSw); go_simp; try with_reducible rfl)
                  case aqa23 => assumption
                  case rqa23 =>
                  simp only [Act.put, List.setIfInBounds_toArray, List.set_cons_zero, List.set_cons_succ]
                  refine' wpAnyH_take (i := 24) (oi := ?oqa24) (v := ?vqa24) ?hqa24 ?sqa24 ?fqa24 ?zqa24 ?qqa24 ?yqa24 ?aqa24 ?rqa24
                  case hqa24 => (simp only [List.getElem?_toArray, List.getElem?_cons_succ, List.getElem?_cons_zero]; rfl)
                  case sqa24 => kernel_rfl
                  case fqa24 => kernel_rfl
                  case zqa24 => kernel_rfl
                  case qqa24 => exact fun _ _ _ h => h
                  case yqa24 => (refine Or.inl ⟨rfl, ?_⟩; intro w hSw; (try dsimp only at hSw); go_simp; try with_reducible rfl)
                  case aqa24 => assumption
                  case rqa24 =>
                  simp only [Act.put, List.setIfInBounds_toArray, List.set_cons_zero, List.set_cons_succ]
                  refine' wpAnyH_take (i := 25) (oi := ?oqa25) (v := undef) ?hqa25 ?sqa25 ?fqa25 ?zqa25 ?qqa25 ?yqa25 ?aqa25 ?rqa25
                  case hqa25 => (simp only [List.getElem?_toArray, List.getElem?_cons_succ, List.getElem?_cons_zero]; rfl)
                  case sqa25 => kernel_rfl
                  case fqa25 => kernel_rfl
                  case zqa25 => kernel_rfl
                  case qqa25 => exact fun _ _ _ h => h
                  case yqa25 => exact Or.inr ⟨rfl, rfl⟩
                  case aqa25 => assumption
                  case rqa25 =>
                  simp only [Act.put, List.setIfInBounds_toArray, List.set_cons_zero, List.set_cons_succ]
                  refine' wpAnyH_take (i := 26) (oi := ?oqa26) (v := undef) ?hqa26 ?sqa26 ?fqa26 ?zqa26 ?qqa26 ?yqa26 ?aqa26 ?rqa26
                  case hqa26 => (simp only [List.getElem?_toArray, List.getElem?_cons_succ, List.getElem?_cons_zero]; rfl)
                  case sqa26 => kernel_rfl
                  case fqa26 => kernel_rfl
                  case zqa26 => kernel_rfl
                  case qqa26 => exact fun _ _ _ h => h
                  case yqa26 => exact Or.inr ⟨rfl, rfl⟩
                  case aqa26 => assumption
                  case rqa26 =>
                  simp only [Act.put, List.setIfInBounds_toArray, List.set_cons_zero, List.set_cons_succ]
                  refine' wpAnyH_take (i := 27) (oi := ?oqa27) (v := undef) ?hqa27 ?sqa27 ?fqa27 ?zqa27 ?qqa27 ?yqa27 ?aqa27 ?rqa27
                  case hqa27 => (simp only [List.getElem?_toArray, List.getElem?_cons_succ, List.getElem?_cons_zero]; rfl)
                  case sqa27 => kernel_rfl
                  case fqa27 => kernel_rfl
                  case zqa27 => kernel_rfl
                  case qqa27 => exact fun _ _ _ h => h
                  case yqa27 => exact Or.inr ⟨rfl, rfl⟩
                  case aqa27 => assumption
                  case rqa27 =>
                  simp only [Act.put, List.setIfInBounds_toArray, List.set_cons_zero, List.set_cons_succ]
                  refine' wpAnyH_take (i := 28) (oi := ?oqa28) (v := undef) ?hqa28 ?sqa28 ?fqa28 ?zqa28 ?qqa28 ?yqa28 ?aqa28 ?rqa28
                  case hqa28 => (simp only [List.getElem?_toArray, List.getElem?_cons_succ, List.getElem?_cons_zero]; rfl)
                  case sqa28 => kernel_rfl
                  case fqa28 => kernel_rfl
                  case zqa28 => kernel_rfl
                  case qqa28 => exact fun _ _ _ h => h
                  case yqa28 => exact Or.inr ⟨rfl, rfl⟩
                  case aqa28 => assumption
                  case rqa28 =>
                  simp only [Act.put, List.setIfInBounds_toArray, List.set_cons_zero, List.set_cons_succ]
                  refine' wpAnyH_take (i := 29) (oi := ?oqa29) (v := undef) ?hqa29 ?sqa29 ?fqa29 ?zqa29 ?qqa29 ?yqa29 ?aqa29 ?rqa29
                  case hqa29 => (simp only [List.getElem?_toArray, List.getElem?_cons_succ, List.getElem?_cons_zero]; rfl)
                  case sqa29 => kernel_rfl
                  case fqa29 => kernel_rfl
                  case zqa29 => kernel_rfl
                  case qqa29 => exact fun _ _ _ h => h
                  case yqa29 => exact Or.inr ⟨rfl, rfl⟩
                  case aqa29 => assumption
                  case rqa29 =>
                  simp only [Act.put, List.setIfInBounds_toArray, List.set_cons_zero, List.set_cons_succ]
                  refine' wpAnyH_take (i := 30) (oi := ?oqa30) (v := undef) ?hqa30 ?sqa30 ?fqa30 ?zqa30 ?qqa30 ?yqa30 ?aqa30 ?rqa30
                  case hqa30 => (simp only [List.getElem?_toArray, List.getElem?_cons_succ, List.getElem?_cons_zero]; rfl)
                  case sqa30 => kernel_rfl
                  case fqa30 => kernel_rfl
                  case zqa30 => kernel_rfl
                  case qqa30 => exact fun _ _ _ h => h
                  case yqa30 => exact Or.inr ⟨rfl, rfl⟩
                  case aqa30 => assumption
                  case rqa30 =>
                  simp only [Act.put, List.setIfInBounds_toArray, List.set_cons_zero, List.set_cons_succ]
                  refine' wpAnyH_take (i := 31) (oi := ?oqa31) (v := undef) ?hqa31 ?sqa31 ?fqa31 ?zqa31 ?qqa31 ?yqa31 ?aqa31 ?rqa31
                  case hqa31 => (simp only [List.getElem?_toArray, List.getElem?_cons_succ, List.getElem?_cons_zero]; rfl)
                  case sqa31 => kernel_rfl
                  case fqa31 => kernel_rfl
                  case zqa31 => kernel_rfl
                  case qqa31 => exact fun _ _ _ h => h
                  case yqa31 => exact Or.inr ⟨rfl, rfl⟩
                  case aqa31 => assumption
                  case rqa31 =>
                  simp only [Act.put, List.setIfInBounds_toArray, List.set_cons_zero, List.set_cons_succ]
                  refine' wpAnyH_take (i := 32) (oi := ?oqa32) (v := undef) ?hqa32 ?sqa32 ?fqa32 ?zqa32 ?qqa32 ?yqa32 ?aqa32 ?rqa32
                  case hqa32 => (simp only [List.getElem?_toArray, List.getElem?_cons_succ, List.getElem?_cons_zero]; rfl)
                  case sqa32 => kernel_rfl
                  case fqa32 => kernel_rfl
                  case zqa32 => kernel_rfl
                  case qqa32 => exact fun _ _ _ h => h
                  case yqa32 => exact Or.inr ⟨rfl, rfl⟩
                  case aqa32 => assumption
                  case rqa32 =>
                  simp only [Act.put, List.setIfInBounds_toArray, List.set_cons_zero, List.set_cons_succ]
                  refine' wpAnyH_take (i := 33) (oi := ?oqa33) (v := undef) ?hqa33 ?sqa33 ?fqa33 ?zqa33 ?qqa33 ?yqa33 ?aqa33 ?rqa33
                  case hqa33 => (simp only [List.getElem?_toArray, List.getElem?_cons_succ, List.getElem?_cons_zero]; rfl)
                  case sqa33 => kernel_rfl
                  case fqa33 => kernel_rfl
                  case zqa33 => kernel_rfl
                  case qqa33 => exact fun _ _ _ h => h
                  case yqa33 => exact Or.inr ⟨rfl, rfl⟩
                  case aqa33 => assumption
                  case rqa33 =>
                  simp only [Act.put, List.setIfInBounds_toArray, List.set_cons_zero, List.set_cons_succ]
                  refine' wpAnyH_take (i := 34) (oi := ?oqa34) (v := undef) ?hqa34 ?sqa34 ?fqa34 ?zqa34 ?qqa34 ?yqa34 ?aqa34 ?rqa34
                  case hqa34 => (simp only [List.getElem?_toArray, List.getElem?_cons_succ, List.getElem?_cons_zero]; rfl)
                  case sqa34 => kernel_rfl
                  case fqa34 => kernel_rfl
                  case zqa34 => kernel_rfl
                  case qqa34 => exact fun _ _ _ h => h
                  case yqa34 => exact Or.inr ⟨rfl, rfl⟩
                  case aqa34 => assumption
                  case rqa34 =>
                  simp only [Act.put, List.setIfInBounds_toArray, List.set_cons_zero, List.set_cons_succ]
                  refine' wpAnyH_take (i := 35) (oi := ?oqa35) (v := undef) ?hqa35 ?sqa35 ?fqa35 ?zqa35 ?qqa35 ?yqa35 ?aqa35 ?rqa35
                  case hqa35 => (simp only [List.getElem?_toArray, List.getElem?_cons_succ, List.getElem?_cons_zero]; rfl)
                  case sqa35 => kernel_rfl
                  case fqa35 => kernel_rfl
                  case zqa35 => kernel_rfl
                  case qqa35 => exact fun _ _ _ h => h
                  case yqa35 => exact Or.inr ⟨rfl, rfl⟩
                  case aqa35 => assumption
                  case rqa35 =>
                  simp only [Act.put, List.setIfInBounds_toArray, List.set_cons_zero, List.set_cons_succ]
                  refine' wpAnyH_take (i := 36) (oi := ?oqa36) (v := undef) ?hqa36 ?sqa36 ?fqa36 ?zqa36 ?qqa36 ?yqa36 ?aqa36 ?rqa36
                  case hqa36 => (simp only [List.getElem?_toArray, List.getElem?_cons_succ, List.getElem?_cons_zero]; rfl)
                  case sqa36 => kernel_rfl
                  case fqa36 => kernel_rfl
                  case zqa36 => kernel_rfl
                  case qqa36 => exact fun _ _ _ h => h
                  case yqa36 => exact Or.inr ⟨rfl, rfl⟩
                  case aqa36 => assumption
                  case rqa36 =>
                  simp only [Act.put, List.setIfInBounds_toArray, List.set_cons_zero, List.set_cons_succ]
                  refine' wpAnyH_take (i := 37) (oi := ?oqa37) (v := undef) ?hqa37 ?sqa37 ?fqa37 ?zqa37 ?qqa37 ?yqa37 ?aqa37 ?rqa37
                  case hqa37 => (simp only [List.getElem?_toArray, List.getElem?_cons_succ, List.getElem?_cons_zero]; rfl)
                  case sqa37 => kernel_rfl
                  case fqa37 => kernel_rfl
                  case zqa37 => kernel_rfl
                  case qqa37 => exact fun _ _ _ h => h
                  case yqa37 => exact Or.inr ⟨rfl, rfl⟩
                  case aqa37 => assumption
                  case rqa37 =>
                  simp only [Act.put, List.setIfInBounds_toArray, List.set_cons_zero, List.set_cons_succ]
                  refine' wpAnyH_take (i := 38) (oi := ?oqa38) (v := undef) ?hqa38 ?sqa38 ?fqa38 ?zqa38 ?qqa38 ?yqa38 ?aqa38 ?rqa38
                  case hqa38 => (simp only [List.getElem?_toArray, List.getElem?_cons_succ, List.getElem?_cons_zero]; rfl)
                  case sqa38 => kernel_rfl
                  case fqa38 => kernel_rfl
                  case zqa38 => kernel_rfl
                  case qqa38 => exact fun _ _ _ h => h
                  case yqa38 => exact Or.inr ⟨rfl, rfl⟩
                  case aqa38 => assumption
                  case rqa38 =>
                  simp only [Act.put, List.setIfInBounds_toArray, List.set_cons_zero, List.set_cons_succ]
                  refine' wpAnyH_take (i := 39) (oi := ?oqa39) (v := undef) ?hqa39 ?sqa39 ?fqa39 ?zqa39 ?qqa39 ?yqa39 ?aqa39 ?rqa39
                  case hqa39 => (simp only [List.getElem?_toArray, List.getElem?_cons_succ, List.getElem?_cons_zero]; rfl)
                  case sqa39 => kernel_rfl
                  case fqa39 => kernel_rfl
                  case zqa39 => kernel_rfl
                  case qqa39 => exact fun _ _ _ h => h
                  case yqa39 => exact Or.inr ⟨rfl, rfl⟩
                  case aqa39 => assumption
                  case rqa39 =>
                  simp only [Act.put, List.setIfInBounds_toArray, List.set_cons_zero, List.set_cons_succ]
                  refine' wpAnyH_take (i := 40) (oi := ?oqa40) (v := undef) ?hqa40 ?sqa40 ?fqa40 ?zqa40 ?qqa40 ?yqa40 ?aqa40 ?rqa40
                  case hqa40 => (simp only [List.getElem?_toArray, List.getElem?_cons_succ, List.getElem?_cons_zero]; rfl)
                  case sqa40 => kernel_rfl
                  case fqa40 => kernel_rfl
                  case zqa40 => kernel_rfl
                  case qqa40 => exact fun _ _ _ h => h
                  case yqa40 => exact Or.inr ⟨rfl, rfl⟩
                  case aqa40 => assumption
                  case rqa40 =>
                  simp only [Act.put, List.setIfInBounds_toArray, List.set_cons_zero, List.set_cons_succ]
                  refine' wpAnyH_take (i := 41) (oi := ?oqa41) (v := undef) ?hqa41 ?sqa41 ?fqa41 ?zqa41 ?qqa41 ?yqa41 ?aqa41 ?rqa41
                  case hqa41 => (simp only [List.getElem?_toArray, List.getElem?_cons_succ, List.getElem?_cons_zero]; rfl)
                  case sqa41 => kernel_rfl
                  case fqa41 => kernel_rfl
                  case zqa41 => kernel_rfl
                  case qqa41 => exact fun _ _ _ h => h
                  case yqa41 => exact Or.inr ⟨rfl, rfl⟩
                  case aqa41 => assumption
                  case rqa41 =>
                  simp only [Act.put, List.setIfInBounds_toArray, List.set_cons_zero, List.set_cons_succ]
                  refine' wpAnyH_take (i := 42) (oi := ?oqa42) (v := undef) ?hqa42 ?sqa42 ?fqa42 ?zqa42 ?qqa42 ?yqa42 ?aqa42 ?rqa42
                  case hqa42 => (simp only [List.getElem?_toArray, List.getElem?_cons_succ, List.getElem?_cons_zero]; rfl)
                  case sqa42 => kernel_rfl
                  case fqa42 => kernel_rfl
                  case zqa42 => kernel_rfl
                  case qqa42 => exact fun _ _ _ h => h
                  case yqa42 => exact Or.inr ⟨rfl, rfl⟩
                  case aqa42 => assumption
                  case rqa42 =>
                  simp only [Act.put, List.setIfInBounds_toArray, List.set_cons_zero, List.set_cons_succ]
                  refine' wpAnyH_take (i := 43) (oi := ?oqa43) (v := undef) ?hqa43 ?sqa43 ?fqa43 ?zqa43 ?qqa43 ?yqa43 ?aqa43 ?rqa43
                  case hqa43 => (simp only [List.getElem?_toArray, List.getElem?_cons_succ, List.getElem?_cons_zero]; rfl)
                  case sqa43 => kernel_rfl
                  case fqa43 => kernel_rfl
                  case zqa43 => kernel_rfl
                  case qqa43 => exact fun _ _ _ h => h
                  case yqa43 => exact Or.inr ⟨rfl, rfl⟩
                  case aqa43 => assumption
                  case rqa43 =>
                  simp only [Act.put, List.setIfInBounds_toArray, List.set_cons_zero, List.set_cons_succ]
                  refine' wpAnyH_take (i := 44) (oi := ?oqa44) (v := ?vqa44) ?hqa44 ?sqa44 ?fqa44 ?zqa44 ?qqa44 ?yqa44 ?aqa44 ?rqa44
                  case hqa44 => (simp only [List.getElem?_toArray, List.getElem?_cons_succ, List.getElem?_cons_zero]; rfl)
                  case sqa44 => kernel_rfl
                  case fqa44 => kernel_rfl
                  case zqa44 => kernel_rfl
                  case qqa44 => exact fun _ _ _ h => h
                  case yqa44 => (refine Or.inl ⟨rfl, ?_⟩; intro w hSw; (try dsimp only at hSw); go_simp; try with_reducible rfl)
                  case aqa44 => assumption
                  case rqa44 =>
                  simp only [Act.put, List.setIfInBounds_toArray, List.set_cons_zero, List.set_cons_succ]
                  refine' wpAnyH_take (i := 45) (oi := ?oqa45) (v := ?vqa45) ?hqa45 ?sqa45 ?fqa45 ?zqa45 ?qqa45 ?yqa45 ?aqa45 ?rqa45
                  case hqa45 => (simp only [List.getElem?_toArray, List.getElem?_cons_succ, List.getElem?_cons_zero]; rfl)
                  case sqa45 => kernel_rfl
                  case fqa45 => kernel_rfl
                  case zqa45 => kernel_rfl
                  case qqa45 => exact fun _ _ _ h => h
                  case yqa45 => (refine Or.inl ⟨rfl, ?_⟩; intro w hSw; (try dsimp only at hSw); go_simp; try with_reducible rfl)
                  case aqa45 => assumption
                  case rqa45 =>
                  simp only [Act.put, List.setIfInBounds_toArray, List.set_cons_zero, List.set_cons_succ]
                  refine wpAnyH_done (by kernel_rfl) ?_ _
                  have S13 : Hid (Own w No w12 (aTr g2 y.gd y.gl hv3 (.slice none 0 0) (lst (put h2 j (some ⟨j, now j, lv3⟩)) k) (lst (fun _ => none) k) * (Sl.aDk y.gd y.m y.b k P2 * (Mn.aMn y.m ⟨true, -1, 2⟩ * (Asn.vec 3 1 (.slice (some ⟨gf, 0, none⟩) k k) k (fs k (fF s.d)) * (Asn.vec 31 7 (.slice (some ⟨gn, 0, none⟩) k k) k (nws k now nv) * Z2)))))) := Lib.hid ((S12.out.re (show _ = (Asn.blk g17 31 #[.int .i64 (now j).tree, .int .i64 (now j).level, .int .i64 (now j).stamp, .bool (now j).has, .string (ofL (now j).high), .int .i64 (now j).right, .slice AV (now j).list.length cV] * aEnts (now j) (.slice AV (now j).list.length cV)) * (aTr g2 y.gd y.gl hv3 (.slice none 0 0) (lst (put h2 j (some ⟨j, now j, lv3⟩)) k) (lst (fun _ => none) k) * (Sl.aDk y.gd y.m y.b k P2 * (Mn.aMn y.m ⟨true, -1, 2⟩ * (Asn.vec 3 1 (.slice (some ⟨gf, 0, none⟩) k k) k (fs k (fF s.d)) * (Asn.vec 31 7 (.slice (some ⟨gn, 0, none⟩) k k) k (nws k now nv) * Z2))))) by ac_rfl)).right)
                  clear S12 S9 F tA tC HSm hnvj hdj hfz
                  clear hHeld
                  clear hHeld
                  go_wp2_with fail
                  go_roundw
                  case rel => exact ⟨j + 1, hv3, _, by go_num, by omega, HO3, HN3, S13⟩
                  case measure => simp [intOf]; omega
                | some yj =>
                  obtain ⟨q1', q2', q3'⟩ := hd1 yj hdj
                  have hfz : fF s.d j = (yj.first : Int) := by unfold fF; rw [hdj]
                  rw [hfz, hnvj] at F
                  obtain ⟨r0, r1, r2, r3, r4, r5, r6, r7, r8, r9, r10, r11, r12, r13, r14⟩ := F.out _ S9.out
                  have z1 : ((yj.first : Int) == 0) = false := beq_eq_false_iff_ne.2 (by omega)
                  have z2 : decide ((0 : Int) < yj.first) = true := decide_eq_true (by omega)
                  have z3 : decide ((yj.first : Int) ≤ n0.stamp) = false := decide_eq_false (by omega)
                  have z4 : decide ((now j).stamp < (yj.first : Int)) = false := decide_eq_false (by omega)
                  clear hd0 hd1 hc0 hs0 hg1 hdj hfz
                  have S13 : Hid (Own w No w11 (aTr g2 y.gd y.gl hv3 (.slice none 0 0) (lst (put h2 j (some ⟨j, n0, lv3⟩)) k) (lst (fun _ => none) k) * (Sl.aDk y.gd y.m y.b k P2 * (Mn.aMn y.m ⟨true, -1, 2⟩ * (Asn.vec 3 1 (.slice (some ⟨gf, 0, none⟩) k k) k (fs k (fF s.d)) * (Asn.vec 31 7 (.slice (some ⟨gn, 0, none⟩) k k) k (nws k now nv) * Z2)))))) := Lib.hid ((S9.out.re (show _ = (Asn.blk g17 31 #[.int .i64 n0.tree, .int .i64 n0.level, .int .i64 n0.stamp, .bool n0.has, .string (ofL n0.high), .int .i64 n0.right, .slice AV n0.list.length cV] * aEnts n0 (.slice AV n0.list.length cV)) * (aTr g2 y.gd y.gl hv3 (.slice none 0 0) (lst (put h2 j (some ⟨j, n0, lv3⟩)) k) (lst (fun _ => none) k) * (Sl.aDk y.gd y.m y.b k P2 * (Mn.aMn y.m ⟨true, -1, 2⟩ * (Asn.vec 3 1 (.slice (some ⟨gf, 0, none⟩) k k) k (fs k (fF s.d)) * (Asn.vec 31 7 (.slice (some ⟨gn, 0, none⟩) k k) k (nws k now nv) * Z2))))) by ac_rfl)).right)
                  clear S9 F
                  go_quiet (fail)
                  have S14 := Lib.hid (S13.out.drewN nq)
                  clear S13 r0 r1 r2 r3 r4 r5 r6 r7 r8 r9 r10 r11 r12 r13 r14
                  go_wp2_with fail
                  go_roundw
                  case rel => exact ⟨j + 1, hv3, _, by go_num, by omega, HO3, HN3, S14⟩
                  case measure => simp [intOf]; omega
              · obtain rfl : j = k := by omega
                have HDl := Lib.hid (Dirty_any g2 y.gd y.gl hv2 (.slice none 0 0) (lst h2 j) (lst (fun _ => none) j) w _ _ (by rw [lst_empty]; decide) S8.out)
                rw [lst_empty] at HDl
                unfold tPtr at HDl
                go_wp2_with fail
                refine HDl.out.mono ?_
                rintro e w10 ⟨p10, rfl, hX⟩
                obtain ⟨A10, m10, rfl⟩ := hX.vec.slice
                have B10 := Lib.hid hX.bel
                clear hX S8 HDl
                go_wp2_with fail
                go_returns
                exact ⟨rfl, B10.out⟩
      · clear hlt hx'
        go_upto_region 30 with fail
        obtain ⟨gf, hgz⟩ : ∃ g, g = wr.heap.size := ⟨_, rfl⟩
        rw [← hgz] at S1 ⊢
        clear hgz S
        generalize wr.alloc _ = w4 at *
        obtain ⟨c0', c1', c2', c3'⟩ := b_cells S1.out
        have HD := Lib.hid (bDirty y k (by omega) v h HG.out.oks (Ls K) s HG.out.okd w w4 _ S1.out)
        go_wp2_with fail
        refine HD.out.mono ?_
        rintro e w5 ⟨pd, rfl, hX⟩
        obtain ⟨AD, mD, rfl⟩ := hX.vec.slice
        have S2 : Hid (Own w No w5 (Asn.vec 3 1 (.slice (some ⟨gf, 0, none⟩) k k) k (fs k (fI s.d 0)) * (Asn.vec 73 2 (.slice AD (lst s.d k).length mD) (lst s.d k).length (dty (lst s.d k)) * aB y k v h (Ls K) s (Asn.blk y.gb 42 (bRow y) * (Asn.vec 31 7 (.slice (some ⟨gn, 0, none⟩) k k) k (nws k now nv) * Y))))) := Lib.hid (hX.re (by rw [fs_congr k (fI s.d 0) (fun _ => 0) (fun p _ => fI_zero s.d p)]; unfold aB; ac_rfl))
        clear hX S1 HD c0' c1' c2' c3'
        have hld := lst_le s.d k
        go_wp2_with fail
        go_loopw [14] (fun p14 wr => ∃ i' : Nat, p14 = .int .i64 i' ∧ i' ≤ (lst s.d k).length ∧ Hid (Own w No wr (Asn.vec 3 1 (.slice (some ⟨gf, 0, none⟩) k k) k (fs k (fI s.d i')) * (Asn.vec 73 2 (.slice AD (lst s.d k).length mD) (lst s.d k).length (dty (lst s.d k)) * aB y k v h (Ls K) s (Asn.blk y.gb 42 (bRow y) * (Asn.vec 31 7 (.slice (some ⟨gn, 0, none⟩) k k) k (nws k now nv) * Y)))))) (fun p14 _ => (lst s.d k).length - (intOf p14).toNat)
        case atStart => exact ⟨0, rfl, Nat.zero_le _, S2⟩
        case round =>
          clear S2
          obtain ⟨i', rfl, hi', S2⟩ := hrel
          by_cases hlt' : i' < (lst s.d k).length
          · obtain ⟨yd, hyd⟩ : ∃ z, (lst s.d k)[i']? = some z := ⟨(lst s.d k)[i']'hlt', List.getElem?_eq_getElem _⟩
            obtain ⟨q, hq, hdq, hlq⟩ := lst_mem s.d k i' yd hyd
            have hpq := HG.out.okd q yd hdq
            obtain ⟨bd, rfl⟩ : ∃ b, AD = some ⟨b, 0, none⟩ := by
              rcases S2.out.right.vec.forms with ⟨-, hz⟩ | ⟨g, cap, he, -⟩
              · omega
              · cases he; exact ⟨_, rfl⟩
            have d0 : wr.cell? ⟨bd, i' * 2, none⟩ = some (.int .i64 yd.page) := S2.out.right.vec.cell (j := i' * 2 + 0) (by rw [dty_at _ i' yd hyd 0 (by decide)]; rfl)
            have d1 : wr.cell? ⟨bd, i' * 2 + 1, none⟩ = some (.int .i64 yd.first) := S2.out.right.vec.cell (by rw [dty_at _ i' yd hyd 1 (by decide)]; rfl)
            rw [hpq] at d0
            have f0 := S2.out.vec.cell (fs_at k (fI s.d i') q hq)
            have f1 := S2.out.vec.free q
            have S3 := (S2.out.set (Sets.l (sets_vec _ _ _ _ _ _ q (by omega) (.int .i64 (yd.first : Int))))).drew
            rw [fs_set, fs_congr k _ (fI s.d (i' + 1)) (fun p _ => fI_step s.d i' q yd hdq hlq p)] at S3
            have S4 := Lib.hid S3
            clear S3 S2 hyd hdq hlq hpq
            generalize (yd.first : Int) = yf at *
            go_upto_region 34 with fail
            go_region
            go_wp2_with fail
            go_roundw
            case rel => exact ⟨i' + 1, by go_num, by omega, S4⟩
            case measure => simp [intOf]; omega
          · obtain rfl : i' = (lst s.d k).length := by omega
            have S3 : Hid (Own w No wr (Mn.aMn y.m Rl.idle * (Sl.aDk y.gd y.m y.b k s.P * (Asn.blk y.gb 42 (bRow y) * (Asn.vec 31 7 (.slice (some ⟨gn, 0, none⟩) k k) k (nws k now nv) * (Asn.vec 3 1 (.slice (some ⟨gf, 0, none⟩) k k) k (fs k (fF s.d)) * (Asn.vec 73 2 (.slice AD (lst s.d k).length mD) (lst s.d k).length (dty (lst s.d k)) * (aTr y.g y.gd y.gl v.hv v.ov (lst h k) (lst s.d k) * (aLg y.gl y.gr y.m 65536 v.lv (Ls K) s.safe 0 * Y))))))))) := Lib.hid (S2.out.re (by rw [fs_congr k (fI s.d (lst s.d k).length) (fF s.d) (fun p hp => fI_full s.d k p hp)]; unfold aB; ac_rfl))
            clear S2
            generalize Asn.vec 73 2 (.slice AD (lst s.d k).length mD) (lst s.d k).length (dty (lst s.d k)) * (aTr y.g y.gd y.gl v.hv v.ov (lst h k) (lst s.d k) * (aLg y.gl y.gr y.m 65536 v.lv (Ls K) s.safe 0 * Y)) = Z at *
            have cb := S3.out.right.right.has (Has.l (has_blk _ _ _))
            have c0' : wr.cell? ⟨y.gb, 0, none⟩ = some (.pointer (some ⟨y.m, 0, none⟩)) := cb.cell 0
            clear cb
            have HOff := Lib.hid (Mn.tOff y.m Rl.idle)
            have HOn := Lib.hid (Mn.tOn y.m Rl.idle.off)
            rw [show Rl.idle.off.come = (⟨true, -1, 2⟩ : Mn.Pw) from by simp [Mn.Pw.come, Mn.Pw.off, Rl.idle, wrap64]] at HOn
            have HSet := Lib.hid (Sl.tSettle_off y.gd y.m y.b k s.P Rl.idle.off 0 rfl)
            have hPn : Hid (∀ p, p < k → (Sl.settled s.P 0 k p).now = (s.P p).safe) := Lib.hid fun p hp => settled_now s.P k p hp (HG.out.page p hp).fresh
            generalize Rl.idle.off = q1 at *
            generalize Sl.settled s.P 0 k = P2 at *
            go_wp2_with fail
            refine (S3.out.call HOff.out.l).mono ?_
            rintro e w6 ⟨rfl, hX⟩
            have S4 := Lib.hid (hX.re (show _ = (Sl.aDk y.gd y.m y.b k s.P * Mn.aMn y.m q1) * (Asn.blk y.gb 42 (bRow y) * (Asn.vec 31 7 (.slice (some ⟨gn, 0, none⟩) k k) k (nws k now nv) * (Asn.vec 3 1 (.slice (some ⟨gf, 0, none⟩) k k) k (fs k (fF s.d)) * Z))) by ac_rfl))
            clear hX S3 HOff c0'
            have cb := S4.out.right.has (Has.l (has_blk _ _ _))
            have c1' : w6.cell? ⟨y.gb, 1, none⟩ = some (.pointer (some ⟨y.gd, 0, none⟩)) := cb.cell 1
            clear cb
            go_wp2_with fail
            refine (S4.out.call HSet.out.l).mono ?_
            rintro e w7 ⟨rfl, hX⟩
            have S5 := Lib.hid (hX.re (show _ = Mn.aMn y.m q1 * (Sl.aDk y.gd y.m y.b k P2 * (Asn.blk y.gb 42 (bRow y) * (Asn.vec 31 7 (.slice (some ⟨gn, 0, none⟩) k k) k (nws k now nv) * (Asn.vec 3 1 (.slice (some ⟨gf, 0, none⟩) k k) k (fs k (fF s.d)) * Z)))) by ac_rfl))
            clear hX S4 HSet c1'
            have cb := S5.out.right.right.has (Has.l (has_blk _ _ _))
            have c0' : w7.cell? ⟨y.gb, 0, none⟩ = some (.pointer (some ⟨y.m, 0, none⟩)) := cb.cell 0
            clear cb
            go_wp2_with fail
            refine (S5.out.call HOn.out.l).mono ?_
            rintro e w8 ⟨rfl, hX⟩
            have S6 := Lib.hid hX
            clear hX S5 HOn c0'
            have F : Hid (∀ W, Own w No W (Mn.aMn y.m ⟨true, -1, 2⟩ * (Sl.aDk y.gd y.m y.b k P2 * (Asn.blk y.gb 42 (bRow y) * (Asn.vec 31 7 (.slice (some ⟨gn, 0, none⟩) k k) k (nws k now nv) * (Asn.vec 3 1 (.slice (some ⟨gf, 0, none⟩) k k) k (fs k (fF s.d)) * Z))))) → W.cell? ⟨y.gb, 1, none⟩ = some (.pointer (some ⟨y.gd, 0, none⟩)) ∧ W.cell? ⟨y.gb, 2, none⟩ = some (.pointer (some ⟨y.gl, 0, none⟩))) := Lib.hid fun W hS => by
              have cb := hS.right.right.has (Has.l (has_blk _ _ _))
              exact ⟨cb.cell 1, cb.cell 2⟩
            have tA := F.out _ S6.out.drew
            have HNew := Lib.hid (new_any y.gd y.gl w _ _ S6.out.drew)
            go_upto_region 39 with fail
            go_region_held3 (fun W : World => W.cell? ⟨y.gb, 1, none⟩ = some (.pointer (some ⟨y.gd, 0, none⟩)) ∧ W.cell? ⟨y.gb, 2, none⟩ = some (.pointer (some ⟨y.gl, 0, none⟩))) (first | exact tA | exact tC) (first | (go_at_call 26; refine HNew.out.mono ?_; rintro e w9 ⟨g2, rfl, hX⟩; have S7 := Lib.hid hX; have tC := F.out _ hX.right))
            have S8 : Hid (Own w No w9 (aTr g2 y.gd y.gl (.slice none 0 0) (.slice none 0 0) (lst (fun _ => none) k) (lst (fun _ => none) k) * (Sl.aDk y.gd y.m y.b k P2 * (Mn.aMn y.m ⟨true, -1, 2⟩ * (Asn.vec 3 1 (.slice (some ⟨gf, 0, none⟩) k k) k (fs k (fF s.d)) * (Asn.vec 31 7 (.slice (some ⟨gn, 0, none⟩) k k) k (nws k now nv) * (Asn.blk y.gb 42 (bRow y) * Z))))))) := Lib.hid (S7.out.re (by rw [lst_empty, lst_empty]; ac_rfl))
            clear S7 S6 F tA tC hX HNew
            generalize Asn.blk y.gb 42 (bRow y) * Z = Z2 at *
            go_wp2_with fail
            go_loopw [16, 17, 18] (fun p16 _ _ wr => ∃ (j : Nat) (hv2 : Value) (h2 : Nat → Option Sh), p16 = .int .i64 j ∧ j ≤ k ∧ Hid (OkS h2) ∧ Hid (∀ p, j ≤ p → h2 p = none) ∧ Hid (Own w No wr (aTr g2 y.gd y.gl hv2 (.slice none 0 0) (lst h2 k) (lst (fun _ => none) k) * (Sl.aDk y.gd y.m y.b k P2 * (Mn.aMn y.m ⟨true, -1, 2⟩ * (Asn.vec 3 1 (.slice (some ⟨gf, 0, none⟩) k k) k (fs k (fF s.d)) * (Asn.vec 31 7 (.slice (some ⟨gn, 0, none⟩) k k) k (nws k now nv) * Z2))))))) (fun p16 _ _ _ => k - (intOf p16).toNat)
            case atStart => exact ⟨0, .slice none 0 0, fun _ => none, rfl, Nat.zero_le _, Lib.hid empty_ok, Lib.hid (fun _ _ => rfl), S8⟩
            case round =>
              clear S8
              obtain ⟨j, hv2, h2, rfl, hj, HO2, HN2, S8⟩ := hrel
              by_cases hlj : j < k
              · have hg1 := HG.out.page j hlj
                obtain ⟨n0, t0, hs0, hc0, hf0, hd0, hd1⟩ := hg1.safe
                have hl0 : n0.list.length ≤ 100000 := by have := (goods (fits_good hf0).1).ll; omega
                have HNd := Lib.hid (node_miss k g2 y.gd y.gl y.m y.b hv2 (.slice none 0 0) P2 ⟨true, -1, 2⟩ (by omega) h2 HO2.out (fun _ => none) rfl j hlj (HN2.out j (Nat.le_refl _)) t0 (by rw [hPn.out j hlj, hs0]) n0 hc0 hl0 w _ _ HT.out S8.out)
                unfold nodCells tPtr at HNd
                go_wp2_with fail
                refine HNd.out.mono ?_
                rintro e w10 ⟨⟨v1, hv3, lv3⟩, rfl, hX⟩
                dsimp only at hX
                obtain ⟨AV, cV, rfl⟩ := (show Own w No w10 (Asn.vec 84 3 v1 n0.list.length (cells3 n0.list) * _) from hX).vec.slice
                have S9 := Lib.hid ((hX.alloc #[.int .i64 n0.tree, .int .i64 n0.level, .int .i64 n0.stamp, .bool n0.has, .string (ofL n0.high), .int .i64 n0.right, .slice AV n0.list.length cV] 31).re (show _ = Asn.vec 3 1 (.slice (some ⟨gf, 0, none⟩) k k) k (fs k (fF s.d)) * (Asn.vec 31 7 (.slice (some ⟨gn, 0, none⟩) k k) k (nws k now nv) * (Asn.blk w10.heap.size 31 #[.int .i64 n0.tree, .int .i64 n0.level, .int .i64 n0.stamp, .bool n0.has, .string (ofL n0.high), .int .i64 n0.right, .slice AV n0.list.length cV] * (aEnts n0 (.slice AV n0.list.length cV) * (aTr g2 y.gd y.gl hv3 (.slice none 0 0) (lst (put h2 j (some ⟨j, n0, lv3⟩)) k) (lst (fun _ => none) k) * (Sl.aDk y.gd y.m y.b k P2 * (Mn.aMn y.m ⟨true, -1, 2⟩ * Z2)))))) by ac_rfl))
                clear hX S8 HNd
                go_upto_region 44 with fail
                obtain ⟨g17, hgz⟩ : ∃ g, g = w10.heap.size := ⟨_, rfl⟩
                rw [← hgz] at S9 ⊢
                clear hgz
                generalize w10.alloc _ = w11 at *
                have hnw := fun (q : Nat) (hq : q < 7) => nws_at k now nv j q hlj hq
                have F : Hid (∀ W, Own w No W (Asn.vec 3 1 (.slice (some ⟨gf, 0, none⟩) k k) k (fs k (fF s.d)) * (Asn.vec 31 7 (.slice (some ⟨gn, 0, none⟩) k k) k (nws k now nv) * (Asn.blk g17 31 #[.int .i64 n0.tree, .int .i64 n0.level, .int .i64 n0.stamp, .bool n0.has, .string (ofL n0.high), .int .i64 n0.right, .slice AV n0.list.length cV] * (aEnts n0 (.slice AV n0.list.length cV) * (aTr g2 y.gd y.gl hv3 (.slice none 0 0) (lst (put h2 j (some ⟨j, n0, lv3⟩)) k) (lst (fun _ => none) k) * (Sl.aDk y.gd y.m y.b k P2 * (Mn.aMn y.m ⟨true, -1, 2⟩ * Z2))))))) → W.cell? ⟨gf, j, none⟩ = some (.int .i64 (fF s.d j)) ∧ W.cell? ⟨g17, 0, none⟩ = some (.int .i64 n0.tree) ∧ W.cell? ⟨g17, 1, none⟩ = some (.int .i64 n0.level) ∧ W.cell? ⟨g17, 2, none⟩ = some (.int .i64 n0.stamp) ∧ W.cell? ⟨g17, 3, none⟩ = some (.bool n0.has) ∧ W.cell? ⟨g17, 4, none⟩ = some (.string (ofL n0.high)) ∧ W.cell? ⟨g17, 5, none⟩ = some (.int .i64 n0.right) ∧ W.cell? ⟨g17, 6, none⟩ = some (.slice AV n0.list.length cV) ∧ W.cell? ⟨gn, j * 7, none⟩ = some (.int .i64 (now j).tree) ∧ W.cell? ⟨gn, j * 7 + 1, none⟩ = some (.int .i64 (now j).level) ∧ W.cell? ⟨gn, j * 7 + 2, none⟩ = some (.int .i64 (now j).stamp) ∧ W.cell? ⟨gn, j * 7 + 3, none⟩ = some (.bool (now j).has) ∧ W.cell? ⟨gn, j * 7 + 4, none⟩ = some (.string (ofL (now j).high)) ∧ W.cell? ⟨gn, j * 7 + 5, none⟩ = some (.int .i64 (now j).right) ∧ W.cell? ⟨gn, j * 7 + 6, none⟩ = some (nv j)) := Lib.hid fun W hS => by
                  have hb := hS.right.right.has (Has.l (has_blk _ _ _))
                  have hv' := hS.right.vec
                  exact ⟨hS.vec.cell (fs_at k (fF s.d) j hlj), hb.cell 0, hb.cell 1, hb.cell 2, hb.cell 3, hb.cell 4, hb.cell 5, hb.cell 6, hv'.cell (j := j * 7 + 0) (hnw 0 (by decide)), hv'.cell (hnw 1 (by decide)), hv'.cell (hnw 2 (by decide)), hv'.cell (hnw 3 (by decide)), hv'.cell (hnw 4 (by decide)), hv'.cell (hnw 5 (by decide)), hv'.cell (hnw 6 (by decide))⟩
                clear hnw
                have HO3 : Hid (OkS (put h2 j (some ⟨j, n0, lv3⟩))) := Lib.hid (HO2.out.put _ _ fun z hz => by cases hz; rfl)
                have HN3 : Hid (∀ p, j + 1 ≤ p → put h2 j (some ⟨j, n0, lv3⟩) p = none) := Lib.hid fun p hp => by rw [put_other _ _ _ _ (by omega)]; exact HN2.out p (by omega)
                obtain ⟨AN, cN, hnvj⟩ : ∃ A c, nv j = .slice A (now j).list.length c := (HR.out j hlj).slice
                cases hdj : s.d j with
                | none =>
                  have e0 := hd0 hdj
                  subst e0
                  have hfz : fF s.d j = 0 := by unfold fF; rw [hdj]
                  rw [hfz, hnvj] at F
                  have tA := F.out _ S9.out.drew
                  have HSm := Lib.hid (Same_any (now j) (now j) _ _ _ (ents_at S9.out.drew.right.right.right.left) ⟨nv j, rfl, (HR.out j hlj).keep S9.out.drew.bel⟩)
                  unfold nodCells at HSm
                  rw [hnvj, decide_eq_true rfl] at HSm
                  clear hd0 hd1 hc0 hs0 hg1
                  refine wp_region_held_drew (S := fun W => W.cell? ⟨gf, j, none⟩ = some (.int .i64 0) ∧ W.cell? ⟨g17, 0, none⟩ = some (.int .i64 (now j).tree) ∧ W.cell? ⟨g17, 1, none⟩ = some (.int .i64 (now j).level) ∧ W.cell? ⟨g17, 2, none⟩ = some (.int .i64 (now j).stamp) ∧ W.cell? ⟨g17, 3, none⟩ = some (.bool (now j).has) ∧ W.cell? ⟨g17, 4, none⟩ = some (.string (ofL (now j).high)) ∧ W.cell? ⟨g17, 5, none⟩ = some (.int .i64 (now j).right) ∧ W.cell? ⟨g17, 6, none⟩ = some (.slice AV (now j).list.length cV) ∧ W.cell? ⟨gn, j * 7, none⟩ = some (.int .i64 (now j).tree) ∧ W.cell? ⟨gn, j * 7 + 1, none⟩ = some (.int .i64 (now j).level) ∧ W.cell? ⟨gn, j * 7 + 2, none⟩ = some (.int .i64 (now j).stamp) ∧ W.cell? ⟨gn, j * 7 + 3, none⟩ = some (.bool (now j).has) ∧ W.cell? ⟨gn, j * 7 + 4, none⟩ = some (.string (ofL (now j).high)) ∧ W.cell? ⟨gn, j * 7 + 5, none⟩ = some (.int .i64 (now j).right) ∧ W.cell? ⟨gn, j * 7 + 6, none⟩ = some (.slice AN (now j).list.length cN)) (by kernel_rfl) tA (fun hHeld => ?_)
                  refine' wpAnyH_take (i := 0) (oi := ?oqb0) (v := ?vqb0) ?hqb0 ?sqb0 ?fqb0 ?zqb0 ?qqb0 ?yqb0 ?aqb0 ?rqb0
                  case hqb0 => (simp only [List.getElem?_toArray, List.getElem?_cons_succ, List.getElem?_cons_zero]; rfl)
                  case sqb0 => kernel_rfl
                  case fqb0 => kernel_rfl
                  case zqb0 => kernel_rfl
                  case qqb0 => exact fun _ _ _ h => h
                  case yqb0 => (refine Or.inl ⟨rfl, ?_⟩; intro w hSw; (try dsimp only at hSw); go_simp; try with_reducible rfl)
                  case aqb0 => assumption
                  case rqb0 =>
                  simp only [Act.put, List.setIfInBounds_toArray, List.set_cons_zero, List.set_cons_succ]
                  refine' wpAnyH_take (i := 1) (oi := ?oqb1) (v := ?vqb1) ?hqb1 ?sqb1 ?fqb1 ?zqb1 ?qqb1 ?yqb1 ?aqb1 ?rqb1
                  case hqb1 => (simp only [List.getElem?_toArray, List.getElem?_cons_succ, List.getElem?_cons_zero]; rfl)
                  case sqb1 => kernel_rfl
                  case fqb1 => kernel_rfl
                  case zqb1 => kernel_rfl
                  case qqb1 => exact fun _ _ _ h => h
                  case yqb1 => (refine Or.inl ⟨rfl, ?_⟩; intro w hSw; (try dsimp only at hSw); go_simp; try with_reducible rfl)
                  case aqb1 => assumption
                  case rqb1 =>
                  simp only [Act.put, List.setIfInBounds_toArray, List.set_cons_zero, List.set_cons_succ]
                  refine' wpAnyH_take (i := 2) (oi := ?oqb2) (v := ?vqb2) ?hqb2 ?sqb2 ?fqb2 ?zqb2 ?qqb2 ?yqb2 ?aqb2 ?rqb2
                  case hqb2 => (simp only [List.getElem?_toArray, List.getElem?_cons_succ, List.getElem?_cons_zero]; rfl)
                  case sqb2 => kernel_rfl
                  case fqb2 => kernel_rfl
                  case zqb2 => kernel_rfl
                  case qqb2 => exact fun _ _ _ h => h
                  case yqb2 => (refine Or.inl ⟨rfl, ?_⟩; intro w hSw; (try dsimp only at hSw); go_simp; try with_reducible rfl)
                  case aqb2 => assumption
                  case rqb2 =>
                  simp only [Act.put, List.setIfInBounds_toArray, List.set_cons_zero, List.set_cons_succ]
                  refine' wpAnyH_take (i := 3) (oi := ?oqb3) (v := ?vqb3) ?hqb3 ?sqb3 ?fqb3 ?zqb3 ?qqb3 ?yqb3 ?aqb3 ?rqb3
                  case hqb3 => (simp only [List.getElem?_toArray, List.getElem?_cons_succ, List.getElem?_cons_zero]; rfl)
                  case sqb3 => kernel_rfl
                  case fqb3 => kernel_rfl
                  case zqb3 => kernel_rfl
                  case qqb3 => exact fun _ _ _ h => h
                  case yqb3 => (refine Or.inl ⟨rfl, ?_⟩; intro w hSw; (try dsimp only at hSw); go_simp; try with_reducible rfl)
                  case aqb3 => assumption
                  case rqb3 =>
                  simp only [Act.put, List.setIfInBounds_toArray, List.set_cons_zero, List.set_cons_succ]
                  refine' wpAnyH_take (i := 4) (oi := ?oqb4) (v := ?vqb4) ?hqb4 ?sqb4 ?fqb4 ?zqb4 ?qqb4 ?yqb4 ?aqb4 ?rqb4
                  case hqb4 => (simp only [List.getElem?_toArray, List.getElem?_cons_succ, List.getElem?_cons_zero]; rfl)
                  case sqb4 => kernel_rfl
                  case fqb4 => kernel_rfl
                  case zqb4 => kernel_rfl
                  case qqb4 => exact fun _ _ _ h => h
                  case yqb4 => (refine Or.inl ⟨rfl, ?_⟩; intro w hSw; (try dsimp only at hSw); go_simp; try with_reducible rfl)
                  case aqb4 => assumption
                  case rqb4 =>
                  simp only [Act.put, List.setIfInBounds_toArray, List.set_cons_zero, List.set_cons_succ]
                  refine' wpAnyH_take (i := 5) (oi := ?oqb5) (v := ?vqb5) ?hqb5 ?sqb5 ?fqb5 ?zqb5 ?qqb5 ?yqb5 ?aqb5 ?rqb5
                  case hqb5 => (simp only [List.getElem?_toArray, List.getElem?_cons_succ, List.getElem?_cons_zero]; rfl)
                  case sqb5 => kernel_rfl
                  case fqb5 => kernel_rfl
                  case zqb5 => kernel_rfl
                  case qqb5 => exact fun _ _ _ h => h
                  case yqb5 => (refine Or.inl ⟨rfl, ?_⟩; intro w hSw; (try dsimp only at hSw); go_simp; try with_reducible rfl)
                  case aqb5 => assumption
                  case rqb5 =>
                  simp only [Act.put, List.setIfInBounds_toArray, List.set_cons_zero, List.set_cons_succ]
                  refine' wpAnyH_take (i := 6) (oi := ?oqb6) (v := ?vqb6) ?hqb6 ?sqb6 ?fqb6 ?zqb6 ?qqb6 ?yqb6 ?aqb6 ?rqb6
                  case hqb6 => (simp only [List.getElem?_toArray, List.getElem?_cons_succ, List.getElem?_cons_zero]; rfl)
                  case sqb6 => kernel_rfl
                  case fqb6 => kernel_rfl
                  case zqb6 => kernel_rfl
                  case qqb6 => exact fun _ _ _ h => h
                  case yqb6 => (refine Or.inl ⟨rfl, ?_⟩; intro w hSw; (try dsimp only at hSw); go_simp; try with_reducible rfl)
                  case aqb6 => assumption
                  case rqb6 =>
                  simp only [Act.put, List.setIfInBounds_toArray, List.set_cons_zero, List.set_cons_succ]
                  refine' wpAnyH_take (i := 7) (oi := ?oqb7) (v := ?vqb7) ?hqb7 ?sqb7 ?fqb7 ?zqb7 ?qqb7 ?yqb7 ?aqb7 ?rqb7
                  case hqb7 => (simp only [List.getElem?_toArray, List.getElem?_cons_succ, List.getElem?_cons_zero]; rfl)
                  case sqb7 => kernel_rfl
                  case fqb7 => kernel_rfl
                  case zqb7 => kernel_rfl
                  case qqb7 => exact fun _ _ _ h => h
                  case yqb7 => (refine Or.inl ⟨rfl, ?_⟩; intro w hSw; (try dsimp only at hSw); go_simp; try with_reducible rfl)
                  case aqb7 => assumption
                  case rqb7 =>
                  simp only [Act.put, List.setIfInBounds_toArray, List.set_cons_zero, List.set_cons_succ]
                  refine' wpAnyH_take (i := 8) (oi := ?oqb8) (v := ?vqb8) ?hqb8 ?sqb8 ?fqb8 ?zqb8 ?qqb8 ?yqb8 ?aqb8 ?rqb8
                  case hqb8 => (simp only [List.getElem?_toArray, List.getElem?_cons_succ, List.getElem?_cons_zero]; rfl)
                  case sqb8 => kernel_rfl
                  case fqb8 => kernel_rfl
                  case zqb8 => kernel_rfl
                  case qqb8 => exact fun _ _ _ h => h
                  case yqb8 => (refine Or.inl ⟨rfl, ?_⟩; intro w hSw; (try dsimp only at hSw); go_simp; try with_reducible rfl)
                  case aqb8 => assumption
                  case rqb8 =>
                  simp only [Act.put, List.setIfInBounds_toArray, List.set_cons_zero, List.set_cons_succ]
                  refine' wpAnyH_take (i := 9) (oi := ?oqb9) (v := ?vqb9) ?hqb9 ?sqb9 ?fqb9 ?zqb9 ?qqb9 ?yqb9 ?aqb9 ?rqb9
                  case hqb9 => (simp only [List.getElem?_toArray, List.getElem?_cons_succ, List.getElem?_cons_zero]; rfl)
                  case sqb9 => kernel_rfl
                  case fqb9 => kernel_rfl
                  case zqb9 => kernel_rfl
                  case qqb9 => exact fun _ _ _ h => h
                  case yqb9 => (refine Or.inl ⟨rfl, ?_⟩; intro w hSw; (try dsimp only at hSw); go_simp; try with_reducible rfl)
                  case aqb9 => assumption
                  case rqb9 =>
                  simp only [Act.put, List.setIfInBounds_toArray, List.set_cons_zero, List.set_cons_succ]
                  refine' wpAnyH_take (i := 10) (oi := ?oqb10) (v := ?vqb10) ?hqb10 ?sqb10 ?fqb10 ?zqb10 ?qqb10 ?yqb10 ?aqb10 ?rqb10
                  case hqb10 => (simp only [List.getElem?_toArray, List.getElem?_cons_succ, List.getElem?_cons_zero]; rfl)
                  case sqb10 => kernel_rfl
                  case fqb10 => kernel_rfl
                  case zqb10 => kernel_rfl
                  case qqb10 => exact fun _ _ _ h => h
                  case yqb10 => (refine Or.inl ⟨rfl, ?_⟩; intro w hSw; (try dsimp only at hSw); go_simp; try with_reducible rfl)
                  case aqb10 => assumption
                  case rqb10 =>
                  simp only [Act.put, List.setIfInBounds_toArray, List.set_cons_zero, List.set_cons_succ]
                  refine' wpAnyH_take (i := 11) (oi := ?oqb11) (v := ?vqb11) ?hqb11 ?sqb11 ?fqb11 ?zqb11 ?qqb11 ?yqb11 ?aqb11 ?rqb11
                  case hqb11 => (simp only [List.getElem?_toArray, List.getElem?_cons_succ, List.getElem?_cons_zero]; rfl)
                  case sqb11 => kernel_rfl
                  case fqb11 => kernel_rfl
                  case zqb11 => kernel_rfl
                  case qqb11 => exact fun _ _ _ h => h
                  case yqb11 => (refine Or.inl ⟨rfl, ?_⟩; intro w hSw; (try dsimp only at hSw); go_simp; try with_reducible rfl)
                  case aqb11 => assumption
                  case rqb11 =>
                  simp only [Act.put, List.setIfInBounds_toArray, List.set_cons_zero, List.set_cons_succ]
                  refine' wpAnyH_take (i := 12) (oi := ?oqb12) (v := ?vqb12) ?hqb12 ?sqb12 ?fqb12 ?zqb12 ?qqb12 ?yqb12 ?aqb12 ?rqb12
                  case hqb12 => (simp only [List.getElem?_toArray, List.getElem?_cons_succ, List.getElem?_cons_zero]; rfl)
                  case sqb12 => kernel_rfl
                  case fqb12 => kernel_rfl
                  case zqb12 => kernel_rfl
                  case qqb12 => exact fun _ _ _ h => h
                  case yqb12 => (refine Or.inl ⟨rfl, ?_⟩; intro w hSw; (try dsimp only at hSw); go_simp; try with_reducible rfl)
                  case aqb12 => assumption
                  case rqb12 =>
                  simp only [Act.put, List.setIfInBounds_toArray, List.set_cons_zero, List.set_cons_succ]
                  refine' wpAnyH_take (i := 13) (oi := ?oqb13) (v := ?vqb13) ?hqb13 ?sqb13 ?fqb13 ?zqb13 ?qqb13 ?yqb13 ?aqb13 ?rqb13
                  case hqb13 => (simp only [List.getElem?_toArray, List.getElem?_cons_succ, List.getElem?_cons_zero]; rfl)
                  case sqb13 => kernel_rfl
                  case fqb13 => kernel_rfl
                  case zqb13 => kernel_rfl
                  case qqb13 => exact fun _ _ _ h => h
                  case yqb13 => (refine Or.inl ⟨rfl, ?_⟩; intro w hSw; (try dsimp only at hSw); go_simp; try with_reducible rfl)
                  case aqb13 => assumption
                  case rqb13 =>
                  simp only [Act.put, List.setIfInBounds_toArray, List.set_cons_zero, List.set_cons_succ]
                  refine wpAnyH_ready (rs := [14]) (by kernel_rfl) (by simp) ?_
                  refine' AllReadyH.cons (o := ?oqb14) ?hqb14 ?kqb14 AllReadyH.nil
                  case hqb14 => (simp only [List.getElem?_toArray, List.getElem?_cons_succ, List.getElem?_cons_zero]; rfl)
                  case kqb14 =>
                  intro K hK
                  go_simp
                  go_at_call 27
                  refine HSm.out.mono ?_
                  rintro e w12 ⟨rfl, hX⟩
                  have S12 := Lib.hid (S9.out.drew.below hX)
                  have tC := F.out _ S12.out
                  clear hX
                  refine hK.out _ _ ?_ (fun hHeld => ?_)
                  · exact tC
                  clear hK K
                  (try simp only [Act.put, List.setIfInBounds_toArray, List.set_cons_zero, List.set_cons_succ])
                  refine' wpAnyH_take (i := 15) (oi := ?oqb15) (v := ?vqb15) ?hqb15 ?sqb15 ?fqb15 ?zqb15 ?qqb15 ?yqb15 ?aqb15 ?rqb15
                  case hqb15 => (simp only [List.getElem?_toArray, List.getElem?_cons_succ, List.getElem?_cons_zero]; rfl)
                  case sqb15 => kernel_rfl
                  case fqb15 => kernel_rfl
                  case zqb15 => kernel_rfl
                  case qqb15 => exact fun _ _ _ h => h
                  case yqb15 => (refine Or.inl ⟨rfl, ?_⟩; intro w hSw; (try dsimp only at hSw); go_simp; try with_reducible rfl)
                  case aqb15 => assumption
                  case rqb15 =>
                  simp only [Act.put, List.setIfInBounds_toArray, List.set_cons_zero, List.set_cons_succ]
                  refine' wpAnyH_take (i := 16) (oi := ?oqb16) (v := ?vqb16) ?hqb16 ?sqb16 ?fqb16 ?zqb16 ?qqb16 ?yqb16 ?aqb16 ?rqb16
                  case hqb16 => (simp only [List.getElem?_toArray, List.getElem?_cons_succ, List.getElem?_cons_zero]; rfl)
                  case sqb16 => kernel_rfl
                  case fqb16 => kernel_rfl
                  case zqb16 => kernel_rfl
                  case qqb16 => exact fun _ _ _ h => h
                  case yqb16 => (refine Or.inl ⟨rfl, ?_⟩; intro w hSw; (try dsimp only at hSw); go_simp; try with_reducible rfl)
                  case aqb16 => assumption
                  case rqb16 =>
                  simp only [Act.put, List.setIfInBounds_toArray, List.set_cons_zero, List.set_cons_succ]
                  refine' wpAnyH_take (i := 17) (oi := ?oqb17) (v := ?vqb17) ?hqb17 ?sqb17 ?fqb17 ?zqb17 ?qqb17 ?yqb17 ?aqb17 ?rqb17
                  case hqb17 => (simp only [List.getElem?_toArray, List.getElem?_cons_succ, List.getElem?_cons_zero]; rfl)
                  case sqb17 => kernel_rfl
                  case fqb17 => kernel_rfl
                  case zqb17 => kernel_rfl
                  case qqb17 => exact fun _ _ _ h => h
                  case yqb17 => (refine Or.inl ⟨rfl, ?_⟩; intro w hSw; (try dsimp only at hSw); go_simp; try with_reducible rfl)
                  case aqb17 => assumption
                  case rqb17 =>
                  simp only [Act.put, List.setIfInBounds_toArray, List.set_cons_zero, List.set_cons_succ]
                  refine' wpAnyH_take (i := 18) (oi := ?oqb18) (v := ?vqb18) ?hqb18 ?sqb18 ?fqb18 ?zqb18 ?qqb18 ?yqb18 ?aqb18 ?rqb18
                  case hqb18 => (simp only [List.getElem?_toArray, List.getElem?_cons_succ, List.getElem?_cons_zero]; rfl)
                  case sqb18 => kernel_rfl
                  case fqb18 => kernel_rfl
                  case zqb18 => kernel_rfl
                  case qqb18 => exact fun _ _ _ h => h
                  case yqb18 => (refine Or.inl ⟨rfl, ?_⟩; intro w hSw; (try dsimp only at hSw); go_simp; try with_reducible rfl)
                  case aqb18 => assumption
                  case rqb18 =>
                  simp only [Act.put, List.setIfInBounds_toArray, List.set_cons_zero, List.set_cons_succ]
                  refine' wpAnyH_take (i := 19) (oi := ?oqb19) (v := ?vqb19) ?hqb19 ?sqb19 ?fqb19 ?zqb19 ?qqb19 ?yqb19 ?aqb19 ?rqb19
                  case hqb19 => (simp only [List.getElem?_toArray, List.getElem?_cons_succ, List.getElem?_cons_zero]; rfl)
                  case sqb19 => kernel_rfl
                  case fqb19 => kernel_rfl
                  case zqb19 => kernel_rfl
                  case qqb19 => exact fun _ _ _ h => h
                  case yqb19 => (refine Or.inl ⟨rfl, ?_⟩; intro w hSw; (try dsimp only at hSw); go_simp; try with_reducible rfl)
                  case aqb19 => assumption
                  case rqb19 =>
                  simp only [Act.put, List.setIfInBounds_toArray, List.set_cons_zero, List.set_cons_succ]
                  refine' wpAnyH_take (i := 20) (oi := ?oqb20) (v := ?vqb20) ?hqb20 ?sqb20 ?fqb20 ?zqb20 ?qqb20 ?yqb20 ?aqb20 ?rqb20
                  case hqb20 => (simp only [List.getElem?_toArray, List.getElem?_cons_succ, List.getElem?_cons_zero]; rfl)
                  case sqb20 => kernel_rfl
                  case fqb20 => kernel_rfl
                  case zqb20 => kernel_rfl
                  case qqb20 => exact fun _ _ _ h => h
                  case yqb20 => (refine Or.inl ⟨rfl, ?_⟩; intro w hSw; (try dsimp only at hSw); go_simp; try with_reducible rfl)
                  case aqb20 => assumption
                  case rqb20 =>
                  simp only [Act.put, List.setIfInBounds_toArray, List.set_cons_zero, List.set_cons_succ]
                  refine' wpAnyH_take (i := 21) (oi := ?oqb21) (v := ?vqb21) ?hqb21 ?sqb21 ?fqb21 ?zqb21 ?qqb21 ?yqb21 ?aqb21 ?rqb21
                  case hqb21 => (simp only [List.getElem?_toArray, List.getElem?_cons_succ, List.getElem?_cons_zero]; rfl)
                  case sqb21 => kernel_rfl
                  case fqb21 => kernel_rfl
                  case zqb21 => kernel_rfl
                  case qqb21 => exact fun _ _ _ h => h
                  case yqb21 => (refine Or.inl ⟨rfl, ?_⟩; intro w hSw; (try dsimp only at hSw); go_simp; try with_reducible rfl)
                  case aqb21 => assumption
                  case rqb21 =>
                  simp only [Act.put, List.setIfInBounds_toArray, List.set_cons_zero, List.set_cons_succ]
                  refine' wpAnyH_take (i := 22) (oi := ?oqb22) (v := ?vqb22) ?hqb22 ?sqb22 ?fqb22 ?zqb22 ?qqb22 ?yqb22 ?aqb22 ?rqb22
                  case hqb22 => (simp only [List.getElem?_toArray, List.getElem?_cons_succ, List.getElem?_cons_zero]; rfl)
                  case sqb22 => kernel_rfl
                  case fqb22 => kernel_rfl
                  case zqb22 => kernel_rfl
                  case qqb22 => exact fun _ _ _ h => h
                  case yqb22 => (refine Or.inl ⟨rfl, ?_⟩; intro w hSw; (try dsimp only at hSw); go_simp; try with_reducible rfl)
                  case aqb22 => assumption
                  case rqb22 =>
                  simp only [Act.put, List.setIfInBounds_toArray, List.set_cons_zero, List.set_cons_succ]
                  refine' wpAnyH_take (i := 23) (oi := ?oqb23) (v := ?vqb23) ?hqb23 ?sqb23 ?fqb23 ?zqb23 ?qqb23 ?yqb23 ?aqb23 ?rqb23
                  case hqb23 => (simp only [List.getElem?_toArray, List.getElem?_cons_succ, List.getElem?_cons_zero]; rfl)
                  case sqb23 => kernel_rfl
                  case fqb23 => kernel_rfl
                  case zqb23 => kernel_rfl
                  case qqb23 => exact fun _ _ _ h => h
                  case yqb23 => (refine Or.inl ⟨rfl, ?_⟩; intro w hSw; (try dsimp only at hSw); go_simp; try with_reducible rfl)
                  case aqb23 => assumption
                  case rqb23 =>
                  simp only [Act.put, List.setIfInBounds_toArray, List.set_cons_zero, List.set_cons_succ]
                  refine' wpAnyH_take (i := 24) (oi := ?oqb24) (v := ?vqb24) ?hqb24 ?sqb24 ?fqb24 ?zqb24 ?qqb24 ?yqb24 ?aqb24 ?rqb24
                  case hqb24 => (simp only [List.getElem?_toArray, List.getElem?_cons_succ, List.getElem?_cons_zero]; rfl)
                  case sqb24 => kernel_rfl
                  case fqb24 => kernel_rfl
                  case zqb24 => kernel_rfl
                  case qqb24 => exact fun _ _ _ h => h
                  case yqb24 => (refine Or.inl ⟨rfl, ?_⟩; intro w hSw; (try dsimp only at hSw); go_simp; try with_reducible rfl)
                  case aqb24 => assumption
                  case rqb24 =>
                  simp only [Act.put, List.setIfInBounds_toArray, List.set_cons_zero, List.set_cons_succ]
                  refine' wpAnyH_take (i := 25) (oi := ?oqb25) (v := undef) ?hqb25 ?sqb25 ?fqb25 ?zqb25 ?qqb25 ?yqb25 ?aqb25 ?rqb25
                  case hqb25 => (simp only [List.getElem?_toArray, List.getElem?_cons_succ, List.getElem?_cons_zero]; rfl)
                  case sqb25 => kernel_rfl
                  case fqb25 => kernel_rfl
                  case zqb25 => kernel_rfl
                  case qqb25 => exact fun _ _ _ h => h
                  case yqb25 => exact Or.inr ⟨rfl, rfl⟩
                  case aqb25 => assumption
                  case rqb25 =>
                  simp only [Act.put, List.setIfInBounds_toArray, List.set_cons_zero, List.set_cons_succ]
                  refine' wpAnyH_take (i := 26) (oi := ?oqb26) (v := undef) ?hqb26 ?sqb26 ?fqb26 ?zqb26 ?qqb26 ?yqb26 ?aqb26 ?rqb26
                  case hqb26 => (simp only [List.getElem?_toArray, List.getElem?_cons_succ, List.getElem?_cons_zero]; rfl)
                  case sqb26 => kernel_rfl
                  case fqb26 => kernel_rfl
                  case zqb26 => kernel_rfl
                  case qqb26 => exact fun _ _ _ h => h
                  case yqb26 => exact Or.inr ⟨rfl, rfl⟩
                  case aqb26 => assumption
                  case rqb26 =>
                  simp only [Act.put, List.setIfInBounds_toArray, List.set_cons_zero, List.set_cons_succ]
                  refine' wpAnyH_take (i := 27) (oi := ?oqb27) (v := undef) ?hqb27 ?sqb27 ?fqb27 ?zqb27 ?qqb27 ?yqb27 ?aqb27 ?rqb27
                  case hqb27 => (simp only [List.getElem?_toArray, List.getElem?_cons_succ, List.getElem?_cons_zero]; rfl)
                  case sqb27 => kernel_rfl
                  case fqb27 => kernel_rfl
                  case zqb27 => kernel_rfl
                  case qqb27 => exact fun _ _ _ h => h
                  case yqb27 => exact Or.inr ⟨rfl, rfl⟩
                  case aqb27 => assumption
                  case rqb27 =>
                  simp only [Act.put, List.setIfInBounds_toArray, List.set_cons_zero, List.set_cons_succ]
                  refine' wpAnyH_take (i := 28) (oi := ?oqb28) (v := undef) ?hqb28 ?sqb28 ?fqb28 ?zqb28 ?qqb28 ?yqb28 ?aqb28 ?rqb28
                  case hqb28 => (simp only [List.getElem?_toArray, List.getElem?_cons_succ, List.getElem?_cons_zero]; rfl)
                  case sqb28 => kernel_rfl
                  case fqb28 => kernel_rfl
                  case zqb28 => kernel_rfl
                  case qqb28 => exact fun _ _ _ h => h
                  case yqb28 => exact Or.inr ⟨rfl, rfl⟩
                  case aqb28 => assumption
                  case rqb28 =>
                  simp only [Act.put, List.setIfInBounds_toArray, List.set_cons_zero, List.set_cons_succ]
                  refine' wpAnyH_take (i := 29) (oi := ?oqb29) (v := undef) ?hqb29 ?sqb29 ?fqb29 ?zqb29 ?qqb29 ?yqb29 ?aqb29 ?rqb29
                  case hqb29 => (simp only [List.getElem?_toArray, List.getElem?_cons_succ, List.getElem?_cons_zero]; rfl)
                  case sqb29 => kernel_rfl
                  case fqb29 => kernel_rfl
                  case zqb29 => kernel_rfl
                  case qqb29 => exact fun _ _ _ h => h
                  case yqb29 => exact Or.inr ⟨rfl, rfl⟩
                  case aqb29 => assumption
                  case rqb29 =>
                  simp only [Act.put, List.setIfInBounds_toArray, List.set_cons_zero, List.set_cons_succ]
                  refine' wpAnyH_take (i := 30) (oi := ?oqb30) (v := undef) ?hqb30 ?sqb30 ?fqb30 ?zqb30 ?qqb30 ?yqb30 ?aqb30 ?rqb30
                  case hqb30 => (simp only [List.getElem?_toArray, List.getElem?_cons_succ, List.getElem?_cons_zero]; rfl)
                  case sqb30 => kernel_rfl
                  case fqb30 => kernel_rfl
                  case zqb30 => kernel_rfl
                  case qqb30 => exact fun _ _ _ h => h
                  case yqb30 => exact Or.inr ⟨rfl, rfl⟩
                  case aqb30 => assumption
                  case rqb30 =>
                  simp only [Act.put, List.setIfInBounds_toArray, List.set_cons_zero, List.set_cons_succ]
                  refine' wpAnyH_take (i := 31) (oi := ?oqb31) (v := undef) ?hqb31 ?sqb31 ?fqb31 ?zqb31 ?qqb31 ?yqb31 ?aqb31 ?rqb31
                  case hqb31 => (simp only [List.getElem?_toArray, List.getElem?_cons_succ, List.getElem?_cons_zero]; rfl)
                  case sqb31 => kernel_rfl
                  case fqb31 => kernel_rfl
                  case zqb31 => kernel_rfl
                  case qqb31 => exact fun _ _ _ h => h
                  case yqb31 => exact Or.inr ⟨rfl, rfl⟩
                  case aqb31 => assumption
                  case rqb31 =>
                  simp only [Act.put, List.setIfInBounds_toArray, List.set_cons_zero, List.set_cons_succ]
                  refine' wpAnyH_take (i := 32) (oi := ?oqb32) (v := undef) ?hqb32 ?sqb32 ?fqb32 ?zqb32 ?qqb32 ?yqb32 ?aqb32 ?rqb32
                  case hqb32 => (simp only [List.getElem?_toArray, List.getElem?_cons_succ, List.getElem?_cons_zero]; rfl)
                  case sqb32 => kernel_rfl
                  case fqb32 => kernel_rfl
                  case zqb32 => kernel_rfl
                  case qqb32 => exact fun _ _ _ h => h
                  case yqb32 => exact Or.inr ⟨rfl, rfl⟩
                  case aqb32 => assumption
                  case rqb32 =>
                  simp only [Act.put, List.setIfInBounds_toArray, List.set_cons_zero, List.set_cons_succ]
                  refine' wpAnyH_take (i := 33) (oi := ?oqb33) (v := undef) ?hqb33 ?sqb33 ?fqb33 ?zqb33 ?qqb33 ?yqb33 ?aqb33 ?rqb33
                  case hqb33 => (simp only [List.getElem?_toArray, List.getElem?_cons_succ, List.getElem?_cons_zero]; rfl)
                  case sqb33 => kernel_rfl
                  case fqb33 => kernel_rfl
                  case zqb33 => kernel_rfl
                  case qqb33 => exact fun _ _ _ h => h
                  case yqb33 => exact Or.inr ⟨rfl, rfl⟩
                  case aqb33 => assumption
                  case rqb33 =>
                  simp only [Act.put, List.setIfInBounds_toArray, List.set_cons_zero, List.set_cons_succ]
                  refine' wpAnyH_take (i := 34) (oi := ?oqb34) (v := undef) ?hqb34 ?sqb34 ?fqb34 ?zqb34 ?qqb34 ?yqb34 ?aqb34 ?rqb34
                  case hqb34 => (simp only [List.getElem?_toArray, List.getElem?_cons_succ, List.getElem?_cons_zero]; rfl)
                  case sqb34 => kernel_rfl
                  case fqb34 => kernel_rfl
                  case zqb34 => kernel_rfl
                  case qqb34 => exact fun _ _ _ h => h
                  case yqb34 => exact Or.inr ⟨rfl, rfl⟩
                  case aqb34 => assumption
                  case rqb34 =>
                  simp only [Act.put, List.setIfInBounds_toArray, List.set_cons_zero, List.set_cons_succ]
                  refine' wpAnyH_take (i := 35) (oi := ?oqb35) (v := undef) ?hqb35 ?sqb35 ?fqb35 ?zqb35 ?qqb35 ?yqb35 ?aqb35 ?rqb35
                  case hqb35 => (simp only [List.getElem?_toArray, List.getElem?_cons_succ, List.getElem?_cons_zero]; rfl)
                  case sqb35 => kernel_rfl
                  case fqb35 => kernel_rfl
                  case zqb35 => kernel_rfl
                  case qqb35 => exact fun _ _ _ h => h
                  case yqb35 => exact Or.inr ⟨rfl, rfl⟩
                  case aqb35 => assumption
                  case rqb35 =>
                  simp only [Act.put, List.setIfInBounds_toArray, List.set_cons_zero, List.set_cons_succ]
                  refine' wpAnyH_take (i := 36) (oi := ?oqb36) (v := undef) ?hqb36 ?sqb36 ?fqb36 ?zqb36 ?qqb36 ?yqb36 ?aqb36 ?rqb36
                  case hqb36 => (simp only [List.getElem?_toArray, List.getElem?_cons_succ, List.getElem?_cons_zero]; rfl)
                  case sqb36 => kernel_rfl
                  case fqb36 => kernel_rfl
                  case zqb36 => kernel_rfl
                  case qqb36 => exact fun _ _ _ h => h
                  case yqb36 => exact Or.inr ⟨rfl, rfl⟩
                  case aqb36 => assumption
                  case rqb36 =>
                  simp only [Act.put, List.setIfInBounds_toArray, List.set_cons_zero, List.set_cons_succ]
                  refine' wpAnyH_take (i := 37) (oi := ?oqb37) (v := undef) ?hqb37 ?sqb37 ?fqb37 ?zqb37 ?qqb37 ?yqb37 ?aqb37 ?rqb37
                  case hqb37 => (simp only [List.getElem?_toArray, List.getElem?_cons_succ, List.getElem?_cons_zero]; rfl)
                  case sqb37 => kernel_rfl
                  case fqb37 => kernel_rfl
                  case zqb37 => kernel_rfl
                  case qqb37 => exact fun _ _ _ h => h
                  case yqb37 => exact Or.inr ⟨rfl, rfl⟩
                  case aqb37 => assumption
                  case rqb37 =>
                  simp only [Act.put, List.setIfInBounds_toArray, List.set_cons_zero, List.set_cons_succ]
                  refine' wpAnyH_take (i := 38) (oi := ?oqb38) (v := undef) ?hqb38 ?sqb38 ?fqb38 ?zqb38 ?qqb38 ?yqb38 ?aqb38 ?rqb38
                  case hqb38 => (simp only [List.getElem?_toArray, List.getElem?_cons_succ, List.getElem?_cons_zero]; rfl)
                  case sqb38 => kernel_rfl
                  case fqb38 => kernel_rfl
                  case zqb38 => kernel_rfl
                  case qqb38 => exact fun _ _ _ h => h
                  case yqb38 => exact Or.inr ⟨rfl, rfl⟩
                  case aqb38 => assumption
                  case rqb38 =>
                  simp only [Act.put, List.setIfInBounds_toArray, List.set_cons_zero, List.set_cons_succ]
                  refine' wpAnyH_take (i := 39) (oi := ?oqb39) (v := undef) ?hqb39 ?sqb39 ?fqb39 ?zqb39 ?qqb39 ?yqb39 ?aqb39 ?rqb39
                  case hqb39 => (simp only [List.getElem?_toArray, List.getElem?_cons_succ, List.getElem?_cons_zero]; rfl)
                  case sqb39 => kernel_rfl
                  case fqb39 => kernel_rfl
                  case zqb39 => kernel_rfl
                  case qqb39 => exact fun _ _ _ h => h
                  case yqb39 => exact Or.inr ⟨rfl, rfl⟩
                  case aqb39 => assumption
                  case rqb39 =>
                  simp only [Act.put, List.setIfInBounds_toArray, List.set_cons_zero, List.set_cons_succ]
                  refine' wpAnyH_take (i := 40) (oi := ?oqb40) (v := undef) ?hqb40 ?sqb40 ?fqb40 ?zqb40 ?qqb40 ?yqb40 ?aqb40 ?rqb40
                  case hqb40 => (simp only [List.getElem?_toArray, List.getElem?_cons_succ, List.getElem?_cons_zero]; rfl)
                  case sqb40 => kernel_rfl
                  case fqb40 => kernel_rfl
                  case zqb40 => kernel_rfl
                  case qqb40 => exact fun _ _ _ h => h
                  case yqb40 => exact Or.inr ⟨rfl, rfl⟩
                  case aqb40 => assumption
                  case rqb40 =>
                  simp only [Act.put, List.setIfInBounds_toArray, List.set_cons_zero, List.set_cons_succ]
                  refine' wpAnyH_take (i := 41) (oi := ?oqb41) (v := undef) ?hqb41 ?sqb41 ?fqb41 ?zqb41 ?qqb41 ?yqb41 ?aqb41 ?rqb41
                  case hqb41 => (simp only [List.getElem?_toArray, List.getElem?_cons_succ, List.getElem?_cons_zero]; rfl)
                  case sqb41 => kernel_rfl
                  case fqb41 => kernel_rfl
                  case zqb41 => kernel_rfl
                  case qqb41 => exact fun _ _ _ h => h
                  case yqb41 => exact Or.inr ⟨rfl, rfl⟩
                  case aqb41 => assumption
                  case rqb41 =>
                  simp only [Act.put, List.setIfInBounds_toArray, List.set_cons_zero, List.set_cons_succ]
                  refine' wpAnyH_take (i := 42) (oi := ?oqb42) (v := undef) ?hqb42 ?sqb42 ?fqb42 ?zqb42 ?qqb42 ?yqb42 ?aqb42 ?rqb42
                  case hqb42 => (simp only [List.getElem?_toArray, List.getElem?_cons_succ, List.getElem?_cons_zero]; rfl)
                  case sqb42 => kernel_rfl
                  case fqb42 => kernel_rfl
                  case zqb42 => kernel_rfl
                  case qqb42 => exact fun _ _ _ h => h
                  case yqb42 => exact Or.inr ⟨rfl, rfl⟩
                  case aqb42 => assumption
                  case rqb42 =>
                  simp only [Act.put, List.setIfInBounds_toArray, List.set_cons_zero, List.set_cons_succ]
                  refine' wpAnyH_take (i := 43) (oi := ?oqb43) (v := undef) ?hqb43 ?sqb43 ?fqb43 ?zqb43 ?qqb43 ?yqb43 ?aqb43 ?rqb43
                  case hqb43 => (simp only [List.getElem?_toArray, List.getElem?_cons_succ, List.getElem?_cons_zero]; rfl)
                  case sqb43 => kernel_rfl
                  case fqb43 => kernel_rfl
                  case zqb43 => kernel_rfl
                  case qqb43 => exact fun _ _ _ h => h
                  case yqb43 => exact Or.inr ⟨rfl, rfl⟩
                  case aqb43 => assumption
                  case rqb43 =>
                  simp only [Act.put, List.setIfInBounds_toArray, List.set_cons_zero, List.set_cons_succ]
                  refine' wpAnyH_take (i := 44) (oi := ?oqb44) (v := ?vqb44) ?hqb44 ?sqb44 ?fqb44 ?zqb44 ?qqb44 ?yqb44 ?aqb44 ?rqb44
                  case hqb44 => (simp only [List.getElem?_toArray, List.getElem?_cons_succ, List.getElem?_cons_zero]; rfl)
                  case sqb44 => kernel_rfl
                  case fqb44 => kernel_rfl
                  case zqb44 => kernel_rfl
                  case qqb44 => exact fun _ _ _ h => h
                  case yqb44 => (refine Or.inl ⟨rfl, ?_⟩; intro w hSw; (try dsimp only at hSw); go_simp; try with_reducible rfl)
                  case aqb44 => assumption
                  case rqb44 =>
                  simp only [Act.put, List.setIfInBounds_toArray, List.set_cons_zero, List.set_cons_succ]
                  refine' wpAnyH_take (i := 45) (oi := ?oqb45) (v := ?vqb45) ?hqb45 ?sqb45 ?fqb45 ?zqb45 ?qqb45 ?yqb45 ?aqb45 ?rqb45
                  case hqb45 => (simp only [List.getElem?_toArray, List.getElem?_cons_succ, List.getElem?_cons_zero]; rfl)
                  case sqb45 => kernel_rfl
                  case fqb45 => kernel_rfl
                  case zqb45 => kernel_rfl
                  case qqb45 => exact fun _ _ _ h => h
                  case yqb45 => (refine Or.inl ⟨rfl, ?_⟩; intro w hSw; (try dsimp only at hSw); go_simp; try with_reducible rfl)
                  case aqb45 => assumption
                  case rqb45 =>
                  simp only [Act.put, List.setIfInBounds_toArray, List.set_cons_zero, List.set_cons_succ]
                  refine wpAnyH_done (by kernel_rfl) ?_ _
                  have S13 : Hid (Own w No w12 (aTr g2 y.gd y.gl hv3 (.slice none 0 0) (lst (put h2 j (some ⟨j, now j, lv3⟩)) k) (lst (fun _ => none) k) * (Sl.aDk y.gd y.m y.b k P2 * (Mn.aMn y.m ⟨true, -1, 2⟩ * (Asn.vec 3 1 (.slice (some ⟨gf, 0, none⟩) k k) k (fs k (fF s.d)) * (Asn.vec 31 7 (.slice (some ⟨gn, 0, none⟩) k k) k (nws k now nv) * Z2)))))) := Lib.hid ((S12.out.re (show _ = (Asn.blk g17 31 #[.int .i64 (now j).tree, .int .i64 (now j).level, .int .i64 (now j).stamp, .bool (now j).has, .string (ofL (now j).high), .int .i64 (now j).right, .slice AV (now j).list.length cV] * aEnts (now j) (.slice AV (now j).list.length cV)) * (aTr g2 y.gd y.gl hv3 (.slice none 0 0) (lst (put h2 j (some ⟨j, now j, lv3⟩)) k) (lst (fun _ => none) k) * (Sl.aDk y.gd y.m y.b k P2 * (Mn.aMn y.m ⟨true, -1, 2⟩ * (Asn.vec 3 1 (.slice (some ⟨gf, 0, none⟩) k k) k (fs k (fF s.d)) * (Asn.vec 31 7 (.slice (some ⟨gn, 0, none⟩) k k) k (nws k now nv) * Z2))))) by ac_rfl)).right)
                  clear S12 S9 F tA tC HSm hnvj hdj hfz
                  clear hHeld
                  clear hHeld
                  go_wp2_with fail
                  go_roundw
                  case rel => exact ⟨j + 1, hv3, _, by go_num, by omega, HO3, HN3, S13⟩
                  case measure => simp [intOf]; omega
                | some yj =>
                  obtain ⟨q1', q2', q3'⟩ := hd1 yj hdj
                  have hfz : fF s.d j = (yj.first : Int) := by unfold fF; rw [hdj]
                  rw [hfz, hnvj] at F
                  obtain ⟨r0, r1, r2, r3, r4, r5, r6, r7, r8, r9, r10, r11, r12, r13, r14⟩ := F.out _ S9.out
                  have z1 : ((yj.first : Int) == 0) = false := beq_eq_false_iff_ne.2 (by omega)
                  have z2 : decide ((0 : Int) < yj.first) = true := decide_eq_true (by omega)
                  have z3 : decide ((yj.first : Int) ≤ n0.stamp) = false := decide_eq_false (by omega)
                  have z4 : decide ((now j).stamp < (yj.first : Int)) = false := decide_eq_false (by omega)
                  clear hd0 hd1 hc0 hs0 hg1 hdj hfz
                  have S13 : Hid (Own w No w11 (aTr g2 y.gd y.gl hv3 (.slice none 0 0) (lst (put h2 j (some ⟨j, n0, lv3⟩)) k) (lst (fun _ => none) k) * (Sl.aDk y.gd y.m y.b k P2 * (Mn.aMn y.m ⟨true, -1, 2⟩ * (Asn.vec 3 1 (.slice (some ⟨gf, 0, none⟩) k k) k (fs k (fF s.d)) * (Asn.vec 31 7 (.slice (some ⟨gn, 0, none⟩) k k) k (nws k now nv) * Z2)))))) := Lib.hid ((S9.out.re (show _ = (Asn.blk g17 31 #[.int .i64 n0.tree, .int .i64 n0.level, .int .i64 n0.stamp, .bool n0.has, .string (ofL n0.high), .int .i64 n0.right, .slice AV n0.list.length cV] * aEnts n0 (.slice AV n0.list.length cV)) * (aTr g2 y.gd y.gl hv3 (.slice none 0 0) (lst (put h2 j (some ⟨j, n0, lv3⟩)) k) (lst (fun _ => none) k) * (Sl.aDk y.gd y.m y.b k P2 * (Mn.aMn y.m ⟨true, -1, 2⟩ * (Asn.vec 3 1 (.slice (some ⟨gf, 0, none⟩) k k) k (fs k (fF s.d)) * (Asn.vec 31 7 (.slice (some ⟨gn, 0, none⟩) k k) k (nws k now nv) * Z2))))) by ac_rfl)).right)
                  clear S9 F
                  go_quiet (fail)
                  have S14 := Lib.hid (S13.out.drewN nq)
                  clear S13 r0 r1 r2 r3 r4 r5 r6 r7 r8 r9 r10 r11 r12 r13 r14
                  go_wp2_with fail
                  go_roundw
                  case rel => exact ⟨j + 1, hv3, _, by go_num, by omega, HO3, HN3, S14⟩
                  case measure => simp [intOf]; omega
              · obtain rfl : j = k := by omega
                have HDl := Lib.hid (Dirty_any g2 y.gd y.gl hv2 (.slice none 0 0) (lst h2 j) (lst (fun _ => none) j) w _ _ (by rw [lst_empty]; decide) S8.out)
                rw [lst_empty] at HDl
                unfold tPtr at HDl
                go_wp2_with fail
                refine HDl.out.mono ?_
                rintro e w10 ⟨p10, rfl, hX⟩
                obtain ⟨A10, m10, rfl⟩ := hX.vec.slice
                have B10 := Lib.hid hX.bel
                clear hX S8 HDl
                go_wp2_with fail
                go_returns
                exact ⟨rfl, B10.out⟩
end Go.Proofs.YtmnfoafpjmlbfaaGreatDoor.Tr
