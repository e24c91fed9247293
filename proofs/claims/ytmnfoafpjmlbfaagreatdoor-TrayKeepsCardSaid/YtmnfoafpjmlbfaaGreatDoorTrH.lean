/- TrayKeeps, walked. -/
import Derived.Test.YtmnfoafpjmlbfaaGreatDoorTrF
import Derived.Test.YtmnfoafpjmlbfaaGreatDoorTrK
import Derived.Test.YtmnfoafpjmlbfaaGreatDoorTrG
import Derived.Test.YtmnfoafpjmlbfaaGreatDoorNdM
namespace Go.Proofs.YtmnfoafpjmlbfaaGreatDoor.Tr
open Go.ChangeShapes Go.WideShapes Go.ChangeAt Go.RowKit Go.PlainAid Aid Nt Nd Cr
set_option linter.unusedVariables false
set_option linter.unusedSimpArgs false
set_option linter.unusedSectionVars false
/-- Nodes in a row, each with the value that is its list. -/
def nws (k : Nat) (now : Nat → Nod) (nv : Nat → Value) : List Value := (List.range k).flatMap fun p => (nodCells (now p) (nv p)).toList
theorem range_split (p n : Nat) (hp : p < n) : List.range n = List.range p ++ (p :: List.range' (p + 1) (n - (p + 1))) := by
  rw [List.range_eq_range', List.range_eq_range', ← List.range'_succ, show n - (p + 1) + 1 = n - p by omega]
  have := List.range'_append (s := 0) (m := p) (n := n - p) (step := 1)
  rw [show p + (n - p) = n by omega] at this
  simpa using this.symm
theorem flat7_len (l : List Nat) (f : Nat → List Value) (hf : ∀ p, (f p).length = 7) : (l.flatMap f).length = l.length * 7 := by
  induction l with
  | nil => rfl
  | cons a l ih => rw [List.flatMap_cons, List.length_append, ih, hf, List.length_cons]; omega
theorem nws_len (k : Nat) (now : Nat → Nod) (nv : Nat → Value) : (nws k now nv).length = k * 7 := by unfold nws; rw [flat7_len _ _ (fun _ => rfl), List.length_range]
theorem nws_at (k : Nat) (now : Nat → Nod) (nv : Nat → Value) (p j : Nat) (hp : p < k) (hj : j < 7) : (nws k now nv)[p * 7 + j]? = (nodCells (now p) (nv p))[j]? := by
  unfold nws
  rw [flatMap_at _ 7 (fun _ => rfl) (List.range k) p j p (by rw [List.getElem?_range hp]) hj, Array.getElem?_toList]
theorem flat_same (l : List Nat) (f g : Nat → List Value) (h : ∀ p, p ∈ l → f p = g p) : l.flatMap f = l.flatMap g := by
  induction l with
  | nil => rfl
  | cons a l ih => rw [List.flatMap_cons, List.flatMap_cons, h a (List.mem_cons_self ..), ih (fun p hp => h p (List.mem_cons_of_mem _ hp))]
theorem nws_set (k : Nat) (now : Nat → Nod) (nv : Nat → Value) (p : Nat) (hp : p < k) (nd : Nod) (v : Value) :
    (nws k now nv).take (p * 7) ++ (nodCells nd v).toList ++ (nws k now nv).drop (p * 7 + 7) = nws k (Sl.upd now p nd) (Sl.upd nv p v) := by
  unfold nws
  rw [range_split p k hp, List.flatMap_append, List.flatMap_cons, List.flatMap_append, List.flatMap_cons]
  have hl : ((List.range p).flatMap fun p => (nodCells (now p) (nv p)).toList).length = p * 7 := by rw [flat7_len _ _ (fun _ => rfl), List.length_range]
  rw [← hl, List.take_left, List.drop_length_add_append, Sl.upd_same, Sl.upd_same]
  rw [show ((nodCells (now p) (nv p)).toList ++ (List.range' (p + 1) (k - (p + 1))).flatMap fun p => (nodCells (now p) (nv p)).toList).drop 7 = (List.range' (p + 1) (k - (p + 1))).flatMap fun p => (nodCells (now p) (nv p)).toList from rfl, List.append_assoc]
  congr 1
  · exact flat_same _ _ _ fun q hq => by
      have : q ≠ p := by have := List.mem_range.1 hq; omega
      rw [Sl.upd_other _ _ _ _ this, Sl.upd_other _ _ _ _ this]
  · congr 1
    exact flat_same _ _ _ fun q hq => by
      have : q ≠ p := by have := List.mem_range'_1.1 hq; omega
      rw [Sl.upd_other _ _ _ _ this, Sl.upd_other _ _ _ _ this]
theorem nws_stamp (k : Nat) (now : Nat → Nod) (nv : Nat → Value) (p : Nat) (hp : p < k) (st : Int) : (nws k now nv).set (p * 7 + 2) (.int .i64 st) = nws k (Sl.upd now p (restamp (now p) st)) nv := by
  apply List.ext_getElem?
  intro i
  rw [List.getElem?_set]
  by_cases hi : i < k * 7
  · have h1 := nws_at k now nv (i / 7) (i % 7) (by omega) (Nat.mod_lt _ (by decide))
    have h2 := nws_at k (Sl.upd now p (restamp (now p) st)) nv (i / 7) (i % 7) (by omega) (Nat.mod_lt _ (by decide))
    rw [show i / 7 * 7 + i % 7 = i by omega] at h1 h2
    rw [h2]
    by_cases hq : i / 7 = p
    · rw [hq] at h1 ⊢
      rw [Sl.upd_same]
      by_cases h0 : p * 7 + 2 = i
      · rw [if_pos h0, if_pos (by rw [nws_len]; omega), show i % 7 = 2 by omega]; rfl
      · rw [if_neg h0, h1]
        have h7 : i % 7 < 7 := Nat.mod_lt _ (by decide)
        have h8 : i % 7 ≠ 2 := by omega
        generalize i % 7 = j at *
        match j, h7, h8 with
        | 0, _, _ => rfl
        | 1, _, _ => rfl
        | 3, _, _ => rfl
        | 4, _, _ => rfl
        | 5, _, _ => rfl
        | 6, _, _ => rfl
    · rw [Sl.upd_other _ _ _ _ hq, if_neg (by omega), h1]
  · rw [if_neg (by omega), List.getElem?_eq_none (by rw [nws_len]; omega), List.getElem?_eq_none (by rw [nws_len]; omega)]
theorem upd_upd {α : Type} (P : Nat → α) (p : Nat) (a b : α) : Sl.upd (Sl.upd P p a) p b = Sl.upd P p b := by
  funext q
  unfold Sl.upd
  split <;> rfl
/-- Numbers in a row. -/
def fs (k : Nat) (f : Nat → Int) : List Value := (List.range k).map fun p => .int .i64 (f p)
theorem fs_len (k : Nat) (f : Nat → Int) : (fs k f).length = k * 1 := by simp [fs]
theorem fs_at (k : Nat) (f : Nat → Int) (p : Nat) (hp : p < k) : (fs k f)[p]? = some (.int .i64 (f p)) := by
  unfold fs; rw [List.getElem?_map, List.getElem?_range hp]; rfl
theorem fs_congr (k : Nat) (f g : Nat → Int) (h : ∀ p, p < k → f p = g p) : fs k f = fs k g := by
  unfold fs; exact List.map_congr_left fun p hp => by rw [h p (List.mem_range.1 hp)]
theorem fs_set (k : Nat) (f : Nat → Int) (q : Nat) (v : Int) : (fs k f).set q (.int .i64 v) = fs k (Sl.upd f q v) := by
  apply List.ext_getElem?
  intro i
  rw [List.getElem?_set]
  by_cases hi : i < k
  · rw [fs_at k _ i hi, fs_at k _ i hi]
    by_cases hq : q = i
    · subst hq; rw [if_pos rfl, if_pos (by rw [fs_len]; omega), Sl.upd_same]
    · rw [if_neg hq, Sl.upd_other _ _ _ _ (fun e => hq e.symm)]
  · rw [List.getElem?_eq_none (l := fs k (Sl.upd f q v)) (by rw [fs_len]; omega), List.getElem?_eq_none (l := fs k f) (by rw [fs_len]; omega)]
    split
    · rw [if_neg (by rw [fs_len]; omega)]
    · rfl
theorem made_fs (k : Nat) : (madeCells #[.int .i64 0] k).toList = fs k (fun _ => 0) := by
  apply List.ext_getElem?
  intro i
  by_cases hi : i < k
  · rw [fs_at k _ i hi, Array.getElem?_toList]
    simp [madeCells, hi, Nat.mod_one]
  · rw [List.getElem?_eq_none (by simp [madeCells]; omega), List.getElem?_eq_none (by rw [fs_len]; omega)]
/-- The first stamps that pages lack, of the first i of the dirty ones. -/
def fI (d : Nat → Option Db) (i p : Nat) : Int := match d p with
  | some y => if (lst d p).length < i then (y.first : Int) else 0
  | none => 0
def fF (d : Nat → Option Db) (p : Nat) : Int := match d p with
  | some y => (y.first : Int)
  | none => 0
theorem fI_zero (d : Nat → Option Db) (p : Nat) : fI d 0 p = 0 := by unfold fI; split <;> simp
theorem fI_full (d : Nat → Option Db) (k p : Nat) (hp : p < k) : fI d (lst d k).length p = fF d p := by
  unfold fI fF
  cases hd : d p with
  | none => rfl
  | some y => exact if_pos (lst_lt d p k hp y hd)
theorem fI_step (d : Nat → Option Db) (i q : Nat) (y : Db) (hq : d q = some y) (hi : (lst d q).length = i) (p : Nat) : Sl.upd (fI d i) q (y.first : Int) p = fI d (i + 1) p := by
  by_cases hpq : p = q
  · subst hpq
    rw [Sl.upd_same]
    unfold fI
    rw [hq]
    exact (if_pos (by omega)).symm
  · rw [Sl.upd_other _ _ _ _ hpq]
    unfold fI
    cases hd : d p with
    | none => rfl
    | some z =>
      have hne : (lst d p).length ≠ i := by
        intro e
        rcases Nat.lt_or_gt_of_ne hpq with h | h
        · have := lst_lt d p q h z hd; omega
        · have := lst_lt d q p h y hq; omega
      by_cases h : (lst d p).length < i
      · simp only [if_pos h, if_pos (show (lst d p).length < i + 1 by omega)]
      · simp only [if_neg h, if_neg (show ¬ (lst d p).length < i + 1 by omega)]
theorem dty_at (D : List Db) (i : Nat) (y : Db) (hy : D[i]? = some y) (j : Nat) (hj : j < 2) : (dty D)[i * 2 + j]? = [Value.int .i64 y.page, .int .i64 y.first][j]? :=
  flatMap_at (fun x : Db => [Value.int .i64 x.page, .int .i64 x.first]) 2 (fun _ => rfl) D i j y hy hj
theorem bit_zero (j : Nat) : Sl.bitK 0 j = false := by unfold Sl.bitK; simp
theorem settled_now (P : Nat → Sl.Pg) (n p : Nat) (hp : p < n) (hf : (P p).fresh = false → (P p).safe = (P p).now) : (Sl.settled P 0 n p).now = (P p).safe := by
  unfold Sl.settled
  by_cases h : (P p).fresh = true
  · have hl : (Sl.freshL P p).length < n := by have := Sl.freshL_le P p; omega
    rw [if_pos ⟨h, hl⟩, bit_zero]
    rfl
  · rw [if_neg (fun e => h e.1)]
    exact (hf (by simpa using h)).symm
theorem blk_vecN {w0 w : World} {O0 : Nat → Prop} {A : Asn} {g : Nat} {e : TypeId} {cs : Array Value} (size m : Nat) (xs : List Value) (hx : cs.toList = xs) (hm : xs.length = m * size) (hl : m ≤ maxLen) (h : Own w0 O0 w (Asn.blk g e cs * A)) : Own w0 O0 w (Asn.vec e size (.slice (some ⟨g, 0, none⟩) m m) m xs * A) :=
  h.imp (Imp.l fun w O h => ⟨Vec.built cs.toList (by have := h.1; unfold Blk at this; simpa using this) (Nat.le_refl _) hl (by rw [hx]; exact hm) (by rw [hx, ← hm, List.take_length]), fun k => by rw [h.2 k]; simp only [VB, Value.ownBlock, Option.some.injEq]; exact eq_comm⟩)
theorem made_nws (k : Nat) : (madeCells #[.int .i64 0, .int .i64 0, .int .i64 0, .bool false, .string ⟨#[]⟩, .int .i64 0, .slice none 0 0] (k * 7)).toList = nws k (fun _ => Nod.none) (fun _ => .slice none 0 0) := by
  apply List.ext_getElem?
  intro i
  by_cases hi : i < k * 7
  · have h := nws_at k (fun _ => Nod.none) (fun _ => .slice none 0 0) (i / 7) (i % 7) (by omega) (Nat.mod_lt _ (by decide))
    rw [show i / 7 * 7 + i % 7 = i by omega] at h
    rw [h, Array.getElem?_toList]
    unfold madeCells
    rw [Array.getElem?_map, Array.getElem?_range, if_pos hi]
    have h7 : i % 7 < 7 := Nat.mod_lt _ (by decide)
    show some ((#[.int .i64 0, .int .i64 0, .int .i64 0, .bool false, .string ⟨#[]⟩, .int .i64 0, .slice none 0 0] : Array Value)[i % 7]!) = (nodCells Nod.none (.slice none 0 0))[i % 7]?
    generalize i % 7 = j at *
    match j, h7 with
    | 0, _ => rfl
    | 1, _ => rfl
    | 2, _ => rfl
    | 3, _ => rfl
    | 4, _ => rfl
    | 5, _ => rfl
    | 6, _ => rfl
  · rw [List.getElem?_eq_none (by simp [madeCells]; omega), List.getElem?_eq_none (by rw [nws_len]; omega)]
theorem infoNode : (Tryz.prog.info? 31).map (fun i => (i.zero, i.size, i.bytes)) = some (some (.agg #[.int .i64 0, .int .i64 0, .int .i64 0, .bool false, .string ⟨#[]⟩, .int .i64 0, .slice none 0 0]), 7, 80) := by kernel_rfl
set_option maxRecDepth 100000 in
set_option maxHeartbeats 16000000 in
theorem keeps_any (n : Int) (A : Option Addr) (m1 c : Nat) (L : List Dn) (w : World) (ht : Tab w) (hm : m1 ≤ maxLen) (x1 : DnRow w A m1 L) :
    Calls Tryz.prog 4 #[.int .i64 n, .slice A m1 c] w fun e w' => e = .returned (.bool true) ∧ Below w.heap.size w w' := by
  obtain ⟨K8, hK, hK2⟩ := mod_u n 8 (by decide) (by decide)
  obtain ⟨k, hk⟩ : ∃ k, k = K8 + 1 := ⟨_, rfl⟩
  have hw1 : IntKind.i64.wrap (1 + (K8 : Int)) = (k : Int) := by rw [IntKind.wrap_i64]; omega
  have hk9 : k ≤ 8 := by omega
  have hk0 : 1 ≤ k := by omega
  unfold maxLen at hm
  have HT := Lib.hid ht
  have X1 := Lib.hid x1
  have HA := Lib.hid (fun w' C (h : Own w No w' C) => awake_any w w' C ht h)
  have HM := Lib.hid (fun w' C (h : Own w No w' C) => made_any k (by omega) w w' C ht h)
  have hmk := make_rows (P := Tryz.prog) 70 31 _ _ _ Tryz.underlying70 infoNode .i64 .i64 k (by omega) (by omega)
  have hmi := make_rows (P := Tryz.prog) 57 3 _ _ _ Tryz.underlying57 infoInt .i64 .i64 k (by omega) (by omega)
  rw [Nat.mul_one] at hmi
  have S0 := Lib.hid (Own.none w)
  clear ht x1 hk hK2
  go_enter Tryz.func4, Tryz.ntmps4
  go_wp2_with fail
  refine (HA.out _ _ S0.out).mono ?_
  rintro e w1 ⟨rfl, hb⟩
  have S1 := Lib.hid (Own.of_below hb)
  clear hb S0 HA
  go_wp2_with fail
  refine (HM.out _ _ S1.out).mono ?_
  rintro e w2 ⟨y, Y, rfl, hX⟩
  have hX := hX.alloc (madeCells #[.int .i64 0, .int .i64 0, .int .i64 0, .bool false, .string ⟨#[]⟩, .int .i64 0, .slice none 0 0] (k * 7)) 31
  have S2 := blk_vecN 7 k _ (made_nws k) (nws_len ..) (by unfold maxLen; omega) hX
  have S3 : Hid (Own w No (w2.alloc (.cells (madeCells #[.int .i64 0, .int .i64 0, .int .i64 0, .bool false, .string ⟨#[]⟩, .int .i64 0, .slice none 0 0] (k * 7)) 31)) (aB y k ⟨y.lv, .slice none 0 0, .slice none 0 0⟩ (fun _ => none) (Ls 0) bare3 (Asn.blk y.gb 42 (bRow y) * (Asn.vec 31 7 (.slice (some ⟨w2.heap.size, 0, none⟩) k k) k (nws k (fun _ => Nod.none) (fun _ => .slice none 0 0)) * Y)))) := Lib.hid (S2.re (by unfold aBn aB; dsimp only; rw [show Ls 0 = [] from rfl]; ac_rfl))
  clear hX S2 S1 HM
  go_upto_region 8 with fail
  obtain ⟨gn, hgz⟩ : ∃ g, g = w2.heap.size := ⟨_, rfl⟩
  rw [← hgz] at S3 ⊢
  clear hgz
  generalize w2.alloc _ = w3 at *
  have HG0 := Lib.hid (good_start k)
  have HR0 : Hid (∀ p, p < k → Row3 w ((fun _ => .slice none 0 0 : Nat → Value) p) ((fun _ => Nod.none : Nat → Nod) p).list) := Lib.hid fun p _ => Row3.nil w
  go_wp2_with fail
  go_loopw [8, 9, 10, 11] (fun p8 _ _ _ wr => ∃ (i K : Nat) (v : Vs) (h : Nat → Option Sh) (s : W3) (now : Nat → Nod) (nv : Nat → Value), p8 = .int .i64 i ∧ i ≤ m1 ∧ i ≤ 40 ∧ K ≤ i ∧ Hid (Good k K now h s) ∧ Hid (∀ p, p < k → Row3 w (nv p) (now p).list) ∧
    Hid (Own w No wr (aB y k v h (Ls K) s (Asn.blk y.gb 42 (bRow y) * (Asn.vec 31 7 (.slice (some ⟨gn, 0, none⟩) k k) k (nws k now nv) * Y))))) (fun p8 _ _ _ _ => 41 - (intOf p8).toNat)
  case atStart => exact ⟨0, 0, ⟨y.lv, .slice none 0 0, .slice none 0 0⟩, fun _ => none, bare3, fun _ => Nod.none, fun _ => .slice none 0 0, rfl, Nat.zero_le _, Nat.zero_le _, Nat.le_refl _, HG0, HR0, S3⟩
  case round =>
    clear S3 HG0 HR0 hmk
    obtain ⟨i, K, v, h, s, now, nv, rfl, hi1, hi2, hKi, HG, HR, S⟩ := hrel
    by_cases hlt : i < m1 ∧ i < 40
    · obtain ⟨hl1, hl2⟩ := hlt
      obtain ⟨x, ba, oa, A1, c1, hx, hx64, rfl, hcells, hrow⟩ := X1.out.at i hl1
      obtain ⟨kd, pg, nd⟩ := x
      dsimp only at hx64 hcells hrow
      obtain ⟨e0, e1, e2, e3, e4, e5, e6, e7, e8⟩ := hcells _ S.out.bel
      have HRow := Lib.hid (fun W (hb : Below w.heap.size w W) => hrow.keep hb)
      have HGr := Lib.hid (fun W (hb : Below w.heap.size w W) => great_list nd (.agg (nodCells nd (.slice A1 nd.list.length c1))) W ⟨_, rfl, hrow.keep hb⟩)
      clear hcells hrow hx
      unfold nodCells at HGr
      have S4 := Lib.hid ((S.out.alloc #[.int .i64 kd, .int .i64 pg, .int .i64 nd.tree, .int .i64 nd.level, .int .i64 nd.stamp, .bool nd.has, .string (ofL nd.high), .int .i64 nd.right, .slice A1 nd.list.length c1] 33).re (show _ = aB y k v h (Ls K) s (Asn.blk y.gb 42 (bRow y) * (Asn.vec 31 7 (.slice (some ⟨gn, 0, none⟩) k k) k (nws k now nv) * (Asn.blk wr.heap.size 33 #[.int .i64 kd, .int .i64 pg, .int .i64 nd.tree, .int .i64 nd.level, .int .i64 nd.stamp, .bool nd.has, .string (ofL nd.high), .int .i64 nd.right, .slice A1 nd.list.length c1] * Y))) by unfold aB; ac_rfl))
      clear S
      go_upto_region 12 with fail
      obtain ⟨gx, hgz⟩ : ∃ g, g = wr.heap.size := ⟨_, rfl⟩
      rw [← hgz] at S4 ⊢
      clear hgz e0 e1 e2 e3 e4 e5 e6 e7 e8
      generalize wr.alloc _ = w4 at *
      have hB4 := S4.out.right.right.right.right.right.right.has (Has.l (has_blk _ _ _))
      have k2 := hB4.cell 2
      have k3 := hB4.cell 3
      have k4 := hB4.cell 4
      have k5 := hB4.cell 5
      have k6 := hB4.cell 6
      have k7 := hB4.cell 7
      have k8 := hB4.cell 8
      clear hB4
      go_wp2_with fail
      refine (HGr.out _ S4.out.bel).mono ?_
      rintro e w5 ⟨he, hX⟩
      have S5 := Lib.hid (S4.out.below hX)
      clear hX S4 HGr k2 k3 k4 k5 k6 k7 k8
      rcases he with rfl | ⟨rfl, hll⟩
      · go_wp2_with fail
        go_returns
        exact ⟨rfl, S5.out.bel⟩
      have HB := Lib.hid (fun W C (hS : Own w No W (aB y k v h (Ls K) s C)) => hS)
      clear HB
      obtain ⟨st, hst⟩ : ∃ st, st = 29 * K + 1 := ⟨_, rfl⟩
      have hst1 : 1 ≤ st := by omega
      have hst2 : st ≤ 2147483647 := by omega
      by_cases hA : kd = 1 ∨ kd = 6
      · have HAdd := Lib.hid (bAdd y k v h s K (by omega) w w5 _ HT.out S5.out)
        rw [← hst] at HAdd
        unfold bareV at HAdd
        have HST := Lib.hid hst
        clear hst
        have hB5 := S5.out.right.right.right.right.right.right.has (Has.l (has_blk _ _ _))
        have k0 := hB5.cell 0
        obtain ⟨c0', c1', c2', c3'⟩ := b_cells S5.out
        clear hB5
        rcases hA with rfl | rfl
        · as_aux_lemma =>
          go_upto_region 17 with fail
          go_wp2_with fail
          refine HAdd.out.mono ?_
          rintro e w6 ⟨v6, rfl, hX⟩
          have S6 := Lib.hid hX
          clear hX S5 HAdd k0 c0' c1' c2' c3'
          have HG6 := Lib.hid (good_more HG.out)
          obtain ⟨c0', c1', c2', c3'⟩ := b_cells S6.out
          have hB6 := S6.out.right.right.right.right.right.right.has (Has.l (has_blk _ _ _))
          have k1 := hB6.cell 1
          have k2 := hB6.cell 2
          have k3 := hB6.cell 3
          have k4 := hB6.cell 4
          have k5 := hB6.cell 5
          have k6 := hB6.cell 6
          have k7 := hB6.cell 7
          have k8 := hB6.cell 8
          clear hB6
          have S6B := ((S6.out.below (blA (Below.refl _ _) (.cells (shZ pg nd (.slice A1 nd.list.length c1)) 53))).drew)
          have c3B := (b_cells S6B).2.2.2
          have HSB := Lib.hid S6B
          clear S6B
          unfold shZ at HSB c3B
          cases hy : nay k pg (restamp nd st) with
          | true => as_aux_lemma =>
            have HPut := Lib.hid (bPut_bad y k (by omega) v6 h HG.out.oks (Ls (K + 1)) s HG.out.okd st hst1 hst2 w6.heap.size 1 pg nd (.slice A1 nd.list.length c1) hy w _ _ (HRow.out _ HSB.out.bel) (Blk.new w6 (shZ pg nd (.slice A1 nd.list.length c1)) 53) HSB.out)
            clear hy
            go_upto_region 20 with fail
            have F : Hid (∀ (W : World) (v : Vs) (h : Nat → Option Sh) (s : W3), Own w No W (aB y k v h (Ls (K + 1)) s (Asn.blk y.gb 42 (bRow y) * (Asn.vec 31 7 (.slice (some ⟨gn, 0, none⟩) k k) k (nws k now nv) * (Asn.blk gx 33 #[.int .i64 1, .int .i64 pg, .int .i64 nd.tree, .int .i64 nd.level, .int .i64 nd.stamp, .bool nd.has, .string (ofL nd.high), .int .i64 nd.right, .slice A1 nd.list.length c1] * Y)))) → W.cell? ⟨y.gb, 3, none⟩ = some (.pointer (some ⟨y.g, 0, none⟩)) ∧ W.cell? ⟨gx, 1, none⟩ = some (.int .i64 pg) ∧ W.cell? ⟨gx, 2, none⟩ = some (.int .i64 nd.tree) ∧ W.cell? ⟨gx, 3, none⟩ = some (.int .i64 nd.level) ∧ W.cell? ⟨gx, 4, none⟩ = some (.int .i64 nd.stamp) ∧ W.cell? ⟨gx, 5, none⟩ = some (.bool nd.has) ∧ W.cell? ⟨gx, 6, none⟩ = some (.string (ofL nd.high)) ∧ W.cell? ⟨gx, 7, none⟩ = some (.int .i64 nd.right) ∧ W.cell? ⟨gx, 8, none⟩ = some (.slice A1 nd.list.length c1)) := Lib.hid fun W v h s hS => by
              have hB := hS.right.right.right.right.right.right.has (Has.l (has_blk _ _ _))
              exact ⟨(b_cells hS).2.2.2, hB.cell 1, hB.cell 2, hB.cell 3, hB.cell 4, hB.cell 5, hB.cell 6, hB.cell 7, hB.cell 8⟩
            have tA := F.out _ _ _ _ S6.out.drew
            have tB := F.out _ _ _ _ HSB.out
            clear c0' c1' c2' c3' c3B k1 k2 k3 k4 k5 k6 k7 k8
            go_region_held3 (fun W : World => W.cell? ⟨y.gb, 3, none⟩ = some (.pointer (some ⟨y.g, 0, none⟩)) ∧ W.cell? ⟨gx, 1, none⟩ = some (.int .i64 pg) ∧ W.cell? ⟨gx, 2, none⟩ = some (.int .i64 nd.tree) ∧ W.cell? ⟨gx, 3, none⟩ = some (.int .i64 nd.level) ∧ W.cell? ⟨gx, 4, none⟩ = some (.int .i64 nd.stamp) ∧ W.cell? ⟨gx, 5, none⟩ = some (.bool nd.has) ∧ W.cell? ⟨gx, 6, none⟩ = some (.string (ofL nd.high)) ∧ W.cell? ⟨gx, 7, none⟩ = some (.int .i64 nd.right) ∧ W.cell? ⟨gx, 8, none⟩ = some (.slice A1 nd.list.length c1)) (first | exact tA | exact tB | exact tC) (first | (go_at_call 10; refine HPut.out.mono ?_; rintro e w7 ⟨rfl, hX⟩; have S7 := Lib.hid hX; have tC := F.out _ _ _ _ hX))
            have S8 := Lib.hid ((S7.out.re (show _ = Asn.blk gx 33 _ * aB y k v6 h (Ls (K + 1)) s (Asn.blk y.gb 42 (bRow y) * (Asn.vec 31 7 (.slice (some ⟨gn, 0, none⟩) k k) k (nws k now nv) * Y)) by unfold aB; ac_rfl)).right)
            clear S7 HPut HSB S6 tA tB tC F hX
            go_wp2_with fail
            go_roundw
            case rel => exact ⟨i + 1, K + 1, v6, h, s, now, nv, by go_num, by omega, by omega, by omega, HG6, HR, S8⟩
            case measure => simp [intOf]; omega
          | false => as_aux_lemma =>
            obtain ⟨p, rfl, hp, hf⟩ := nay_yes k pg (restamp nd st) hy
            have HPut := Lib.hid (bPut_ok y k (by omega) v6 h HG.out.oks (Ls (K + 1)) s HG.out.okd st hst1 hst2 w6.heap.size 1 p nd (.slice A1 nd.list.length c1) hp hf (by omega) w _ _ (HRow.out _ HSB.out.bel) (Blk.new w6 (shZ p nd (.slice A1 nd.list.length c1)) 53) HSB.out)
            have HGP := Lib.hid (fun lv => good_put HG.out p hp nd (by rw [← HST.out]; exact hf) lv)
            clear hy
            go_upto_region 20 with fail
            have F : Hid (∀ (W : World) (v : Vs) (h : Nat → Option Sh) (s : W3), Own w No W (aB y k v h (Ls (K + 1)) s (Asn.blk y.gb 42 (bRow y) * (Asn.vec 31 7 (.slice (some ⟨gn, 0, none⟩) k k) k (nws k now nv) * (Asn.blk gx 33 #[.int .i64 1, .int .i64 (p : Int), .int .i64 nd.tree, .int .i64 nd.level, .int .i64 nd.stamp, .bool nd.has, .string (ofL nd.high), .int .i64 nd.right, .slice A1 nd.list.length c1] * Y)))) → W.cell? ⟨y.gb, 3, none⟩ = some (.pointer (some ⟨y.g, 0, none⟩)) ∧ W.cell? ⟨gx, 1, none⟩ = some (.int .i64 p) ∧ W.cell? ⟨gx, 2, none⟩ = some (.int .i64 nd.tree) ∧ W.cell? ⟨gx, 3, none⟩ = some (.int .i64 nd.level) ∧ W.cell? ⟨gx, 4, none⟩ = some (.int .i64 nd.stamp) ∧ W.cell? ⟨gx, 5, none⟩ = some (.bool nd.has) ∧ W.cell? ⟨gx, 6, none⟩ = some (.string (ofL nd.high)) ∧ W.cell? ⟨gx, 7, none⟩ = some (.int .i64 nd.right) ∧ W.cell? ⟨gx, 8, none⟩ = some (.slice A1 nd.list.length c1)) := Lib.hid fun W v h s hS => by
              have hB := hS.right.right.right.right.right.right.has (Has.l (has_blk _ _ _))
              exact ⟨(b_cells hS).2.2.2, hB.cell 1, hB.cell 2, hB.cell 3, hB.cell 4, hB.cell 5, hB.cell 6, hB.cell 7, hB.cell 8⟩
            have tA := F.out _ _ _ _ S6.out.drew
            have tB := F.out _ _ _ _ HSB.out
            clear c0' c1' c2' c3' c3B k1 k2 k3 k4 k5 k6 k7 k8
            go_region_held3 (fun W : World => W.cell? ⟨y.gb, 3, none⟩ = some (.pointer (some ⟨y.g, 0, none⟩)) ∧ W.cell? ⟨gx, 1, none⟩ = some (.int .i64 p) ∧ W.cell? ⟨gx, 2, none⟩ = some (.int .i64 nd.tree) ∧ W.cell? ⟨gx, 3, none⟩ = some (.int .i64 nd.level) ∧ W.cell? ⟨gx, 4, none⟩ = some (.int .i64 nd.stamp) ∧ W.cell? ⟨gx, 5, none⟩ = some (.bool nd.has) ∧ W.cell? ⟨gx, 6, none⟩ = some (.string (ofL nd.high)) ∧ W.cell? ⟨gx, 7, none⟩ = some (.int .i64 nd.right) ∧ W.cell? ⟨gx, 8, none⟩ = some (.slice A1 nd.list.length c1)) (first | exact tA | exact tB | exact tC) (first | (go_at_call 10; refine HPut.out.mono ?_; rintro e w7 ⟨v7, lv7, rfl, hX⟩; have S7 := Lib.hid hX; have tC := F.out _ _ _ _ hX))
            clear HPut HSB S6 tA tB F hX
            obtain ⟨-, k1, k2, k3, k4, k5, k6, k7, k8⟩ := tC
            have S8 := Lib.hid (S7.out.re (show _ = Asn.vec 31 7 (.slice (some ⟨gn, 0, none⟩) k k) k (nws k now nv) * (Asn.blk gx 33 #[.int .i64 1, .int .i64 (p : Int), .int .i64 nd.tree, .int .i64 nd.level, .int .i64 nd.stamp, .bool nd.has, .string (ofL nd.high), .int .i64 nd.right, .slice A1 nd.list.length c1] * aB y k v7 (put h p (some ⟨p, restamp nd st, lv7⟩)) (Ls (K + 1)) ⟨owed s.d p st, s.P, s.safe⟩ (Asn.blk y.gb 42 (bRow y) * Y)) by unfold aB; ac_rfl))
            clear S7
            have HTH : Hid (w7.there gn (p * 7) 7) := Lib.hid fun j hj => by
              have hx : (nws k now nv)[p * 7 + j]? = some ((nws k now nv)[p * 7 + j]'(by rw [nws_len]; omega)) := List.getElem?_eq_getElem _
              refine ⟨?_, S8.out.vec.free _⟩
              rw [S8.out.vec.cell hx]; rfl
            go_upto_region 22 with (with_reducible refine wpList_store_mid rfl 31 (.tmp 83) (.tmp 82) rfl gn (p * 7) #[.int .i64 nd.tree, .int .i64 nd.level, .int .i64 nd.stamp, .bool nd.has, .string (ofL nd.high), .int .i64 nd.right, .slice A1 nd.list.length c1] ?c1 ?c2 ?c5 ?c3 ?c4 ?_)
            case c1 => rfl
            case c2 => rfl
            case c3 => kernel_rfl
            case c4 => exact all_oneCell_toArray (cs := [.int .i64 nd.tree, .int .i64 nd.level, .int .i64 nd.stamp, .bool nd.has, .string (ofL nd.high), .int .i64 nd.right, .slice A1 nd.list.length c1]) (by intro u hu; simp at hu; rcases hu with rfl | rfl | rfl | rfl | rfl | rfl | rfl <;> rfl)
            case c5 => exact HTH.out
            have S9 := own_setCells 31 7 gn k k [.int .i64 nd.tree, .int .i64 nd.level, .int .i64 nd.stamp, .bool nd.has, .string (ofL nd.high), .int .i64 nd.right, .slice A1 nd.list.length c1] (p * 7) _ _ S8.out (by simp only [List.length_cons, List.length_nil]; omega)
            have e9 := nws_set k now nv p hp nd (.slice A1 nd.list.length c1)
            unfold nodCells at e9
            simp only [List.length_cons, List.length_nil] at S9
            rw [show p * 7 + (0 + 1 + 1 + 1 + 1 + 1 + 1 + 1) = p * 7 + 7 from rfl] at S9
            rw [e9] at S9
            have S10 := Lib.hid S9
            clear S9 e9 S8 HTH k1 k2 k3 k4 k5 k6 k7 k8
            generalize World.setCells w7 _ _ _ = w8 at *
            have k1 := (S10.out.right.has (Has.l (has_blk _ _ _))).cell 1
            have hat := nws_at k (Sl.upd now p nd) (Sl.upd nv p (.slice A1 nd.list.length c1)) p 2 hp (by decide)
            rw [Sl.upd_same, Sl.upd_same] at hat
            have q2 := S10.out.vec.cell hat
            have f2 := S10.out.vec.free (p * 7 + 2)
            clear hat
            have S11 := S10.out.set (Sets.l (sets_vec _ _ _ _ _ _ (p * 7 + 2) (by omega) (.int .i64 st)))
            rw [nws_stamp k _ _ p hp, Sl.upd_same, upd_upd] at S11
            have S12 := Lib.hid (S11.re (show _ = Asn.blk gx 33 #[.int .i64 1, .int .i64 (p : Int), .int .i64 nd.tree, .int .i64 nd.level, .int .i64 nd.stamp, .bool nd.has, .string (ofL nd.high), .int .i64 nd.right, .slice A1 nd.list.length c1] * aB y k v7 (put h p (some ⟨p, restamp nd st, lv7⟩)) (Ls (K + 1)) ⟨owed s.d p st, s.P, s.safe⟩ (Asn.blk y.gb 42 (bRow y) * (Asn.vec 31 7 (.slice (some ⟨gn, 0, none⟩) k k) k (nws k (Sl.upd now p (restamp nd st)) (Sl.upd nv p (.slice A1 nd.list.length c1))) * Y)) by unfold aB; ac_rfl)).right
            have HGN := Lib.hid (HGP.out lv7)
            rw [← HST.out] at HGN
            have HRN : Hid (∀ q, q < k → Row3 w (Sl.upd nv p (.slice A1 nd.list.length c1) q) (Sl.upd now p (restamp nd st) q).list) := Lib.hid fun q hq => by
              by_cases hqp : q = p
              · subst hqp
                rw [Sl.upd_same, Sl.upd_same]
                exact HRow.out w (Below.refl _ _)
              · rw [Sl.upd_other _ _ _ _ hqp, Sl.upd_other _ _ _ _ hqp]
                exact HR.out q hq
            clear S11 S10
            go_wp2_with fail
            go_roundw
            case rel => exact ⟨i + 1, K + 1, v7, _, _, _, _, by go_num, by omega, by omega, by omega, HGN, HRN, S12⟩
            case measure => simp [intOf]; omega
        · as_aux_lemma =>
          go_upto_region 17 with fail
          go_wp2_with fail
          refine HAdd.out.mono ?_
          rintro e w6 ⟨v6, rfl, hX⟩
          have S6 := Lib.hid hX
          clear hX S5 HAdd k0 c0' c1' c2' c3'
          have HG6 := Lib.hid (good_more HG.out)
          obtain ⟨c0', c1', c2', c3'⟩ := b_cells S6.out
          have hB6 := S6.out.right.right.right.right.right.right.has (Has.l (has_blk _ _ _))
          have k1 := hB6.cell 1
          have k2 := hB6.cell 2
          have k3 := hB6.cell 3
          have k4 := hB6.cell 4
          have k5 := hB6.cell 5
          have k6 := hB6.cell 6
          have k7 := hB6.cell 7
          have k8 := hB6.cell 8
          clear hB6
          have S6B := ((S6.out.below (blA (Below.refl _ _) (.cells (shZ pg nd (.slice A1 nd.list.length c1)) 53))).drew)
          have c3B := (b_cells S6B).2.2.2
          have HSB := Lib.hid S6B
          clear S6B
          unfold shZ at HSB c3B
          cases hy : nay k pg (restamp nd st) with
          | true => as_aux_lemma =>
            have HPut := Lib.hid (bPut_bad y k (by omega) v6 h HG.out.oks (Ls (K + 1)) s HG.out.okd st hst1 hst2 w6.heap.size 1 pg nd (.slice A1 nd.list.length c1) hy w _ _ (HRow.out _ HSB.out.bel) (Blk.new w6 (shZ pg nd (.slice A1 nd.list.length c1)) 53) HSB.out)
            clear hy
            go_upto_region 20 with fail
            have F : Hid (∀ (W : World) (v : Vs) (h : Nat → Option Sh) (s : W3), Own w No W (aB y k v h (Ls (K + 1)) s (Asn.blk y.gb 42 (bRow y) * (Asn.vec 31 7 (.slice (some ⟨gn, 0, none⟩) k k) k (nws k now nv) * (Asn.blk gx 33 #[.int .i64 6, .int .i64 pg, .int .i64 nd.tree, .int .i64 nd.level, .int .i64 nd.stamp, .bool nd.has, .string (ofL nd.high), .int .i64 nd.right, .slice A1 nd.list.length c1] * Y)))) → W.cell? ⟨y.gb, 3, none⟩ = some (.pointer (some ⟨y.g, 0, none⟩)) ∧ W.cell? ⟨gx, 1, none⟩ = some (.int .i64 pg) ∧ W.cell? ⟨gx, 2, none⟩ = some (.int .i64 nd.tree) ∧ W.cell? ⟨gx, 3, none⟩ = some (.int .i64 nd.level) ∧ W.cell? ⟨gx, 4, none⟩ = some (.int .i64 nd.stamp) ∧ W.cell? ⟨gx, 5, none⟩ = some (.bool nd.has) ∧ W.cell? ⟨gx, 6, none⟩ = some (.string (ofL nd.high)) ∧ W.cell? ⟨gx, 7, none⟩ = some (.int .i64 nd.right) ∧ W.cell? ⟨gx, 8, none⟩ = some (.slice A1 nd.list.length c1)) := Lib.hid fun W v h s hS => by
              have hB := hS.right.right.right.right.right.right.has (Has.l (has_blk _ _ _))
              exact ⟨(b_cells hS).2.2.2, hB.cell 1, hB.cell 2, hB.cell 3, hB.cell 4, hB.cell 5, hB.cell 6, hB.cell 7, hB.cell 8⟩
            have tA := F.out _ _ _ _ S6.out.drew
            have tB := F.out _ _ _ _ HSB.out
            clear c0' c1' c2' c3' c3B k1 k2 k3 k4 k5 k6 k7 k8
            go_region_held3 (fun W : World => W.cell? ⟨y.gb, 3, none⟩ = some (.pointer (some ⟨y.g, 0, none⟩)) ∧ W.cell? ⟨gx, 1, none⟩ = some (.int .i64 pg) ∧ W.cell? ⟨gx, 2, none⟩ = some (.int .i64 nd.tree) ∧ W.cell? ⟨gx, 3, none⟩ = some (.int .i64 nd.level) ∧ W.cell? ⟨gx, 4, none⟩ = some (.int .i64 nd.stamp) ∧ W.cell? ⟨gx, 5, none⟩ = some (.bool nd.has) ∧ W.cell? ⟨gx, 6, none⟩ = some (.string (ofL nd.high)) ∧ W.cell? ⟨gx, 7, none⟩ = some (.int .i64 nd.right) ∧ W.cell? ⟨gx, 8, none⟩ = some (.slice A1 nd.list.length c1)) (first | exact tA | exact tB | exact tC) (first | (go_at_call 10; refine HPut.out.mono ?_; rintro e w7 ⟨rfl, hX⟩; have S7 := Lib.hid hX; have tC := F.out _ _ _ _ hX))
            have S8 := Lib.hid ((S7.out.re (show _ = Asn.blk gx 33 _ * aB y k v6 h (Ls (K + 1)) s (Asn.blk y.gb 42 (bRow y) * (Asn.vec 31 7 (.slice (some ⟨gn, 0, none⟩) k k) k (nws k now nv) * Y)) by unfold aB; ac_rfl)).right)
            clear S7 HPut HSB S6 tA tB tC F hX
            go_wp2_with fail
            go_roundw
            case rel => exact ⟨i + 1, K + 1, v6, h, s, now, nv, by go_num, by omega, by omega, by omega, HG6, HR, S8⟩
            case measure => simp [intOf]; omega
          | false => as_aux_lemma =>
            obtain ⟨p, rfl, hp, hf⟩ := nay_yes k pg (restamp nd st) hy
            have HPut := Lib.hid (bPut_ok y k (by omega) v6 h HG.out.oks (Ls (K + 1)) s HG.out.okd st hst1 hst2 w6.heap.size 1 p nd (.slice A1 nd.list.length c1) hp hf (by omega) w _ _ (HRow.out _ HSB.out.bel) (Blk.new w6 (shZ p nd (.slice A1 nd.list.length c1)) 53) HSB.out)
            have HGP := Lib.hid (fun lv => good_put HG.out p hp nd (by rw [← HST.out]; exact hf) lv)
            clear hy
            go_upto_region 20 with fail
            have F : Hid (∀ (W : World) (v : Vs) (h : Nat → Option Sh) (s : W3), Own w No W (aB y k v h (Ls (K + 1)) s (Asn.blk y.gb 42 (bRow y) * (Asn.vec 31 7 (.slice (some ⟨gn, 0, none⟩) k k) k (nws k now nv) * (Asn.blk gx 33 #[.int .i64 6, .int .i64 (p : Int), .int .i64 nd.tree, .int .i64 nd.level, .int .i64 nd.stamp, .bool nd.has, .string (ofL nd.high), .int .i64 nd.right, .slice A1 nd.list.length c1] * Y)))) → W.cell? ⟨y.gb, 3, none⟩ = some (.pointer (some ⟨y.g, 0, none⟩)) ∧ W.cell? ⟨gx, 1, none⟩ = some (.int .i64 p) ∧ W.cell? ⟨gx, 2, none⟩ = some (.int .i64 nd.tree) ∧ W.cell? ⟨gx, 3, none⟩ = some (.int .i64 nd.level) ∧ W.cell? ⟨gx, 4, none⟩ = some (.int .i64 nd.stamp) ∧ W.cell? ⟨gx, 5, none⟩ = some (.bool nd.has) ∧ W.cell? ⟨gx, 6, none⟩ = some (.string (ofL nd.high)) ∧ W.cell? ⟨gx, 7, none⟩ = some (.int .i64 nd.right) ∧ W.cell? ⟨gx, 8, none⟩ = some (.slice A1 nd.list.length c1)) := Lib.hid fun W v h s hS => by
              have hB := hS.right.right.right.right.right.right.has (Has.l (has_blk _ _ _))
              exact ⟨(b_cells hS).2.2.2, hB.cell 1, hB.cell 2, hB.cell 3, hB.cell 4, hB.cell 5, hB.cell 6, hB.cell 7, hB.cell 8⟩
            have tA := F.out _ _ _ _ S6.out.drew
            have tB := F.out _ _ _ _ HSB.out
            clear c0' c1' c2' c3' c3B k1 k2 k3 k4 k5 k6 k7 k8
            go_region_held3 (fun W : World => W.cell? ⟨y.gb, 3, none⟩ = some (.pointer (some ⟨y.g, 0, none⟩)) ∧ W.cell? ⟨gx, 1, none⟩ = some (.int .i64 p) ∧ W.cell? ⟨gx, 2, none⟩ = some (.int .i64 nd.tree) ∧ W.cell? ⟨gx, 3, none⟩ = some (.int .i64 nd.level) ∧ W.cell? ⟨gx, 4, none⟩ = some (.int .i64 nd.stamp) ∧ W.cell? ⟨gx, 5, none⟩ = some (.bool nd.has) ∧ W.cell? ⟨gx, 6, none⟩ = some (.string (ofL nd.high)) ∧ W.cell? ⟨gx, 7, none⟩ = some (.int .i64 nd.right) ∧ W.cell? ⟨gx, 8, none⟩ = some (.slice A1 nd.list.length c1)) (first | exact tA | exact tB | exact tC) (first | (go_at_call 10; refine HPut.out.mono ?_; rintro e w7 ⟨v7, lv7, rfl, hX⟩; have S7 := Lib.hid hX; have tC := F.out _ _ _ _ hX))
            clear HPut HSB S6 tA tB F hX
            obtain ⟨-, k1, k2, k3, k4, k5, k6, k7, k8⟩ := tC
            have S8 := Lib.hid (S7.out.re (show _ = Asn.vec 31 7 (.slice (some ⟨gn, 0, none⟩) k k) k (nws k now nv) * (Asn.blk gx 33 #[.int .i64 6, .int .i64 (p : Int), .int .i64 nd.tree, .int .i64 nd.level, .int .i64 nd.stamp, .bool nd.has, .string (ofL nd.high), .int .i64 nd.right, .slice A1 nd.list.length c1] * aB y k v7 (put h p (some ⟨p, restamp nd st, lv7⟩)) (Ls (K + 1)) ⟨owed s.d p st, s.P, s.safe⟩ (Asn.blk y.gb 42 (bRow y) * Y)) by unfold aB; ac_rfl))
            clear S7
            have HTH : Hid (w7.there gn (p * 7) 7) := Lib.hid fun j hj => by
              have hx : (nws k now nv)[p * 7 + j]? = some ((nws k now nv)[p * 7 + j]'(by rw [nws_len]; omega)) := List.getElem?_eq_getElem _
              refine ⟨?_, S8.out.vec.free _⟩
              rw [S8.out.vec.cell hx]; rfl
            go_upto_region 22 with (with_reducible refine wpList_store_mid rfl 31 (.tmp 83) (.tmp 82) rfl gn (p * 7) #[.int .i64 nd.tree, .int .i64 nd.level, .int .i64 nd.stamp, .bool nd.has, .string (ofL nd.high), .int .i64 nd.right, .slice A1 nd.list.length c1] ?c1 ?c2 ?c5 ?c3 ?c4 ?_)
            case c1 => rfl
            case c2 => rfl
            case c3 => kernel_rfl
            case c4 => exact all_oneCell_toArray (cs := [.int .i64 nd.tree, .int .i64 nd.level, .int .i64 nd.stamp, .bool nd.has, .string (ofL nd.high), .int .i64 nd.right, .slice A1 nd.list.length c1]) (by intro u hu; simp at hu; rcases hu with rfl | rfl | rfl | rfl | rfl | rfl | rfl <;> rfl)
            case c5 => exact HTH.out
            have S9 := own_setCells 31 7 gn k k [.int .i64 nd.tree, .int .i64 nd.level, .int .i64 nd.stamp, .bool nd.has, .string (ofL nd.high), .int .i64 nd.right, .slice A1 nd.list.length c1] (p * 7) _ _ S8.out (by simp only [List.length_cons, List.length_nil]; omega)
            have e9 := nws_set k now nv p hp nd (.slice A1 nd.list.length c1)
            unfold nodCells at e9
            simp only [List.length_cons, List.length_nil] at S9
            rw [show p * 7 + (0 + 1 + 1 + 1 + 1 + 1 + 1 + 1) = p * 7 + 7 from rfl] at S9
            rw [e9] at S9
            have S10 := Lib.hid S9
            clear S9 e9 S8 HTH k1 k2 k3 k4 k5 k6 k7 k8
            generalize World.setCells w7 _ _ _ = w8 at *
            have k1 := (S10.out.right.has (Has.l (has_blk _ _ _))).cell 1
            have hat := nws_at k (Sl.upd now p nd) (Sl.upd nv p (.slice A1 nd.list.length c1)) p 2 hp (by decide)
            rw [Sl.upd_same, Sl.upd_same] at hat
            have q2 := S10.out.vec.cell hat
            have f2 := S10.out.vec.free (p * 7 + 2)
            clear hat
            have S11 := S10.out.set (Sets.l (sets_vec _ _ _ _ _ _ (p * 7 + 2) (by omega) (.int .i64 st)))
            rw [nws_stamp k _ _ p hp, Sl.upd_same, upd_upd] at S11
            have S12 := Lib.hid (S11.re (show _ = Asn.blk gx 33 #[.int .i64 6, .int .i64 (p : Int), .int .i64 nd.tree, .int .i64 nd.level, .int .i64 nd.stamp, .bool nd.has, .string (ofL nd.high), .int .i64 nd.right, .slice A1 nd.list.length c1] * aB y k v7 (put h p (some ⟨p, restamp nd st, lv7⟩)) (Ls (K + 1)) ⟨owed s.d p st, s.P, s.safe⟩ (Asn.blk y.gb 42 (bRow y) * (Asn.vec 31 7 (.slice (some ⟨gn, 0, none⟩) k k) k (nws k (Sl.upd now p (restamp nd st)) (Sl.upd nv p (.slice A1 nd.list.length c1))) * Y)) by unfold aB; ac_rfl)).right
            have HGN := Lib.hid (HGP.out lv7)
            rw [← HST.out] at HGN
            have HRN : Hid (∀ q, q < k → Row3 w (Sl.upd nv p (.slice A1 nd.list.length c1) q) (Sl.upd now p (restamp nd st) q).list) := Lib.hid fun q hq => by
              by_cases hqp : q = p
              · subst hqp
                rw [Sl.upd_same, Sl.upd_same]
                exact HRow.out w (Below.refl _ _)
              · rw [Sl.upd_other _ _ _ _ hqp, Sl.upd_other _ _ _ _ hqp]
                exact HR.out q hq
            clear S11 S10
            go_wp2_with fail
            go_roundw
            case rel => exact ⟨i + 1, K + 1, v7, _, _, _, _, by go_num, by omega, by omega, by omega, HGN, HRN, S12⟩
            case measure => simp [intOf]; omega
      · have n1 : ¬ kd = 1 := fun e => hA (Or.inl e)
        have n6 : ¬ kd = 6 := fun e => hA (Or.inr e)
        have m1' : (kd == 1) = false := beq_eq_false_iff_ne.2 n1
        have m6' : (kd == 6) = false := beq_eq_false_iff_ne.2 n6
        clear hA hst hst1 hst2
        obtain ⟨c0', c1', c2', c3'⟩ := b_cells S5.out
        have hB5 := S5.out.right.right.right.right.right.right.has (Has.l (has_blk _ _ _))
        have k0 := hB5.cell 0
        have k1 := hB5.cell 1
        clear hB5
        by_cases h2 : kd = 2
        · subst h2
          go_upto_region 24 with fail
          have F : Hid (∀ (W : World) (v : Vs) (h : Nat → Option Sh) (s : W3), Own w No W (aB y k v h (Ls K) s (Asn.blk y.gb 42 (bRow y) * (Asn.vec 31 7 (.slice (some ⟨gn, 0, none⟩) k k) k (nws k now nv) * (Asn.blk gx 33 #[.int .i64 2, .int .i64 pg, .int .i64 nd.tree, .int .i64 nd.level, .int .i64 nd.stamp, .bool nd.has, .string (ofL nd.high), .int .i64 nd.right, .slice A1 nd.list.length c1] * Y)))) → W.cell? ⟨y.gb, 3, none⟩ = some (.pointer (some ⟨y.g, 0, none⟩)) ∧ W.cell? ⟨gx, 1, none⟩ = some (.int .i64 pg)) := Lib.hid fun W v h s hS => by
            have hB := hS.right.right.right.right.right.right.has (Has.l (has_blk _ _ _))
            exact ⟨(b_cells hS).2.2.2, hB.cell 1⟩
          have tA := F.out _ _ _ _ S5.out.drew
          have SD := Lib.hid S5.out.drew
          by_cases hin : ∃ (p : Nat) (z : Sh), pg = p ∧ p < k ∧ h p = some z
          · as_aux_lemma =>
            obtain ⟨p, z, rfl, hp, hz⟩ := hin
            have hzp := HG.out.oks p z hz
            have hfit := good_fit HG.out z (by omega) (by rw [hzp]; exact hz)
            obtain ⟨hgw, hun⟩ := good_wr HG.out z (by omega) (by rw [hzp]; exact hz)
            rw [hzp] at hun
            have HG2 := Lib.hid (good_drop hgw p hun)
            have HEv := Lib.hid (bEvict_yes y k (by omega) v h HG.out.oks (Ls K) s HG.out.okd p hp z hz hfit w _ _ HT.out SD.out)
            clear hfit hgw hun hzp hz c0' c1' c2' c3' k0 k1
            go_region_held3 (fun W : World => W.cell? ⟨y.gb, 3, none⟩ = some (.pointer (some ⟨y.g, 0, none⟩)) ∧ W.cell? ⟨gx, 1, none⟩ = some (.int .i64 (p : Int))) (first | exact tA | exact tC) (first | (go_at_call 14; refine HEv.out.mono ?_; rintro e w7 ⟨v7, rfl, hX⟩; have S7 := Lib.hid hX; have tC := F.out _ _ _ _ hX))
            have S8 := Lib.hid (S7.out.re (show _ = Asn.blk gx 33 #[.int .i64 2, .int .i64 (p : Int), .int .i64 nd.tree, .int .i64 nd.level, .int .i64 nd.stamp, .bool nd.has, .string (ofL nd.high), .int .i64 nd.right, .slice A1 nd.list.length c1] * aB y k v7 _ (Ls K) _ (Asn.blk y.gb 42 (bRow y) * (Asn.vec 31 7 (.slice (some ⟨gn, 0, none⟩) k k) k (nws k now nv) * Y)) by unfold aB; ac_rfl)).right
            clear S7 HEv SD tA tC F hX S5
            go_wp2_with fail
            go_roundw
            case rel => exact ⟨i + 1, K, v7, _, _, now, nv, by go_num, by omega, by omega, by omega, HG2, HR, S8⟩
            case measure => simp [intOf]; omega
          · as_aux_lemma =>
            have hno : pg < 0 ∨ (k : Int) ≤ pg ∨ ∃ p : Nat, pg = p ∧ p < k ∧ h p = none := by
              by_cases a1 : pg < 0
              · exact Or.inl a1
              · by_cases a2 : (k : Int) ≤ pg
                · exact Or.inr (Or.inl a2)
                · refine Or.inr (Or.inr ⟨pg.toNat, by omega, by omega, ?_⟩)
                  cases hz : h pg.toNat with
                  | none => rfl
                  | some z => exact absurd ⟨pg.toNat, z, by omega, by omega, hz⟩ hin
            have HEv := Lib.hid (bEvict_no y k (by omega) v h HG.out.oks (Ls K) s HG.out.okd pg hno w _ _ SD.out)
            clear hno hin c0' c1' c2' c3' k0 k1
            go_region_held3 (fun W : World => W.cell? ⟨y.gb, 3, none⟩ = some (.pointer (some ⟨y.g, 0, none⟩)) ∧ W.cell? ⟨gx, 1, none⟩ = some (.int .i64 pg)) (first | exact tA | exact tC) (first | (go_at_call 14; refine HEv.out.mono ?_; rintro e w7 ⟨rfl, hX⟩; have S7 := Lib.hid hX; have tC := F.out _ _ _ _ hX))
            have S8 := Lib.hid (S7.out.re (show _ = Asn.blk gx 33 #[.int .i64 2, .int .i64 pg, .int .i64 nd.tree, .int .i64 nd.level, .int .i64 nd.stamp, .bool nd.has, .string (ofL nd.high), .int .i64 nd.right, .slice A1 nd.list.length c1] * aB y k v h (Ls K) s (Asn.blk y.gb 42 (bRow y) * (Asn.vec 31 7 (.slice (some ⟨gn, 0, none⟩) k k) k (nws k now nv) * Y)) by unfold aB; ac_rfl)).right
            clear S7 HEv SD tA tC F hX S5
            go_wp2_with fail
            go_roundw
            case rel => exact ⟨i + 1, K, v, h, s, now, nv, by go_num, by omega, by omega, by omega, HG, HR, S8⟩
            case measure => simp [intOf]; omega
        have m2' : (kd == 2) = false := beq_eq_false_iff_ne.2 h2
        by_cases h3 : kd = 3
        · as_aux_lemma =>
          subst h3
          have HFl := Lib.hid (bFlush y k (by omega) v h HG.out.oks (Ls K) s HG.out.okd (fun x hx => good_fit HG.out x (held_mem HG.out.oks x hx).1 (held_mem HG.out.oks x hx).2) w _ _ HT.out S5.out)
          have HG2 := Lib.hid (good_sync (good_fold (lst h k) HG.out (fun x hx => held_mem HG.out.oks x hx)))
          go_wp2_with fail
          refine HFl.out.mono ?_
          rintro e w7 ⟨v7, rfl, hX⟩
          have S8 := Lib.hid (hX.re (show _ = Asn.blk gx 33 #[.int .i64 3, .int .i64 pg, .int .i64 nd.tree, .int .i64 nd.level, .int .i64 nd.stamp, .bool nd.has, .string (ofL nd.high), .int .i64 nd.right, .slice A1 nd.list.length c1] * aB y k v7 h (Ls K) _ (Asn.blk y.gb 42 (bRow y) * (Asn.vec 31 7 (.slice (some ⟨gn, 0, none⟩) k k) k (nws k now nv) * Y)) by unfold aB; ac_rfl)).right
          clear hX HFl S5 c0' c1' c2' c3' k0 k1
          go_wp2_with fail
          go_roundw
          case rel => exact ⟨i + 1, K, v7, h, _, now, nv, by go_num, by omega, by omega, by omega, HG2, HR, S8⟩
          case measure => simp [intOf]; omega
        have m3' : (kd == 3) = false := beq_eq_false_iff_ne.2 h3
        by_cases h4 : kd = 4
        · as_aux_lemma =>
          subst h4
          have HSy := Lib.hid (bSync y k (by omega) v h HG.out.oks (Ls K) s HG.out.okd w _ _ S5.out)
          have HG2 := Lib.hid (good_sync HG.out)
          go_wp2_with fail
          refine HSy.out.mono ?_
          rintro e w7 ⟨v7, rfl, hX⟩
          have S8 := Lib.hid (hX.re (show _ = Asn.blk gx 33 #[.int .i64 4, .int .i64 pg, .int .i64 nd.tree, .int .i64 nd.level, .int .i64 nd.stamp, .bool nd.has, .string (ofL nd.high), .int .i64 nd.right, .slice A1 nd.list.length c1] * aB y k v7 h (Ls K) _ (Asn.blk y.gb 42 (bRow y) * (Asn.vec 31 7 (.slice (some ⟨gn, 0, none⟩) k k) k (nws k now nv) * Y)) by unfold aB; ac_rfl)).right
          clear hX HSy S5 c0' c1' c2' c3' k0 k1
          go_wp2_with fail
          go_roundw
          case rel => exact ⟨i + 1, K, v7, h, _, now, nv, by go_num, by omega, by omega, by omega, HG2, HR, S8⟩
          case measure => simp [intOf]; omega
        have m4' : (kd == 4) = false := beq_eq_false_iff_ne.2 h4
        have S8 := Lib.hid (S5.out.re (show _ = Asn.blk gx 33 #[.int .i64 kd, .int .i64 pg, .int .i64 nd.tree, .int .i64 nd.level, .int .i64 nd.stamp, .bool nd.has, .string (ofL nd.high), .int .i64 nd.right, .slice A1 nd.list.length c1] * aB y k v h (Ls K) s (Asn.blk y.gb 42 (bRow y) * (Asn.vec 31 7 (.slice (some ⟨gn, 0, none⟩) k k) k (nws k now nv) * Y)) by unfold aB; ac_rfl)).right
        clear S5 c0' c1' c2' c3' k1
        go_wp2_with fail
        go_roundw
        case rel => exact ⟨i + 1, K, v, h, s, now, nv, by go_num, by omega, by omega, by omega, HG, HR, S8⟩
        case measure => simp [intOf]; omega
    · have hx' : (decide (i < m1) && decide (i < 40)) = false := by
        by_cases a1 : i < m1
        · rw [decide_eq_true a1, decide_eq_false (fun e => hlt ⟨a1, e⟩)]; rfl
        · rw [decide_eq_false a1]; rfl
      have SF0 := blk_vecN 1 k _ (made_fs k) (fs_len ..) (by unfold maxLen; omega) (S.out.alloc (madeCells #[.int .i64 0] k) 3)
      have S1 : Hid (Own w No (wr.alloc (.cells (madeCells #[.int .i64 0] k) 3)) (aB y k v h (Ls K) s (Asn.blk y.gb 42 (bRow y) * (Asn.vec 31 7 (.slice (some ⟨gn, 0, none⟩) k k) k (nws k now nv) * (Asn.vec 3 1 (.slice (some ⟨wr.heap.size, 0, none⟩) k k) k (fs k (fun _ => 0)) * Y))))) := Lib.hid (SF0.re (by unfold aB; ac_rfl))
      clear SF0
      have HGG := HG
      by_cases a1 : i < m1
      case' pos => have a2 : ¬ i < 40 := fun e => hlt ⟨a1, e⟩
      all_goals
        clear hlt hx'
        go_upto_region 30 with fail
        obtain ⟨gf, hgz⟩ : ∃ g, g = wr.heap.size := ⟨_, rfl⟩
        rw [← hgz] at S1 ⊢
        clear hgz S
        generalize wr.alloc _ = w4 at *
        obtain ⟨c0', c1', c2', c3'⟩ := b_cells S1.out
        have HD := Lib.hid (bDirty y k (by omega) v h HG.out.oks (Ls K) s HG.out.okd w w4 _ S1.out)
        go_wp2_with fail
        refine HD.out.mono ?_
        rintro e w5 ⟨pd, rfl, hX⟩
        obtain ⟨AD, mD, rfl⟩ := hX.vec.slice
        have S2 : Hid (Own w No w5 (Asn.vec 3 1 (.slice (some ⟨gf, 0, none⟩) k k) k (fs k (fI s.d 0)) * (Asn.vec 73 2 (.slice AD (lst s.d k).length mD) (lst s.d k).length (dty (lst s.d k)) * aB y k v h (Ls K) s (Asn.blk y.gb 42 (bRow y) * (Asn.vec 31 7 (.slice (some ⟨gn, 0, none⟩) k k) k (nws k now nv) * Y))))) := Lib.hid (hX.re (by rw [fs_congr k (fI s.d 0) (fun _ => 0) (fun p _ => fI_zero s.d p)]; unfold aB; ac_rfl))
        clear hX S1 HD c0' c1' c2' c3'
        have hld := lst_le s.d k
        go_wp2_with fail
        go_loopw [14] (fun p14 wr => ∃ i' : Nat, p14 = .int .i64 i' ∧ i' ≤ (lst s.d k).length ∧ Hid (Own w No wr (Asn.vec 3 1 (.slice (some ⟨gf, 0, none⟩) k k) k (fs k (fI s.d i')) * (Asn.vec 73 2 (.slice AD (lst s.d k).length mD) (lst s.d k).length (dty (lst s.d k)) * aB y k v h (Ls K) s (Asn.blk y.gb 42 (bRow y) * (Asn.vec 31 7 (.slice (some ⟨gn, 0, none⟩) k k) k (nws k now nv) * Y)))))) (fun p14 _ => (lst s.d k).length - (intOf p14).toNat)
        case atStart => exact ⟨0, rfl, Nat.zero_le _, S2⟩
        case round =>
          clear S2
          obtain ⟨i', rfl, hi', S2⟩ := hrel
          by_cases hlt' : i' < (lst s.d k).length
          · as_aux_lemma =>
            obtain ⟨yd, hyd⟩ : ∃ z, (lst s.d k)[i']? = some z := ⟨(lst s.d k)[i']'hlt', List.getElem?_eq_getElem _⟩
            obtain ⟨q, hq, hdq, hlq⟩ := lst_mem s.d k i' yd hyd
            have hpq := HG.out.okd q yd hdq
            obtain ⟨bd, rfl⟩ : ∃ b, AD = some ⟨b, 0, none⟩ := by
              rcases S2.out.right.vec.forms with ⟨-, hz⟩ | ⟨g, cap, he, -⟩
              · omega
              · cases he; exact ⟨_, rfl⟩
            have d0 : wr.cell? ⟨bd, i' * 2, none⟩ = some (.int .i64 yd.page) := S2.out.right.vec.cell (j := i' * 2 + 0) (by rw [dty_at _ i' yd hyd 0 (by decide)]; rfl)
            have d1 : wr.cell? ⟨bd, i' * 2 + 1, none⟩ = some (.int .i64 yd.first) := S2.out.right.vec.cell (by rw [dty_at _ i' yd hyd 1 (by decide)]; rfl)
            rw [hpq] at d0
            have f0 := S2.out.vec.cell (fs_at k (fI s.d i') q hq)
            have f1 := S2.out.vec.free q
            have S3 := (S2.out.set (Sets.l (sets_vec _ _ _ _ _ _ q (by omega) (.int .i64 (yd.first : Int))))).drew
            rw [fs_set, fs_congr k _ (fI s.d (i' + 1)) (fun p _ => fI_step s.d i' q yd hdq hlq p)] at S3
            have S4 := Lib.hid S3
            clear S3 S2 hyd hdq hlq hpq
            generalize (yd.first : Int) = yf at *
            go_upto_region 34 with fail
            go_region
            go_wp2_with fail
            go_roundw
            case rel => exact ⟨i' + 1, by go_num, by omega, S4⟩
            case measure => simp [intOf]; omega
          · obtain rfl : i' = (lst s.d k).length := by omega
            have S3 : Hid (Own w No wr (Mn.aMn y.m Rl.idle * (Sl.aDk y.gd y.m y.b k s.P * (Asn.blk y.gb 42 (bRow y) * (Asn.vec 31 7 (.slice (some ⟨gn, 0, none⟩) k k) k (nws k now nv) * (Asn.vec 3 1 (.slice (some ⟨gf, 0, none⟩) k k) k (fs k (fF s.d)) * (Asn.vec 73 2 (.slice AD (lst s.d k).length mD) (lst s.d k).length (dty (lst s.d k)) * (aTr y.g y.gd y.gl v.hv v.ov (lst h k) (lst s.d k) * (aLg y.gl y.gr y.m 65536 v.lv (Ls K) s.safe 0 * Y))))))))) := Lib.hid (S2.out.re (by rw [fs_congr k (fI s.d (lst s.d k).length) (fF s.d) (fun p hp => fI_full s.d k p hp)]; unfold aB; ac_rfl))
            clear S2
            generalize Asn.vec 73 2 (.slice AD (lst s.d k).length mD) (lst s.d k).length (dty (lst s.d k)) * (aTr y.g y.gd y.gl v.hv v.ov (lst h k) (lst s.d k) * (aLg y.gl y.gr y.m 65536 v.lv (Ls K) s.safe 0 * Y)) = Z at *
            have cb := S3.out.right.right.has (Has.l (has_blk _ _ _))
            have c0' : wr.cell? ⟨y.gb, 0, none⟩ = some (.pointer (some ⟨y.m, 0, none⟩)) := cb.cell 0
            clear cb
            have HOff := Lib.hid (Mn.tOff y.m Rl.idle)
            have HOn := Lib.hid (Mn.tOn y.m Rl.idle.off)
            rw [show Rl.idle.off.come = (⟨true, -1, 2⟩ : Mn.Pw) from by simp [Mn.Pw.come, Mn.Pw.off, Rl.idle, wrap64]] at HOn
            have HSet := Lib.hid (Sl.tSettle_off y.gd y.m y.b k s.P Rl.idle.off 0 rfl)
            have hPn : Hid (∀ p, p < k → (Sl.settled s.P 0 k p).now = (s.P p).safe) := Lib.hid fun p hp => settled_now s.P k p hp (HG.out.page p hp).fresh
            generalize Rl.idle.off = q1 at *
            generalize Sl.settled s.P 0 k = P2 at *
            go_wp2_with fail
            refine (S3.out.call HOff.out.l).mono ?_
            rintro e w6 ⟨rfl, hX⟩
            have S4 := Lib.hid (hX.re (show _ = (Sl.aDk y.gd y.m y.b k s.P * Mn.aMn y.m q1) * (Asn.blk y.gb 42 (bRow y) * (Asn.vec 31 7 (.slice (some ⟨gn, 0, none⟩) k k) k (nws k now nv) * (Asn.vec 3 1 (.slice (some ⟨gf, 0, none⟩) k k) k (fs k (fF s.d)) * Z))) by ac_rfl))
            clear hX S3 HOff c0'
            have cb := S4.out.right.has (Has.l (has_blk _ _ _))
            have c1' : w6.cell? ⟨y.gb, 1, none⟩ = some (.pointer (some ⟨y.gd, 0, none⟩)) := cb.cell 1
            clear cb
            go_wp2_with fail
            refine (S4.out.call HSet.out.l).mono ?_
            rintro e w7 ⟨rfl, hX⟩
            have S5 := Lib.hid (hX.re (show _ = Mn.aMn y.m q1 * (Sl.aDk y.gd y.m y.b k P2 * (Asn.blk y.gb 42 (bRow y) * (Asn.vec 31 7 (.slice (some ⟨gn, 0, none⟩) k k) k (nws k now nv) * (Asn.vec 3 1 (.slice (some ⟨gf, 0, none⟩) k k) k (fs k (fF s.d)) * Z)))) by ac_rfl))
            clear hX S4 HSet c1'
            have cb := S5.out.right.right.has (Has.l (has_blk _ _ _))
            have c0' : w7.cell? ⟨y.gb, 0, none⟩ = some (.pointer (some ⟨y.m, 0, none⟩)) := cb.cell 0
            clear cb
            go_wp2_with fail
            refine (S5.out.call HOn.out.l).mono ?_
            rintro e w8 ⟨rfl, hX⟩
            have S6 := Lib.hid hX
            clear hX S5 HOn c0'
            have F : Hid (∀ W, Own w No W (Mn.aMn y.m ⟨true, -1, 2⟩ * (Sl.aDk y.gd y.m y.b k P2 * (Asn.blk y.gb 42 (bRow y) * (Asn.vec 31 7 (.slice (some ⟨gn, 0, none⟩) k k) k (nws k now nv) * (Asn.vec 3 1 (.slice (some ⟨gf, 0, none⟩) k k) k (fs k (fF s.d)) * Z))))) → W.cell? ⟨y.gb, 1, none⟩ = some (.pointer (some ⟨y.gd, 0, none⟩)) ∧ W.cell? ⟨y.gb, 2, none⟩ = some (.pointer (some ⟨y.gl, 0, none⟩))) := Lib.hid fun W hS => by
              have cb := hS.right.right.has (Has.l (has_blk _ _ _))
              exact ⟨cb.cell 1, cb.cell 2⟩
            have tA := F.out _ S6.out.drew
            have HNew := Lib.hid (new_any y.gd y.gl w _ _ S6.out.drew)
            go_upto_region 39 with fail
            go_region_held3 (fun W : World => W.cell? ⟨y.gb, 1, none⟩ = some (.pointer (some ⟨y.gd, 0, none⟩)) ∧ W.cell? ⟨y.gb, 2, none⟩ = some (.pointer (some ⟨y.gl, 0, none⟩))) (first | exact tA | exact tC) (first | (go_at_call 26; refine HNew.out.mono ?_; rintro e w9 ⟨g2, rfl, hX⟩; have S7 := Lib.hid hX; have tC := F.out _ hX.right))
            have S8 : Hid (Own w No w9 (aTr g2 y.gd y.gl (.slice none 0 0) (.slice none 0 0) (lst (fun _ => none) k) (lst (fun _ => none) k) * (Sl.aDk y.gd y.m y.b k P2 * (Mn.aMn y.m ⟨true, -1, 2⟩ * (Asn.vec 3 1 (.slice (some ⟨gf, 0, none⟩) k k) k (fs k (fF s.d)) * (Asn.vec 31 7 (.slice (some ⟨gn, 0, none⟩) k k) k (nws k now nv) * (Asn.blk y.gb 42 (bRow y) * Z))))))) := Lib.hid (S7.out.re (by rw [lst_empty, lst_empty]; ac_rfl))
            clear S7 S6 F tA tC hX HNew
            generalize Asn.blk y.gb 42 (bRow y) * Z = Z2 at *
            go_wp2_with fail
            go_loopw [16, 17, 18] (fun p16 _ _ wr => ∃ (j : Nat) (hv2 : Value) (h2 : Nat → Option Sh), p16 = .int .i64 j ∧ j ≤ k ∧ Hid (OkS h2) ∧ Hid (∀ p, j ≤ p → h2 p = none) ∧ Hid (Own w No wr (aTr g2 y.gd y.gl hv2 (.slice none 0 0) (lst h2 k) (lst (fun _ => none) k) * (Sl.aDk y.gd y.m y.b k P2 * (Mn.aMn y.m ⟨true, -1, 2⟩ * (Asn.vec 3 1 (.slice (some ⟨gf, 0, none⟩) k k) k (fs k (fF s.d)) * (Asn.vec 31 7 (.slice (some ⟨gn, 0, none⟩) k k) k (nws k now nv) * Z2))))))) (fun p16 _ _ _ => k - (intOf p16).toNat)
            case atStart => exact ⟨0, .slice none 0 0, fun _ => none, rfl, Nat.zero_le _, Lib.hid empty_ok, Lib.hid (fun _ _ => rfl), S8⟩
            case round =>
              clear S8
              obtain ⟨j, hv2, h2, rfl, hj, HO2, HN2, S8⟩ := hrel
              by_cases hlj : j < k
              · have hg1 := HG.out.page j hlj
                obtain ⟨n0, t0, hs0, hc0, hf0, hd0, hd1⟩ := hg1.safe
                have hl0 : n0.list.length ≤ 100000 := by have := (goods (fits_good hf0).1).ll; omega
                have HNd := Lib.hid (node_miss k g2 y.gd y.gl y.m y.b hv2 (.slice none 0 0) P2 ⟨true, -1, 2⟩ (by omega) h2 HO2.out (fun _ => none) rfl j hlj (HN2.out j (Nat.le_refl _)) t0 (by rw [hPn.out j hlj, hs0]) n0 hc0 hl0 w _ _ HT.out S8.out)
                unfold nodCells tPtr at HNd
                go_wp2_with fail
                refine HNd.out.mono ?_
                rintro e w10 ⟨⟨v1, hv3, lv3⟩, rfl, hX⟩
                dsimp only at hX
                obtain ⟨AV, cV, rfl⟩ := (show Own w No w10 (Asn.vec 84 3 v1 n0.list.length (cells3 n0.list) * _) from hX).vec.slice
                have S9 := Lib.hid ((hX.alloc #[.int .i64 n0.tree, .int .i64 n0.level, .int .i64 n0.stamp, .bool n0.has, .string (ofL n0.high), .int .i64 n0.right, .slice AV n0.list.length cV] 31).re (show _ = Asn.vec 3 1 (.slice (some ⟨gf, 0, none⟩) k k) k (fs k (fF s.d)) * (Asn.vec 31 7 (.slice (some ⟨gn, 0, none⟩) k k) k (nws k now nv) * (Asn.blk w10.heap.size 31 #[.int .i64 n0.tree, .int .i64 n0.level, .int .i64 n0.stamp, .bool n0.has, .string (ofL n0.high), .int .i64 n0.right, .slice AV n0.list.length cV] * (aEnts n0 (.slice AV n0.list.length cV) * (aTr g2 y.gd y.gl hv3 (.slice none 0 0) (lst (put h2 j (some ⟨j, n0, lv3⟩)) k) (lst (fun _ => none) k) * (Sl.aDk y.gd y.m y.b k P2 * (Mn.aMn y.m ⟨true, -1, 2⟩ * Z2)))))) by ac_rfl))
                clear hX S8 HNd
                go_upto_region 44 with fail
                obtain ⟨g17, hgz⟩ : ∃ g, g = w10.heap.size := ⟨_, rfl⟩
                rw [← hgz] at S9 ⊢
                clear hgz
                generalize w10.alloc _ = w11 at *
                have hnw := fun (q : Nat) (hq : q < 7) => nws_at k now nv j q hlj hq
                have F : Hid (∀ W, Own w No W (Asn.vec 3 1 (.slice (some ⟨gf, 0, none⟩) k k) k (fs k (fF s.d)) * (Asn.vec 31 7 (.slice (some ⟨gn, 0, none⟩) k k) k (nws k now nv) * (Asn.blk g17 31 #[.int .i64 n0.tree, .int .i64 n0.level, .int .i64 n0.stamp, .bool n0.has, .string (ofL n0.high), .int .i64 n0.right, .slice AV n0.list.length cV] * (aEnts n0 (.slice AV n0.list.length cV) * (aTr g2 y.gd y.gl hv3 (.slice none 0 0) (lst (put h2 j (some ⟨j, n0, lv3⟩)) k) (lst (fun _ => none) k) * (Sl.aDk y.gd y.m y.b k P2 * (Mn.aMn y.m ⟨true, -1, 2⟩ * Z2))))))) → W.cell? ⟨gf, j, none⟩ = some (.int .i64 (fF s.d j)) ∧ W.cell? ⟨g17, 0, none⟩ = some (.int .i64 n0.tree) ∧ W.cell? ⟨g17, 1, none⟩ = some (.int .i64 n0.level) ∧ W.cell? ⟨g17, 2, none⟩ = some (.int .i64 n0.stamp) ∧ W.cell? ⟨g17, 3, none⟩ = some (.bool n0.has) ∧ W.cell? ⟨g17, 4, none⟩ = some (.string (ofL n0.high)) ∧ W.cell? ⟨g17, 5, none⟩ = some (.int .i64 n0.right) ∧ W.cell? ⟨g17, 6, none⟩ = some (.slice AV n0.list.length cV) ∧ W.cell? ⟨gn, j * 7, none⟩ = some (.int .i64 (now j).tree) ∧ W.cell? ⟨gn, j * 7 + 1, none⟩ = some (.int .i64 (now j).level) ∧ W.cell? ⟨gn, j * 7 + 2, none⟩ = some (.int .i64 (now j).stamp) ∧ W.cell? ⟨gn, j * 7 + 3, none⟩ = some (.bool (now j).has) ∧ W.cell? ⟨gn, j * 7 + 4, none⟩ = some (.string (ofL (now j).high)) ∧ W.cell? ⟨gn, j * 7 + 5, none⟩ = some (.int .i64 (now j).right) ∧ W.cell? ⟨gn, j * 7 + 6, none⟩ = some (nv j)) := Lib.hid fun W hS => by
                  have hb := hS.right.right.has (Has.l (has_blk _ _ _))
                  have hv' := hS.right.vec
                  exact ⟨hS.vec.cell (fs_at k (fF s.d) j hlj), hb.cell 0, hb.cell 1, hb.cell 2, hb.cell 3, hb.cell 4, hb.cell 5, hb.cell 6, hv'.cell (j := j * 7 + 0) (hnw 0 (by decide)), hv'.cell (hnw 1 (by decide)), hv'.cell (hnw 2 (by decide)), hv'.cell (hnw 3 (by decide)), hv'.cell (hnw 4 (by decide)), hv'.cell (hnw 5 (by decide)), hv'.cell (hnw 6 (by decide))⟩
                clear hnw
                have HO3 : Hid (OkS (put h2 j (some ⟨j, n0, lv3⟩))) := Lib.hid (HO2.out.put _ _ fun z hz => by cases hz; rfl)
                have HN3 : Hid (∀ p, j + 1 ≤ p → put h2 j (some ⟨j, n0, lv3⟩) p = none) := Lib.hid fun p hp => by rw [put_other _ _ _ _ (by omega)]; exact HN2.out p (by omega)
                obtain ⟨AN, cN, hnvj⟩ : ∃ A c, nv j = .slice A (now j).list.length c := (HR.out j hlj).slice
                cases hdj : s.d j with
                | none => as_aux_lemma =>
                  have e0 := hd0 hdj
                  subst e0
                  have hfz : fF s.d j = 0 := by unfold fF; rw [hdj]
                  rw [hfz, hnvj] at F
                  have tA := F.out _ S9.out.drew
                  have HSm := Lib.hid (Same_any (now j) (now j) _ _ _ (ents_at S9.out.drew.right.right.right.left) ⟨nv j, rfl, (HR.out j hlj).keep S9.out.drew.bel⟩)
                  unfold nodCells at HSm
                  rw [hnvj, decide_eq_true rfl] at HSm
                  clear hd0 hd1 hc0 hs0 hg1
                  refine wp_region_held_drew (S := fun W => W.cell? ⟨gf, j, none⟩ = some (.int .i64 0) ∧ W.cell? ⟨g17, 0, none⟩ = some (.int .i64 (now j).tree) ∧ W.cell? ⟨g17, 1, none⟩ = some (.int .i64 (now j).level) ∧ W.cell? ⟨g17, 2, none⟩ = some (.int .i64 (now j).stamp) ∧ W.cell? ⟨g17, 3, none⟩ = some (.bool (now j).has) ∧ W.cell? ⟨g17, 4, none⟩ = some (.string (ofL (now j).high)) ∧ W.cell? ⟨g17, 5, none⟩ = some (.int .i64 (now j).right) ∧ W.cell? ⟨g17, 6, none⟩ = some (.slice AV (now j).list.length cV) ∧ W.cell? ⟨gn, j * 7, none⟩ = some (.int .i64 (now j).tree) ∧ W.cell? ⟨gn, j * 7 + 1, none⟩ = some (.int .i64 (now j).level) ∧ W.cell? ⟨gn, j * 7 + 2, none⟩ = some (.int .i64 (now j).stamp) ∧ W.cell? ⟨gn, j * 7 + 3, none⟩ = some (.bool (now j).has) ∧ W.cell? ⟨gn, j * 7 + 4, none⟩ = some (.string (ofL (now j).high)) ∧ W.cell? ⟨gn, j * 7 + 5, none⟩ = some (.int .i64 (now j).right) ∧ W.cell? ⟨gn, j * 7 + 6, none⟩ = some (.slice AN (now j).list.length cN)) (by kernel_rfl) tA (fun hHeld => ?_)
                  refine' wpAnyH_take (i := 0) (oi := ?oqz0) (v := ?vqz0) ?hqz0 ?sqz0 ?fqz0 ?zqz0 ?qqz0 ?yqz0 ?aqz0 ?rqz0
                  case hqz0 => (simp only [List.getElem?_toArray, List.getElem?_cons_succ, List.getElem?_cons_zero]; rfl)
                  case sqz0 => kernel_rfl
                  case fqz0 => kernel_rfl
                  case zqz0 => kernel_rfl
                  case qqz0 => exact fun _ _ _ h => h
                  case yqz0 => (refine Or.inl ⟨rfl, ?_⟩; intro w hSw; (try dsimp only at hSw); go_simp; try with_reducible rfl)
                  case aqz0 => assumption
                  case rqz0 =>
                  simp only [Act.put, List.setIfInBounds_toArray, List.set_cons_zero, List.set_cons_succ]
                  refine' wpAnyH_take (i := 1) (oi := ?oqz1) (v := ?vqz1) ?hqz1 ?sqz1 ?fqz1 ?zqz1 ?qqz1 ?yqz1 ?aqz1 ?rqz1
                  case hqz1 => (simp only [List.getElem?_toArray, List.getElem?_cons_succ, List.getElem?_cons_zero]; rfl)
                  case sqz1 => kernel_rfl
                  case fqz1 => kernel_rfl
                  case zqz1 => kernel_rfl
                  case qqz1 => exact fun _ _ _ h => h
                  case yqz1 => (refine Or.inl ⟨rfl, ?_⟩; intro w hSw; (try dsimp only at hSw); go_simp; try with_reducible rfl)
                  case aqz1 => assumption
                  case rqz1 =>
                  simp only [Act.put, List.setIfInBounds_toArray, List.set_cons_zero, List.set_cons_succ]
                  refine' wpAnyH_take (i := 2) (oi := ?oqz2) (v := ?vqz2) ?hqz2 ?sqz2 ?fqz2 ?zqz2 ?qqz2 ?yqz2 ?aqz2 ?rqz2
                  case hqz2 => (simp only [List.getElem?_toArray, List.getElem?_cons_succ, List.getElem?_cons_zero]; rfl)
                  case sqz2 => kernel_rfl
                  case fqz2 => kernel_rfl
                  case zqz2 => kernel_rfl
                  case qqz2 => exact fun _ _ _ h => h
                  case yqz2 => (refine Or.inl ⟨rfl, ?_⟩; intro w hSw; (try dsimp only at hSw); go_simp; try with_reducible rfl)
                  case aqz2 => assumption
                  case rqz2 =>
                  simp only [Act.put, List.setIfInBounds_toArray, List.set_cons_zero, List.set_cons_succ]
                  refine' wpAnyH_take (i := 3) (oi := ?oqz3) (v := ?vqz3) ?hqz3 ?sqz3 ?fqz3 ?zqz3 ?qqz3 ?yqz3 ?aqz3 ?rqz3
                  case hqz3 => (simp only [List.getElem?_toArray, List.getElem?_cons_succ, List.getElem?_cons_zero]; rfl)
                  case sqz3 => kernel_rfl
                  case fqz3 => kernel_rfl
                  case zqz3 => kernel_rfl
                  case qqz3 => exact fun _ _ _ h => h
                  case yqz3 => (refine Or.inl ⟨rfl, ?_⟩; intro w hSw; (try dsimp only at hSw); go_simp; try with_reducible rfl)
                  case aqz3 => assumption
                  case rqz3 =>
                  simp only [Act.put, List.setIfInBounds_toArray, List.set_cons_zero, List.set_cons_succ]
                  refine' wpAnyH_take (i := 4) (oi := ?oqz4) (v := ?vqz4) ?hqz4 ?sqz4 ?fqz4 ?zqz4 ?qqz4 ?yqz4 ?aqz4 ?rqz4
                  case hqz4 => (simp only [List.getElem?_toArray, List.getElem?_cons_succ, List.getElem?_cons_zero]; rfl)
                  case sqz4 => kernel_rfl
                  case fqz4 => kernel_rfl
                  case zqz4 => kernel_rfl
                  case qqz4 => exact fun _ _ _ h => h
                  case yqz4 => (refine Or.inl ⟨rfl, ?_⟩; intro w hSw; (try dsimp only at hSw); go_simp; try with_reducible rfl)
                  case aqz4 => assumption
                  case rqz4 =>
                  simp only [Act.put, List.setIfInBounds_toArray, List.set_cons_zero, List.set_cons_succ]
                  refine' wpAnyH_take (i := 5) (oi := ?oqz5) (v := ?vqz5) ?hqz5 ?sqz5 ?fqz5 ?zqz5 ?qqz5 ?yqz5 ?aqz5 ?rqz5
                  case hqz5 => (simp only [List.getElem?_toArray, List.getElem?_cons_succ, List.getElem?_cons_zero]; rfl)
                  case sqz5 => kernel_rfl
                  case fqz5 => kernel_rfl
                  case zqz5 => kernel_rfl
                  case qqz5 => exact fun _ _ _ h => h
                  case yqz5 => (refine Or.inl ⟨rfl, ?_⟩; intro w hSw; (try dsimp only at hSw); go_simp; try with_reducible rfl)
                  case aqz5 => assumption
                  case rqz5 =>
                  simp only [Act.put, List.setIfInBounds_toArray, List.set_cons_zero, List.set_cons_succ]
                  refine' wpAnyH_take (i := 6) (oi := ?oqz6) (v := ?vqz6) ?hqz6 ?sqz6 ?fqz6 ?zqz6 ?qqz6 ?yqz6 ?aqz6 ?rqz6
                  case hqz6 => (simp only [List.getElem?_toArray, List.getElem?_cons_succ, List.getElem?_cons_zero]; rfl)
                  case sqz6 => kernel_rfl
                  case fqz6 => kernel_rfl
                  case zqz6 => kernel_rfl
                  case qqz6 => exact fun _ _ _ h => h
                  case yqz6 => (refine Or.inl ⟨rfl, ?_⟩; intro w hSw; (try dsimp only at hSw); go_simp; try with_reducible rfl)
                  case aqz6 => assumption
                  case rqz6 =>
                  simp only [Act.put, List.setIfInBounds_toArray, List.set_cons_zero, List.set_cons_succ]
                  refine' wpAnyH_take (i := 7) (oi := ?oqz7) (v := ?vqz7) ?hqz7 ?sqz7 ?fqz7 ?zqz7 ?qqz7 ?yqz7 ?aqz7 ?rqz7
                  case hqz7 => (simp only [List.getElem?_toArray, List.getElem?_cons_succ, List.getElem?_cons_zero]; rfl)
                  case sqz7 => kernel_rfl
                  case fqz7 => kernel_rfl
                  case zqz7 => kernel_rfl
                  case qqz7 => exact fun _ _ _ h => h
                  case yqz7 => (refine Or.inl ⟨rfl, ?_⟩; intro w hSw; (try dsimp only at hSw); go_simp; try with_reducible rfl)
                  case aqz7 => assumption
                  case rqz7 =>
                  simp only [Act.put, List.setIfInBounds_toArray, List.set_cons_zero, List.set_cons_succ]
                  refine' wpAnyH_take (i := 8) (oi := ?oqz8) (v := ?vqz8) ?hqz8 ?sqz8 ?fqz8 ?zqz8 ?qqz8 ?yqz8 ?aqz8 ?rqz8
                  case hqz8 => (simp only [List.getElem?_toArray, List.getElem?_cons_succ, List.getElem?_cons_zero]; rfl)
                  case sqz8 => kernel_rfl
                  case fqz8 => kernel_rfl
                  case zqz8 => kernel_rfl
                  case qqz8 => exact fun _ _ _ h => h
                  case yqz8 => (refine Or.inl ⟨rfl, ?_⟩; intro w hSw; (try dsimp only at hSw); go_simp; try with_reducible rfl)
                  case aqz8 => assumption
                  case rqz8 =>
                  simp only [Act.put, List.setIfInBounds_toArray, List.set_cons_zero, List.set_cons_succ]
                  refine' wpAnyH_take (i := 9) (oi := ?oqz9) (v := ?vqz9) ?hqz9 ?sqz9 ?fqz9 ?zqz9 ?qqz9 ?yqz9 ?aqz9 ?rqz9
                  case hqz9 => (simp only [List.getElem?_toArray, List.getElem?_cons_succ, List.getElem?_cons_zero]; rfl)
                  case sqz9 => kernel_rfl
                  case fqz9 => kernel_rfl
                  case zqz9 => kernel_rfl
                  case qqz9 => exact fun _ _ _ h => h
                  case yqz9 => (refine Or.inl ⟨rfl, ?_⟩; intro w hSw; (try dsimp only at hSw); go_simp; try with_reducible rfl)
                  case aqz9 => assumption
                  case rqz9 =>
                  simp only [Act.put, List.setIfInBounds_toArray, List.set_cons_zero, List.set_cons_succ]
                  refine' wpAnyH_take (i := 10) (oi := ?oqz10) (v := ?vqz10) ?hqz10 ?sqz10 ?fqz10 ?zqz10 ?qqz10 ?yqz10 ?aqz10 ?rqz10
                  case hqz10 => (simp only [List.getElem?_toArray, List.getElem?_cons_succ, List.getElem?_cons_zero]; rfl)
                  case sqz10 => kernel_rfl
                  case fqz10 => kernel_rfl
                  case zqz10 => kernel_rfl
                  case qqz10 => exact fun _ _ _ h => h
                  case yqz10 => (refine Or.inl ⟨rfl, ?_⟩; intro w hSw; (try dsimp only at hSw); go_simp; try with_reducible rfl)
                  case aqz10 => assumption
                  case rqz10 =>
                  simp only [Act.put, List.setIfInBounds_toArray, List.set_cons_zero, List.set_cons_succ]
                  refine' wpAnyH_take (i := 11) (oi := ?oqz11) (v := ?vqz11) ?hqz11 ?sqz11 ?fqz11 ?zqz11 ?qqz11 ?yqz11 ?aqz11 ?rqz11
                  case hqz11 => (simp only [List.getElem?_toArray, List.getElem?_cons_succ, List.getElem?_cons_zero]; rfl)
                  case sqz11 => kernel_rfl
                  case fqz11 => kernel_rfl
                  case zqz11 => kernel_rfl
                  case qqz11 => exact fun _ _ _ h => h
                  case yqz11 => (refine Or.inl ⟨rfl, ?_⟩; intro w hSw; (try dsimp only at hSw); go_simp; try with_reducible rfl)
                  case aqz11 => assumption
                  case rqz11 =>
                  simp only [Act.put, List.setIfInBounds_toArray, List.set_cons_zero, List.set_cons_succ]
                  refine' wpAnyH_take (i := 12) (oi := ?oqz12) (v := ?vqz12) ?hqz12 ?sqz12 ?fqz12 ?zqz12 ?qqz12 ?yqz12 ?aqz12 ?rqz12
                  case hqz12 => (simp only [List.getElem?_toArray, List.getElem?_cons_succ, List.getElem?_cons_zero]; rfl)
                  case sqz12 => kernel_rfl
                  case fqz12 => kernel_rfl
                  case zqz12 => kernel_rfl
                  case qqz12 => exact fun _ _ _ h => h
                  case yqz12 => (refine Or.inl ⟨rfl, ?_⟩; intro w hSw; (try dsimp only at hSw); go_simp; try with_reducible rfl)
                  case aqz12 => assumption
                  case rqz12 =>
                  simp only [Act.put, List.setIfInBounds_toArray, List.set_cons_zero, List.set_cons_succ]
                  refine' wpAnyH_take (i := 13) (oi := ?oqz13) (v := ?vqz13) ?hqz13 ?sqz13 ?fqz13 ?zqz13 ?qqz13 ?yqz13 ?aqz13 ?rqz13
                  case hqz13 => (simp only [List.getElem?_toArray, List.getElem?_cons_succ, List.getElem?_cons_zero]; rfl)
                  case sqz13 => kernel_rfl
                  case fqz13 => kernel_rfl
                  case zqz13 => kernel_rfl
                  case qqz13 => exact fun _ _ _ h => h
                  case yqz13 => (refine Or.inl ⟨rfl, ?_⟩; intro w hSw; (try dsimp only at hSw); go_simp; try with_reducible rfl)
                  case aqz13 => assumption
                  case rqz13 =>
                  simp only [Act.put, List.setIfInBounds_toArray, List.set_cons_zero, List.set_cons_succ]
                  refine wpAnyH_ready (rs := [14]) (by kernel_rfl) (by simp) ?_
                  refine' AllReadyH.cons (o := ?oqz14) ?hqz14 ?kqz14 AllReadyH.nil
                  case hqz14 => (simp only [List.getElem?_toArray, List.getElem?_cons_succ, List.getElem?_cons_zero]; rfl)
                  case kqz14 =>
                  intro K hK
                  go_simp
                  go_at_call 27
                  refine HSm.out.mono ?_
                  rintro e w12 ⟨rfl, hX⟩
                  have S12 := Lib.hid (S9.out.drew.below hX)
                  have tC := F.out _ S12.out
                  clear hX
                  refine hK.out _ _ ?_ (fun hHeld => ?_)
                  · exact tC
                  clear hK K
                  (try simp only [Act.put, List.setIfInBounds_toArray, List.set_cons_zero, List.set_cons_succ])
                  refine' wpAnyH_take (i := 15) (oi := ?oqz15) (v := ?vqz15) ?hqz15 ?sqz15 ?fqz15 ?zqz15 ?qqz15 ?yqz15 ?aqz15 ?rqz15
                  case hqz15 => (simp only [List.getElem?_toArray, List.getElem?_cons_succ, List.getElem?_cons_zero]; rfl)
                  case sqz15 => kernel_rfl
                  case fqz15 => kernel_rfl
                  case zqz15 => kernel_rfl
                  case qqz15 => exact fun _ _ _ h => h
                  case yqz15 => (refine Or.inl ⟨rfl, ?_⟩; intro w hSw; (try dsimp only at hSw); go_simp; try with_reducible rfl)
                  case aqz15 => assumption
                  case rqz15 =>
                  simp only [Act.put, List.setIfInBounds_toArray, List.set_cons_zero, List.set_cons_succ]
                  refine' wpAnyH_take (i := 16) (oi := ?oqz16) (v := ?vqz16) ?hqz16 ?sqz16 ?fqz16 ?zqz16 ?qqz16 ?yqz16 ?aqz16 ?rqz16
                  case hqz16 => (simp only [List.getElem?_toArray, List.getElem?_cons_succ, List.getElem?_cons_zero]; rfl)
                  case sqz16 => kernel_rfl
                  case fqz16 => kernel_rfl
                  case zqz16 => kernel_rfl
                  case qqz16 => exact fun _ _ _ h => h
                  case yqz16 => (refine Or.inl ⟨rfl, ?_⟩; intro w hSw; (try dsimp only at hSw); go_simp; try with_reducible rfl)
                  case aqz16 => assumption
                  case rqz16 =>
                  simp only [Act.put, List.setIfInBounds_toArray, List.set_cons_zero, List.set_cons_succ]
                  refine' wpAnyH_take (i := 17) (oi := ?oqz17) (v := ?vqz17) ?hqz17 ?sqz17 ?fqz17 ?zqz17 ?qqz17 ?yqz17 ?aqz17 ?rqz17
                  case hqz17 => (simp only [List.getElem?_toArray, List.getElem?_cons_succ, List.getElem?_cons_zero]; rfl)
                  case sqz17 => kernel_rfl
                  case fqz17 => kernel_rfl
                  case zqz17 => kernel_rfl
                  case qqz17 => exact fun _ _ _ h => h
                  case yqz17 => (refine Or.inl ⟨rfl, ?_⟩; intro w hSw; (try dsimp only at hSw); go_simp; try with_reducible rfl)
                  case aqz17 => assumption
                  case rqz17 =>
                  simp only [Act.put, List.setIfInBounds_toArray, List.set_cons_zero, List.set_cons_succ]
                  refine' wpAnyH_take (i := 18) (oi := ?oqz18) (v := ?vqz18) ?hqz18 ?sqz18 ?fqz18 ?zqz18 ?qqz18 ?yqz18 ?aqz18 ?rqz18
                  case hqz18 => (simp only [List.getElem?_toArray, List.getElem?_cons_succ, List.getElem?_cons_zero]; rfl)
                  case sqz18 => kernel_rfl
                  case fqz18 => kernel_rfl
                  case zqz18 => kernel_rfl
                  case qqz18 => exact fun _ _ _ h => h
                  case yqz18 => (refine Or.inl ⟨rfl, ?_⟩; intro w hSw; (try dsimp only at hSw); go_simp; try with_reducible rfl)
                  case aqz18 => assumption
                  case rqz18 =>
                  simp only [Act.put, List.setIfInBounds_toArray, List.set_cons_zero, List.set_cons_succ]
                  refine' wpAnyH_take (i := 19) (oi := ?oqz19) (v := ?vqz19) ?hqz19 ?sqz19 ?fqz19 ?zqz19 ?qqz19 ?yqz19 ?aqz19 ?rqz19
                  case hqz19 => (simp only [List.getElem?_toArray, List.getElem?_cons_succ, List.getElem?_cons_zero]; rfl)
                  case sqz19 => kernel_rfl
                  case fqz19 => kernel_rfl
                  case zqz19 => kernel_rfl
                  case qqz19 => exact fun _ _ _ h => h
                  case yqz19 => (refine Or.inl ⟨rfl, ?_⟩; intro w hSw; (try dsimp only at hSw); go_simp; try with_reducible rfl)
                  case aqz19 => assumption
                  case rqz19 =>
                  simp only [Act.put, List.setIfInBounds_toArray, List.set_cons_zero, List.set_cons_succ]
                  refine' wpAnyH_take (i := 20) (oi := ?oqz20) (v := ?vqz20) ?hqz20 ?sqz20 ?fqz20 ?zqz20 ?qqz20 ?yqz20 ?aqz20 ?rqz20
                  case hqz20 => (simp only [List.getElem?_toArray, List.getElem?_cons_succ, List.getElem?_cons_zero]; rfl)
                  case sqz20 => kernel_rfl
                  case fqz20 => kernel_rfl
                  case zqz20 => kernel_rfl
                  case qqz20 => exact fun _ _ _ h => h
                  case yqz20 => (refine Or.inl ⟨rfl, ?_⟩; intro w hSw; (try dsimp only at hSw); go_simp; try with_reducible rfl)
                  case aqz20 => assumption
                  case rqz20 =>
                  simp only [Act.put, List.setIfInBounds_toArray, List.set_cons_zero, List.set_cons_succ]
                  refine' wpAnyH_take (i := 21) (oi := ?oqz21) (v := ?vqz21) ?hqz21 ?sqz21 ?fqz21 ?zqz21 ?qqz21 ?yqz21 ?aqz21 ?rqz21
                  case hqz21 => (simp only [List.getElem?_toArray, List.getElem?_cons_succ, List.getElem?_cons_zero]; rfl)
                  case sqz21 => kernel_rfl
                  case fqz21 => kernel_rfl
                  case zqz21 => kernel_rfl
                  case qqz21 => exact fun _ _ _ h => h
                  case yqz21 => (refine Or.inl ⟨rfl, ?_⟩; intro w hSw; (try dsimp only at hSw); go_simp; try with_reducible rfl)
                  case aqz21 => assumption
                  case rqz21 =>
                  simp only [Act.put, List.setIfInBounds_toArray, List.set_cons_zero, List.set_cons_succ]
                  refine' wpAnyH_take (i := 22) (oi := ?oqz22) (v := ?vqz22) ?hqz22 ?sqz22 ?fqz22 ?zqz22 ?qqz22 ?yqz22 ?aqz22 ?rqz22
                  case hqz22 => (simp only [List.getElem?_toArray, List.getElem?_cons_succ, List.getElem?_cons_zero]; rfl)
                  case sqz22 => kernel_rfl
                  case fqz22 => kernel_rfl
                  case zqz22 => kernel_rfl
                  case qqz22 => exact fun _ _ _ h => h
                  case yqz22 => (refine Or.inl ⟨rfl, ?_⟩; intro w hSw; (try dsimp only at hSw); go_simp; try with_reducible rfl)
                  case aqz22 => assumption
                  case rqz22 =>
                  simp only [Act.put, List.setIfInBounds_toArray, List.set_cons_zero, List.set_cons_succ]
                  refine' wpAnyH_take (i := 23) (oi := ?oqz23) (v := ?vqz23) ?hqz23 ?sqz23 ?fqz23 ?zqz23 ?qqz23 ?yqz23 ?aqz23 ?rqz23
                  case hqz23 => (simp only [List.getElem?_toArray, List.getElem?_cons_succ, List.getElem?_cons_zero]; rfl)
                  case sqz23 => kernel_rfl
                  case fqz23 => kernel_rfl
                  case zqz23 => kernel_rfl
                  case qqz23 => exact fun _ _ _ h => h
                  case yqz23 => (refine Or.inl ⟨rfl, ?_⟩; intro w hSw; (try dsimp only at hSw); go_simp; try with_reducible rfl)
                  case aqz23 => assumption
                  case rqz23 =>
                  simp only [Act.put, List.setIfInBounds_toArray, List.set_cons_zero, List.set_cons_succ]
                  refine' wpAnyH_take (i := 24) (oi := ?oqz24) (v := ?vqz24) ?hqz24 ?sqz24 ?fqz24 ?zqz24 ?qqz24 ?yqz24 ?aqz24 ?rqz24
                  case hqz24 => (simp only [List.getElem?_toArray, List.getElem?_cons_succ, List.getElem?_cons_zero]; rfl)
                  case sqz24 => kernel_rfl
                  case fqz24 => kernel_rfl
                  case zqz24 => kernel_rfl
                  case qqz24 => exact fun _ _ _ h => h
                  case yqz24 => (refine Or.inl ⟨rfl, ?_⟩; intro w hSw; (try dsimp only at hSw); go_simp; try with_reducible rfl)
                  case aqz24 => assumption
                  case rqz24 =>
                  simp only [Act.put, List.setIfInBounds_toArray, List.set_cons_zero, List.set_cons_succ]
                  refine' wpAnyH_take (i := 25) (oi := ?oqz25) (v := undef) ?hqz25 ?sqz25 ?fqz25 ?zqz25 ?qqz25 ?yqz25 ?aqz25 ?rqz25
                  case hqz25 => (simp only [List.getElem?_toArray, List.getElem?_cons_succ, List.getElem?_cons_zero]; rfl)
                  case sqz25 => kernel_rfl
                  case fqz25 => kernel_rfl
                  case zqz25 => kernel_rfl
                  case qqz25 => exact fun _ _ _ h => h
                  case yqz25 => exact Or.inr ⟨rfl, rfl⟩
                  case aqz25 => assumption
                  case rqz25 =>
                  simp only [Act.put, List.setIfInBounds_toArray, List.set_cons_zero, List.set_cons_succ]
                  refine' wpAnyH_take (i := 26) (oi := ?oqz26) (v := undef) ?hqz26 ?sqz26 ?fqz26 ?zqz26 ?qqz26 ?yqz26 ?aqz26 ?rqz26
                  case hqz26 => (simp only [List.getElem?_toArray, List.getElem?_cons_succ, List.getElem?_cons_zero]; rfl)
                  case sqz26 => kernel_rfl
                  case fqz26 => kernel_rfl
                  case zqz26 => kernel_rfl
                  case qqz26 => exact fun _ _ _ h => h
                  case yqz26 => exact Or.inr ⟨rfl, rfl⟩
                  case aqz26 => assumption
                  case rqz26 =>
                  simp only [Act.put, List.setIfInBounds_toArray, List.set_cons_zero, List.set_cons_succ]
                  refine' wpAnyH_take (i := 27) (oi := ?oqz27) (v := undef) ?hqz27 ?sqz27 ?fqz27 ?zqz27 ?qqz27 ?yqz27 ?aqz27 ?rqz27
                  case hqz27 => (simp only [List.getElem?_toArray, List.getElem?_cons_succ, List.getElem?_cons_zero]; rfl)
                  case sqz27 => kernel_rfl
                  case fqz27 => kernel_rfl
                  case zqz27 => kernel_rfl
                  case qqz27 => exact fun _ _ _ h => h
                  case yqz27 => exact Or.inr ⟨rfl, rfl⟩
                  case aqz27 => assumption
                  case rqz27 =>
                  simp only [Act.put, List.setIfInBounds_toArray, List.set_cons_zero, List.set_cons_succ]
                  refine' wpAnyH_take (i := 28) (oi := ?oqz28) (v := undef) ?hqz28 ?sqz28 ?fqz28 ?zqz28 ?qqz28 ?yqz28 ?aqz28 ?rqz28
                  case hqz28 => (simp only [List.getElem?_toArray, List.getElem?_cons_succ, List.getElem?_cons_zero]; rfl)
                  case sqz28 => kernel_rfl
                  case fqz28 => kernel_rfl
                  case zqz28 => kernel_rfl
                  case qqz28 => exact fun _ _ _ h => h
                  case yqz28 => exact Or.inr ⟨rfl, rfl⟩
                  case aqz28 => assumption
                  case rqz28 =>
                  simp only [Act.put, List.setIfInBounds_toArray, List.set_cons_zero, List.set_cons_succ]
                  refine' wpAnyH_take (i := 29) (oi := ?oqz29) (v := undef) ?hqz29 ?sqz29 ?fqz29 ?zqz29 ?qqz29 ?yqz29 ?aqz29 ?rqz29
                  case hqz29 => (simp only [List.getElem?_toArray, List.getElem?_cons_succ, List.getElem?_cons_zero]; rfl)
                  case sqz29 => kernel_rfl
                  case fqz29 => kernel_rfl
                  case zqz29 => kernel_rfl
                  case qqz29 => exact fun _ _ _ h => h
                  case yqz29 => exact Or.inr ⟨rfl, rfl⟩
                  case aqz29 => assumption
                  case rqz29 =>
                  simp only [Act.put, List.setIfInBounds_toArray, List.set_cons_zero, List.set_cons_succ]
                  refine' wpAnyH_take (i := 30) (oi := ?oqz30) (v := undef) ?hqz30 ?sqz30 ?fqz30 ?zqz30 ?qqz30 ?yqz30 ?aqz30 ?rqz30
                  case hqz30 => (simp only [List.getElem?_toArray, List.getElem?_cons_succ, List.getElem?_cons_zero]; rfl)
                  case sqz30 => kernel_rfl
                  case fqz30 => kernel_rfl
                  case zqz30 => kernel_rfl
                  case qqz30 => exact fun _ _ _ h => h
                  case yqz30 => exact Or.inr ⟨rfl, rfl⟩
                  case aqz30 => assumption
                  case rqz30 =>
                  simp only [Act.put, List.setIfInBounds_toArray, List.set_cons_zero, List.set_cons_succ]
                  refine' wpAnyH_take (i := 31) (oi := ?oqz31) (v := undef) ?hqz31 ?sqz31 ?fqz31 ?zqz31 ?qqz31 ?yqz31 ?aqz31 ?rqz31
                  case hqz31 => (simp only [List.getElem?_toArray, List.getElem?_cons_succ, List.getElem?_cons_zero]; rfl)
                  case sqz31 => kernel_rfl
                  case fqz31 => kernel_rfl
                  case zqz31 => kernel_rfl
                  case qqz31 => exact fun _ _ _ h => h
                  case yqz31 => exact Or.inr ⟨rfl, rfl⟩
                  case aqz31 => assumption
                  case rqz31 =>
                  simp only [Act.put, List.setIfInBounds_toArray, List.set_cons_zero, List.set_cons_succ]
                  refine' wpAnyH_take (i := 32) (oi := ?oqz32) (v := undef) ?hqz32 ?sqz32 ?fqz32 ?zqz32 ?qqz32 ?yqz32 ?aqz32 ?rqz32
                  case hqz32 => (simp only [List.getElem?_toArray, List.getElem?_cons_succ, List.getElem?_cons_zero]; rfl)
                  case sqz32 => kernel_rfl
                  case fqz32 => kernel_rfl
                  case zqz32 => kernel_rfl
                  case qqz32 => exact fun _ _ _ h => h
                  case yqz32 => exact Or.inr ⟨rfl, rfl⟩
                  case aqz32 => assumption
                  case rqz32 =>
                  simp only [Act.put, List.setIfInBounds_toArray, List.set_cons_zero, List.set_cons_succ]
                  refine' wpAnyH_take (i := 33) (oi := ?oqz33) (v := undef) ?hqz33 ?sqz33 ?fqz33 ?zqz33 ?qqz33 ?yqz33 ?aqz33 ?rqz33
                  case hqz33 => (simp only [List.getElem?_toArray, List.getElem?_cons_succ, List.getElem?_cons_zero]; rfl)
                  case sqz33 => kernel_rfl
                  case fqz33 => kernel_rfl
                  case zqz33 => kernel_rfl
                  case qqz33 => exact fun _ _ _ h => h
                  case yqz33 => exact Or.inr ⟨rfl, rfl⟩
                  case aqz33 => assumption
                  case rqz33 =>
                  simp only [Act.put, List.setIfInBounds_toArray, List.set_cons_zero, List.set_cons_succ]
                  refine' wpAnyH_take (i := 34) (oi := ?oqz34) (v := undef) ?hqz34 ?sqz34 ?fqz34 ?zqz34 ?qqz34 ?yqz34 ?aqz34 ?rqz34
                  case hqz34 => (simp only [List.getElem?_toArray, List.getElem?_cons_succ, List.getElem?_cons_zero]; rfl)
                  case sqz34 => kernel_rfl
                  case fqz34 => kernel_rfl
                  case zqz34 => kernel_rfl
                  case qqz34 => exact fun _ _ _ h => h
                  case yqz34 => exact Or.inr ⟨rfl, rfl⟩
                  case aqz34 => assumption
                  case rqz34 =>
                  simp only [Act.put, List.setIfInBounds_toArray, List.set_cons_zero, List.set_cons_succ]
                  refine' wpAnyH_take (i := 35) (oi := ?oqz35) (v := undef) ?hqz35 ?sqz35 ?fqz35 ?zqz35 ?qqz35 ?yqz35 ?aqz35 ?rqz35
                  case hqz35 => (simp only [List.getElem?_toArray, List.getElem?_cons_succ, List.getElem?_cons_zero]; rfl)
                  case sqz35 => kernel_rfl
                  case fqz35 => kernel_rfl
                  case zqz35 => kernel_rfl
                  case qqz35 => exact fun _ _ _ h => h
                  case yqz35 => exact Or.inr ⟨rfl, rfl⟩
                  case aqz35 => assumption
                  case rqz35 =>
                  simp only [Act.put, List.setIfInBounds_toArray, List.set_cons_zero, List.set_cons_succ]
                  refine' wpAnyH_take (i := 36) (oi := ?oqz36) (v := undef) ?hqz36 ?sqz36 ?fqz36 ?zqz36 ?qqz36 ?yqz36 ?aqz36 ?rqz36
                  case hqz36 => (simp only [List.getElem?_toArray, List.getElem?_cons_succ, List.getElem?_cons_zero]; rfl)
                  case sqz36 => kernel_rfl
                  case fqz36 => kernel_rfl
                  case zqz36 => kernel_rfl
                  case qqz36 => exact fun _ _ _ h => h
                  case yqz36 => exact Or.inr ⟨rfl, rfl⟩
                  case aqz36 => assumption
                  case rqz36 =>
                  simp only [Act.put, List.setIfInBounds_toArray, List.set_cons_zero, List.set_cons_succ]
                  refine' wpAnyH_take (i := 37) (oi := ?oqz37) (v := undef) ?hqz37 ?sqz37 ?fqz37 ?zqz37 ?qqz37 ?yqz37 ?aqz37 ?rqz37
                  case hqz37 => (simp only [List.getElem?_toArray, List.getElem?_cons_succ, List.getElem?_cons_zero]; rfl)
                  case sqz37 => kernel_rfl
                  case fqz37 => kernel_rfl
                  case zqz37 => kernel_rfl
                  case qqz37 => exact fun _ _ _ h => h
                  case yqz37 => exact Or.inr ⟨rfl, rfl⟩
                  case aqz37 => assumption
                  case rqz37 =>
                  simp only [Act.put, List.setIfInBounds_toArray, List.set_cons_zero, List.set_cons_succ]
                  refine' wpAnyH_take (i := 38) (oi := ?oqz38) (v := undef) ?hqz38 ?sqz38 ?fqz38 ?zqz38 ?qqz38 ?yqz38 ?aqz38 ?rqz38
                  case hqz38 => (simp only [List.getElem?_toArray, List.getElem?_cons_succ, List.getElem?_cons_zero]; rfl)
                  case sqz38 => kernel_rfl
                  case fqz38 => kernel_rfl
                  case zqz38 => kernel_rfl
                  case qqz38 => exact fun _ _ _ h => h
                  case yqz38 => exact Or.inr ⟨rfl, rfl⟩
                  case aqz38 => assumption
                  case rqz38 =>
                  simp only [Act.put, List.setIfInBounds_toArray, List.set_cons_zero, List.set_cons_succ]
                  refine' wpAnyH_take (i := 39) (oi := ?oqz39) (v := undef) ?hqz39 ?sqz39 ?fqz39 ?zqz39 ?qqz39 ?yqz39 ?aqz39 ?rqz39
                  case hqz39 => (simp only [List.getElem?_toArray, List.getElem?_cons_succ, List.getElem?_cons_zero]; rfl)
                  case sqz39 => kernel_rfl
                  case fqz39 => kernel_rfl
                  case zqz39 => kernel_rfl
                  case qqz39 => exact fun _ _ _ h => h
                  case yqz39 => exact Or.inr ⟨rfl, rfl⟩
                  case aqz39 => assumption
                  case rqz39 =>
                  simp only [Act.put, List.setIfInBounds_toArray, List.set_cons_zero, List.set_cons_succ]
                  refine' wpAnyH_take (i := 40) (oi := ?oqz40) (v := undef) ?hqz40 ?sqz40 ?fqz40 ?zqz40 ?qqz40 ?yqz40 ?aqz40 ?rqz40
                  case hqz40 => (simp only [List.getElem?_toArray, List.getElem?_cons_succ, List.getElem?_cons_zero]; rfl)
                  case sqz40 => kernel_rfl
                  case fqz40 => kernel_rfl
                  case zqz40 => kernel_rfl
                  case qqz40 => exact fun _ _ _ h => h
                  case yqz40 => exact Or.inr ⟨rfl, rfl⟩
                  case aqz40 => assumption
                  case rqz40 =>
                  simp only [Act.put, List.setIfInBounds_toArray, List.set_cons_zero, List.set_cons_succ]
                  refine' wpAnyH_take (i := 41) (oi := ?oqz41) (v := undef) ?hqz41 ?sqz41 ?fqz41 ?zqz41 ?qqz41 ?yqz41 ?aqz41 ?rqz41
                  case hqz41 => (simp only [List.getElem?_toArray, List.getElem?_cons_succ, List.getElem?_cons_zero]; rfl)
                  case sqz41 => kernel_rfl
                  case fqz41 => kernel_rfl
                  case zqz41 => kernel_rfl
                  case qqz41 => exact fun _ _ _ h => h
                  case yqz41 => exact Or.inr ⟨rfl, rfl⟩
                  case aqz41 => assumption
                  case rqz41 =>
                  simp only [Act.put, List.setIfInBounds_toArray, List.set_cons_zero, List.set_cons_succ]
                  refine' wpAnyH_take (i := 42) (oi := ?oqz42) (v := undef) ?hqz42 ?sqz42 ?fqz42 ?zqz42 ?qqz42 ?yqz42 ?aqz42 ?rqz42
                  case hqz42 => (simp only [List.getElem?_toArray, List.getElem?_cons_succ, List.getElem?_cons_zero]; rfl)
                  case sqz42 => kernel_rfl
                  case fqz42 => kernel_rfl
                  case zqz42 => kernel_rfl
                  case qqz42 => exact fun _ _ _ h => h
                  case yqz42 => exact Or.inr ⟨rfl, rfl⟩
                  case aqz42 => assumption
                  case rqz42 =>
                  simp only [Act.put, List.setIfInBounds_toArray, List.set_cons_zero, List.set_cons_succ]
                  refine' wpAnyH_take (i := 43) (oi := ?oqz43) (v := undef) ?hqz43 ?sqz43 ?fqz43 ?zqz43 ?qqz43 ?yqz43 ?aqz43 ?rqz43
                  case hqz43 => (simp only [List.getElem?_toArray, List.getElem?_cons_succ, List.getElem?_cons_zero]; rfl)
                  case sqz43 => kernel_rfl
                  case fqz43 => kernel_rfl
                  case zqz43 => kernel_rfl
                  case qqz43 => exact fun _ _ _ h => h
                  case yqz43 => exact Or.inr ⟨rfl, rfl⟩
                  case aqz43 => assumption
                  case rqz43 =>
                  simp only [Act.put, List.setIfInBounds_toArray, List.set_cons_zero, List.set_cons_succ]
                  refine' wpAnyH_take (i := 44) (oi := ?oqz44) (v := ?vqz44) ?hqz44 ?sqz44 ?fqz44 ?zqz44 ?qqz44 ?yqz44 ?aqz44 ?rqz44
                  case hqz44 => (simp only [List.getElem?_toArray, List.getElem?_cons_succ, List.getElem?_cons_zero]; rfl)
                  case sqz44 => kernel_rfl
                  case fqz44 => kernel_rfl
                  case zqz44 => kernel_rfl
                  case qqz44 => exact fun _ _ _ h => h
                  case yqz44 => (refine Or.inl ⟨rfl, ?_⟩; intro w hSw; (try dsimp only at hSw); go_simp; try with_reducible rfl)
                  case aqz44 => assumption
                  case rqz44 =>
                  simp only [Act.put, List.setIfInBounds_toArray, List.set_cons_zero, List.set_cons_succ]
                  refine' wpAnyH_take (i := 45) (oi := ?oqz45) (v := ?vqz45) ?hqz45 ?sqz45 ?fqz45 ?zqz45 ?qqz45 ?yqz45 ?aqz45 ?rqz45
                  case hqz45 => (simp only [List.getElem?_toArray, List.getElem?_cons_succ, List.getElem?_cons_zero]; rfl)
                  case sqz45 => kernel_rfl
                  case fqz45 => kernel_rfl
                  case zqz45 => kernel_rfl
                  case qqz45 => exact fun _ _ _ h => h
                  case yqz45 => (refine Or.inl ⟨rfl, ?_⟩; intro w hSw; (try dsimp only at hSw); go_simp; try with_reducible rfl)
                  case aqz45 => assumption
                  case rqz45 =>
                  simp only [Act.put, List.setIfInBounds_toArray, List.set_cons_zero, List.set_cons_succ]
                  refine wpAnyH_done (by kernel_rfl) ?_ _
                  have S13 : Hid (Own w No w12 (aTr g2 y.gd y.gl hv3 (.slice none 0 0) (lst (put h2 j (some ⟨j, now j, lv3⟩)) k) (lst (fun _ => none) k) * (Sl.aDk y.gd y.m y.b k P2 * (Mn.aMn y.m ⟨true, -1, 2⟩ * (Asn.vec 3 1 (.slice (some ⟨gf, 0, none⟩) k k) k (fs k (fF s.d)) * (Asn.vec 31 7 (.slice (some ⟨gn, 0, none⟩) k k) k (nws k now nv) * Z2)))))) := Lib.hid ((S12.out.re (show _ = (Asn.blk g17 31 #[.int .i64 (now j).tree, .int .i64 (now j).level, .int .i64 (now j).stamp, .bool (now j).has, .string (ofL (now j).high), .int .i64 (now j).right, .slice AV (now j).list.length cV] * aEnts (now j) (.slice AV (now j).list.length cV)) * (aTr g2 y.gd y.gl hv3 (.slice none 0 0) (lst (put h2 j (some ⟨j, now j, lv3⟩)) k) (lst (fun _ => none) k) * (Sl.aDk y.gd y.m y.b k P2 * (Mn.aMn y.m ⟨true, -1, 2⟩ * (Asn.vec 3 1 (.slice (some ⟨gf, 0, none⟩) k k) k (fs k (fF s.d)) * (Asn.vec 31 7 (.slice (some ⟨gn, 0, none⟩) k k) k (nws k now nv) * Z2))))) by ac_rfl)).right)
                  clear S12 S9 F tA tC HSm hnvj hdj hfz
                  clear hHeld
                  clear hHeld
                  go_wp2_with fail
                  go_roundw
                  case rel => exact ⟨j + 1, hv3, _, by go_num, by omega, HO3, HN3, S13⟩
                  case measure => simp [intOf]; omega
                | some yj => as_aux_lemma =>
                  obtain ⟨q1', q2', q3'⟩ := hd1 yj hdj
                  have hfz : fF s.d j = (yj.first : Int) := by unfold fF; rw [hdj]
                  rw [hfz, hnvj] at F
                  obtain ⟨r0, r1, r2, r3, r4, r5, r6, r7, r8, r9, r10, r11, r12, r13, r14⟩ := F.out _ S9.out
                  have z1 : ((yj.first : Int) == 0) = false := beq_eq_false_iff_ne.2 (by omega)
                  have z2 : decide ((0 : Int) < yj.first) = true := decide_eq_true (by omega)
                  have z3 : decide ((yj.first : Int) ≤ n0.stamp) = false := decide_eq_false (by omega)
                  have z4 : decide ((now j).stamp < (yj.first : Int)) = false := decide_eq_false (by omega)
                  clear hd0 hd1 hc0 hs0 hg1 hdj hfz
                  have S13 : Hid (Own w No w11 (aTr g2 y.gd y.gl hv3 (.slice none 0 0) (lst (put h2 j (some ⟨j, n0, lv3⟩)) k) (lst (fun _ => none) k) * (Sl.aDk y.gd y.m y.b k P2 * (Mn.aMn y.m ⟨true, -1, 2⟩ * (Asn.vec 3 1 (.slice (some ⟨gf, 0, none⟩) k k) k (fs k (fF s.d)) * (Asn.vec 31 7 (.slice (some ⟨gn, 0, none⟩) k k) k (nws k now nv) * Z2)))))) := Lib.hid ((S9.out.re (show _ = (Asn.blk g17 31 #[.int .i64 n0.tree, .int .i64 n0.level, .int .i64 n0.stamp, .bool n0.has, .string (ofL n0.high), .int .i64 n0.right, .slice AV n0.list.length cV] * aEnts n0 (.slice AV n0.list.length cV)) * (aTr g2 y.gd y.gl hv3 (.slice none 0 0) (lst (put h2 j (some ⟨j, n0, lv3⟩)) k) (lst (fun _ => none) k) * (Sl.aDk y.gd y.m y.b k P2 * (Mn.aMn y.m ⟨true, -1, 2⟩ * (Asn.vec 3 1 (.slice (some ⟨gf, 0, none⟩) k k) k (fs k (fF s.d)) * (Asn.vec 31 7 (.slice (some ⟨gn, 0, none⟩) k k) k (nws k now nv) * Z2))))) by ac_rfl)).right)
                  clear S9 F
                  go_quiet (fail)
                  have S14 := Lib.hid (S13.out.drewN nq)
                  clear S13 r0 r1 r2 r3 r4 r5 r6 r7 r8 r9 r10 r11 r12 r13 r14
                  go_wp2_with fail
                  go_roundw
                  case rel => exact ⟨j + 1, hv3, _, by go_num, by omega, HO3, HN3, S14⟩
                  case measure => simp [intOf]; omega
              · obtain rfl : j = k := by omega
                have HDl := Lib.hid (Dirty_any g2 y.gd y.gl hv2 (.slice none 0 0) (lst h2 j) (lst (fun _ => none) j) w _ _ (by rw [lst_empty]; decide) S8.out)
                rw [lst_empty] at HDl
                unfold tPtr at HDl
                go_wp2_with fail
                refine HDl.out.mono ?_
                rintro e w10 ⟨p10, rfl, hX⟩
                obtain ⟨A10, m10, rfl⟩ := hX.vec.slice
                have B10 := Lib.hid hX.bel
                clear hX S8 HDl
                go_wp2_with fail
                go_returns
                exact ⟨rfl, B10.out⟩
end Go.Proofs.YtmnfoafpjmlbfaaGreatDoor.Tr
