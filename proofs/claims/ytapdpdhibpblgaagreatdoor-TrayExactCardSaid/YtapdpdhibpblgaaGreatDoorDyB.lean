/- A log: what it has whole, and where a stamp is. -/
import Derived.Test.YtapdpdhibpblgaaGreatDoorDyP
import Derived.Test.YtapdpdhibpblgaaGreatDoorMnC
import Derived.Test.YtapdpdhibpblgaaGreatDoorNtV
import Derived.Test.YtapdpdhibpblgaaGreatDoorNtH
import Derived.Test.YtapdpdhibpblgaaGreatDoorBld
namespace Go.Proofs.YtapdpdhibpblgaaGreatDoor.Nt
open Go.ChangeShapes Go.WideShapes Go.ChangeAt Go.RowKit Go.PlainAid Aid
set_option linter.unusedVariables false
set_option linter.unusedSimpArgs false
def lgRow (gr : Nat) (v : Value) (held : Nat) : Array Value := #[.pointer (some ⟨gr, 0, none⟩), v, .int .i64 held]
/-- A log in block g, on the reel in block gr, on the power in block m. -/
def aLg (g gr m size : Nat) (v : Value) (L : List Rec) (safe held : Nat) : Asn :=
  (Asn.blk g 90 (lgRow gr v held) * Asn.vec 93 2 v L.length (rows 0 L)) * Rl.aRl gr m size (ofL (flat L)) safe
theorem lg_cells {w : World} {g gr held : Nat} {v : Value} (h : Blk w g 90 (lgRow gr v held)) :
    w.cell? ⟨g, 0, none⟩ = some (.pointer (some ⟨gr, 0, none⟩)) ∧ w.cell? ⟨g, 1, none⟩ = some v ∧ w.cell? ⟨g, 2, none⟩ = some (.int .i64 held) ∧ w.frozen? ⟨g, 1, none⟩ = false ∧ w.frozen? ⟨g, 2, none⟩ = false :=
  ⟨h.cell 0, h.cell 1, h.cell 2, h.free 1, h.free 2⟩
theorem lg_fits {w0 w : World} {O0 : Nat → Prop} {g gr m size safe held : Nat} {v : Value} {L : List Rec} (h : Own w0 O0 w (aLg g gr m size v L safe held)) : size ≤ 262144 ∧ (flat L).length ≤ size ∧ safe ≤ (flat L).length := by
  have := h.get (Fact.r (fun w O (h : Rl.Rl w gr m O size (ofL (flat L)) safe) => (⟨h.small, h.fits, h.safe⟩ : size ≤ 262144 ∧ (ofL (flat L)).size ≤ size ∧ safe ≤ (ofL (flat L)).size)))
  rwa [ofL_sz] at this
set_option maxHeartbeats 400000 in
theorem end_any (a : Nat) (s : ByteArray) (w : World) (ha : a ≤ 1099511627776) (hs : s.size ≤ 1099511627776) :
    Calls Tryz.prog 68 #[.agg #[.int .i64 a, .string s]] w fun e w' => e = .returned (.int .i64 ((a : Int) - 1 + s.size)) ∧ Below w.heap.size w w' := by
  have B0 : Hid (Below w.heap.size w (w.alloc (.cells #[.int .i64 a, .string s] 93))) := Lib.hid (blA (Below.refl _ _) _)
  have hw1 : IntKind.i64.wrap ((a : Int) - 1) = (a : Int) - 1 := by rw [IntKind.wrap_i64]; omega
  have hw2 : IntKind.i64.wrap ((a : Int) - 1 + s.size) = (a : Int) - 1 + s.size := by rw [IntKind.wrap_i64]; omega
  go_enter Tryz.func68, Tryz.ntmps68
  go_wp2_with fail
  go_returns
  exact ⟨rfl, B0.out⟩
set_option maxHeartbeats 1000000 in
theorem tThere (g gr m size : Nat) (v : Value) (L : List Rec) (safe held : Nat) :
    Tr Tryz.prog 30 #[.pointer (some ⟨g, 0, none⟩)] (aLg g gr m size v L safe held) v (aLg g gr m size v L safe held) := by
  intro w O hA
  have S := Lib.hid (Own.start hA)
  obtain ⟨k1, k2, k3⟩ := lg_fits S.out
  obtain ⟨A, c, rfl⟩ := S.out.left.vecR.slice
  have HL := Lib.hid (Rl.qLen gr m size (ofL (flat L)) safe)
  rw [ofL_sz] at HL
  obtain ⟨c0, c1, -, -, -⟩ := lg_cells (S.out.has (Has.l (Has.l (has_blk _ _ _))))
  clear hA
  have hmin : L.length = 0 ∨ ∃ k r, L.length = k + 1 ∧ L[k]? = some r ∧ at_ L k + (bytes r).length = (flat L).length + 1 := by
    rcases Nat.eq_zero_or_pos L.length with h | h
    · exact Or.inl h
    · refine Or.inr ⟨L.length - 1, _, by omega, List.getElem?_eq_getElem (by omega), ?_⟩
      rw [← at_next L (L.length - 1) _ (List.getElem?_eq_getElem (by omega)), show L.length - 1 + 1 = L.length by omega, at_full]
  go_enter Tryz.func30, Tryz.ntmps30
  go_wp2_with fail
  go_quiet ((go_at_call 31; exact Calls.quiet_of ((S.out.drewN _).ask HL.out.r)))
  have S1 := Lib.hid (S.out.drewN nq)
  clear S c0 c1
  generalize w.drewN nq = w1 at *
  go_wp2_with fail
  go_loopw [3] (fun n wr => n = .int .i64 L.length ∧ wr = w1) (fun _ _ => 1)
  case atStart => exact ⟨rfl, rfl⟩
  case round =>
    obtain ⟨rfl, rfl⟩ := hrel
    obtain ⟨c0, c1, -, -, -⟩ := lg_cells (S1.out.has (Has.l (Has.l (has_blk _ _ _))))
    rcases hmin with h0 | ⟨k, r, h0, hr, hend⟩
    · go_wp2_with fail
      go_returns
      exact ⟨by show Ending.returned (Value.slice A 0 c) = _; rw [h0], S1.out⟩
    · have hv := S1.out.left.vecR
      rcases hv.forms with ⟨-, hz⟩ | ⟨b, cap, hvv, hb, hnc, hcm⟩
      · omega
      · simp only [Value.slice.injEq, true_and] at hvv
        obtain ⟨rfl, rfl⟩ := hvv
        obtain ⟨q1, q2⟩ := rows_at 0 L k r hr
        have d0 := hv.cell q1
        have d1 := hv.cell q2
        rw [Nat.zero_add] at d0
        have hlen := at_end L k r hr
        have HE := Lib.hid (fun w => end_any (at_ L k) (ofL (bytes r)) w (by omega) (by rw [ofL_sz]; omega))
        have hrs : ((at_ L k : Nat) : Int) - 1 + ((ofL (bytes r)).size : Int) = ((flat L).length : Int) := by rw [ofL_sz]; omega
        rw [hrs] at HE
        clear hv hb hr hend hlen q1 q2 hrs
        have hk : (L.length : Int) - 1 = (k : Int) := by omega
        have hk1 : k < L.length := by omega
        have hlm : (L.length : Int) ≤ 9223372036854775807 := by unfold maxLen at hcm; omega
        clear hcm
        have hw1 : IntKind.i64.wrap ((L.length : Int) - 1) = (k : Int) := by rw [hk, IntKind.wrap_i64]; omega
        generalize ofL (bytes r) = x at *
        generalize at_ L k = a at *
        go_wp2_with fail
        refine (HE.out _).mono ?_
        rintro e w2 ⟨rfl, hX⟩
        have S2 := Lib.hid (S1.out.below hX)
        clear hX S1 HE c0 c1 d0 d1
        obtain ⟨c0, c1, -, -, -⟩ := lg_cells (S2.out.has (Has.l (Has.l (has_blk _ _ _))))
        go_wp2_with fail
        go_returns
        exact ⟨by first | rfl | (show Ending.returned (Value.slice _ (k + 1) c) = _; rw [h0]), S2.out⟩
def cmpI (a b : Int) : Int := if a < b then -1 else if b < a then 1 else 0
set_option maxHeartbeats 400000 in
theorem isNaN_any (a : Int) (w : World) : Calls Tryz.prog 117 #[.int .i64 a] w fun e w' => e = .returned (.bool false) ∧ w' = w := by
  go_enter Tryz.func117, Tryz.ntmps117
  go_wp2_with fail
  go_returns
  exact ⟨rfl, rfl⟩
set_option maxHeartbeats 400000 in
theorem compare_any (a b : Int) (w : World) : Calls Tryz.prog 76 #[.int .i64 a, .int .i64 b] w fun e w' => e = .returned (.int .i64 (cmpI a b)) ∧ w' = w := by
  unfold cmpI
  by_cases h1 : a < b
  · rw [if_pos h1]
    go_enter Tryz.func76, Tryz.ntmps76
    go_wp2_with fail
    refine (isNaN_any _ _).mono ?_
    rintro e w' ⟨rfl, rfl⟩
    go_wp2_with fail
    refine (isNaN_any _ _).mono ?_
    rintro e w' ⟨rfl, rfl⟩
    go_wp2_with fail
    go_returns
    exact ⟨rfl, rfl⟩
  · rw [if_neg h1]
    by_cases h2 : b < a
    · rw [if_pos h2]
      go_enter Tryz.func76, Tryz.ntmps76
      go_wp2_with fail
      refine (isNaN_any _ _).mono ?_
      rintro e w' ⟨rfl, rfl⟩
      go_wp2_with fail
      refine (isNaN_any _ _).mono ?_
      rintro e w' ⟨rfl, rfl⟩
      go_wp2_with fail
      go_returns
      exact ⟨rfl, rfl⟩
    · rw [if_neg h2]
      go_enter Tryz.func76, Tryz.ntmps76
      go_wp2_with fail
      refine (isNaN_any _ _).mono ?_
      rintro e w' ⟨rfl, rfl⟩
      go_wp2_with fail
      refine (isNaN_any _ _).mono ?_
      rintro e w' ⟨rfl, rfl⟩
      go_wp2_with fail
      go_returns
      exact ⟨rfl, rfl⟩
set_option maxHeartbeats 400000 in
theorem byStamp_any (a : Nat) (s : ByteArray) (x : Int) (w : World) :
    Calls Tryz.prog 94 #[.agg #[.int .i64 a, .string s], .int .i64 x] w fun e w' => e = .returned (.int .i64 (cmpI a x)) ∧ Below w.heap.size w w' := by
  have B0 : Hid (Below w.heap.size w (w.alloc (.cells #[.int .i64 a, .string s] 93))) := Lib.hid (blA (Below.refl _ _) _)
  have HC := Lib.hid (fun w => compare_any (a : Int) x w)
  go_enter Tryz.func94, Tryz.ntmps94
  go_wp2_with fail
  refine (HC.out _).mono ?_
  rintro e w' ⟨rfl, rfl⟩
  go_wp2_with fail
  go_returns
  exact ⟨rfl, B0.out⟩
theorem spot_ex (L : List Rec) (x : Int) (m : Nat) (hm : m ≤ L.length) : ∃ i, i ≤ m ∧ (∀ k, k < i → (at_ L k : Int) < x) ∧ ∀ k, i ≤ k → k < m → x ≤ at_ L k := by
  induction m with
  | zero => exact ⟨0, Nat.le_refl _, fun k h => by omega, fun k _ h => by omega⟩
  | succ m ih =>
    obtain ⟨i, h1, h2, h3⟩ := ih (by omega)
    by_cases h : x ≤ at_ L m
    · refine ⟨i, by omega, h2, fun k hk hk2 => ?_⟩
      rcases Nat.lt_or_ge k m with h4 | h4
      · exact h3 k hk h4
      · obtain rfl : k = m := by omega
        exact h
    · refine ⟨m + 1, Nat.le_refl _, fun k hk => ?_, fun k _ _ => by omega⟩
      have := at_le L (show k ≤ m by omega) (by omega)
      omega
set_option maxRecDepth 100000 in
set_option maxHeartbeats 1000000 in
theorem search_any (b c : Nat) (L : List Rec) (x : Int) (i : Nat) (w : World) (hv : Vec w 93 2 (.slice (some ⟨b, 0, none⟩) L.length c) L.length (rows 0 L)) (hn : L.length ≤ 262144)
    (hi : i ≤ L.length) (hlo : ∀ k, k < i → (at_ L k : Int) < x) (hhi : ∀ k, i ≤ k → k < L.length → x ≤ at_ L k) :
    Calls Tryz.prog 93 #[.slice (some ⟨b, 0, none⟩) L.length c, .int .i64 x, .func (.func 94) #[] #[]] w fun e w' =>
      e = .returned (.tuple #[.int .i64 i, .bool (decide (i < L.length ∧ (at_ L i : Int) = x))]) ∧ Below w.heap.size w w' := by
  have HV := Lib.hid hv
  have HLO := Lib.hid hlo
  have HHI := Lib.hid hhi
  have HB := Lib.hid (fun a s w => byStamp_any a s x w)
  have B0 : Hid (Below w.heap.size w w) := Lib.hid (Below.refl _ _)
  clear hv hlo hhi
  go_enter Tryz.func93, Tryz.ntmps93
  go_wp2_with fail
  go_loopw [9, 10, 11] (fun p q _ wr => ∃ lo hi : Nat, p = .int .i64 lo ∧ q = .int .i64 hi ∧ lo ≤ i ∧ i ≤ hi ∧ hi ≤ L.length ∧ Hid (Below w.heap.size w wr)) (fun p q _ _ => (intOf q).toNat - (intOf p).toNat)
  case atStart => exact ⟨0, L.length, rfl, rfl, Nat.zero_le _, hi, Nat.le_refl _, B0⟩
  case round =>
    clear B0
    obtain ⟨lo, hi', rfl, rfl, h1, h2, h3, hB⟩ := hrel
    by_cases hlt : lo < hi'
    · have hw1 : IntKind.u64.wrap ((lo : Int) + hi') = (lo : Int) + hi' := by rw [IntKind.wrap_u64]; omega
      have hw2 : IntKind.i64.wrap ((lo : Int) + hi') = (lo : Int) + hi' := by rw [IntKind.wrap_i64]; omega
      go_upto_region 5 with fail
      obtain ⟨md, hmd⟩ : ∃ md : Nat, ((lo : Int) + hi') / 2 = md := ⟨(lo + hi') / 2, by omega⟩
      have hm1 : lo ≤ md := by omega
      have hm2 : md < hi' := by omega
      obtain ⟨r, hr⟩ : ∃ r, L[md]? = some r := ⟨L[md]'(by omega), List.getElem?_eq_getElem _⟩
      obtain ⟨q1, q2⟩ := rows_at 0 L md r hr
      have HW := HV.out.keepB hB.out
      have d0 := HW.cell q1
      have d1 := HW.cell q2
      rw [Nat.zero_add] at d0
      have hml : md < L.length := by omega
      have hsplit : (md < i ∧ (at_ L md : Int) < x) ∨ (i ≤ md ∧ ¬ (at_ L md : Int) < x) := by
        rcases Nat.lt_or_ge md i with h | h
        · exact Or.inl ⟨h, HLO.out md h⟩
        · exact Or.inr ⟨h, by have := HHI.out md h (by omega); omega⟩
      clear q1 q2 HW hr hw1 hw2
      rw [hmd]
      clear hmd
      generalize ofL (bytes r) = y at *
      generalize at_ L md = a at *
      go_wp2_with fail
      refine (HB.out _ _ _).mono ?_
      rintro e w2 ⟨rfl, hX⟩
      have B1 := Lib.hid (bl hB.out hX)
      clear hB hX d0 d1
      rcases hsplit with ⟨h4, h5⟩ | ⟨h4, h5⟩
      · have hc : cmpI (a : Int) x = -1 := if_pos h5
        rw [hc]
        go_wp2_with fail
        go_roundw
        case rel => exact ⟨md + 1, hi', by go_num, rfl, by omega, h2, h3, B1⟩
        case measure => simp [intOf]; omega
      · have hc : ¬ cmpI (a : Int) x < 0 := by unfold cmpI; split <;> (try split) <;> omega
        have hcb : decide (cmpI (a : Int) x < 0) = false := by simpa using hc
        generalize cmpI (a : Int) x = u at *
        go_wp2_with fail
        go_roundw
        case rel => exact ⟨lo, md, rfl, rfl, h1, h4, by omega, B1⟩
        case measure => simp [intOf]; omega
    · obtain rfl : lo = i := by omega
      obtain rfl : hi' = lo := by omega
      by_cases hin : hi' < L.length
      · obtain ⟨r, hr⟩ : ∃ r, L[hi']? = some r := ⟨L[hi']'(by omega), List.getElem?_eq_getElem _⟩
        obtain ⟨q1, q2⟩ := rows_at 0 L hi' r hr
        have HW := HV.out.keepB hB.out
        have d0 := HW.cell q1
        have d1 := HW.cell q2
        rw [Nat.zero_add] at d0
        have hge := HHI.out hi' (Nat.le_refl _) hin
        clear q1 q2 HW hr
        generalize ofL (bytes r) = y at *
        obtain ⟨a, ha⟩ : ∃ a, a = at_ L hi' := ⟨_, rfl⟩
        rw [← ha] at d0 hge
        have HA := Lib.hid ha
        clear ha
        have hcq : (cmpI (a : Int) x = 0) ↔ ((a : Int) = x) := by unfold cmpI; split <;> (try split) <;> omega
        have HCQ := Lib.hid hcq
        clear hcq
        go_wp2_with fail
        refine (HB.out _ _ _).mono ?_
        rintro e w2 ⟨rfl, hX⟩
        have B1 := Lib.hid (bl hB.out hX)
        clear hB hX d0 d1
        go_wp2_with fail
        go_returns
        refine ⟨?_, B1.out⟩
        rw [← HA.out]
        have : (cmpI (a : Int) x == 0) = decide (hi' < L.length ∧ (a : Int) = x) := by
          rw [Bool.eq_iff_iff]
          simp only [beq_iff_eq, decide_eq_true_eq, HCQ.out]
          exact ⟨fun h => ⟨hin, h⟩, fun h => h.2⟩
        rw [← this]
        rfl
      · go_wp2_with fail
        go_returns
        exact ⟨by simp [hin], hB.out⟩
theorem few_recs (L : List Rec) : L.length * 8 ≤ (flat L).length := by
  induction L with
  | nil => exact Nat.zero_le _
  | cons r L ih =>
    rw [flat_cons, List.length_append, List.length_cons]
    have := bytes_pos r
    omega
def wrV (a : Nat) (r : Rec) : Value := .agg #[.int .i64 a, .string (ofL (bytes r))]
/-- The call makes memory alone, and answers v. -/
theorem searchL (g gr m size : Nat) (v : Value) (L : List Rec) (safe held : Nat) (x : Int) (i : Nat) (hi : i ≤ L.length) (hlo : ∀ k, k < i → (at_ L k : Int) < x) (hhi : ∀ k, i ≤ k → k < L.length → x ≤ at_ L k) :
    Tr Tryz.prog 93 #[v, .int .i64 x, .func (.func 94) #[] #[]] (aLg g gr m size v L safe held) (.tuple #[.int .i64 i, .bool (decide (i < L.length ∧ (at_ L i : Int) = x))]) (aLg g gr m size v L safe held) := by
  intro w O hA
  have S := Own.start hA
  obtain ⟨k1, k2, k3⟩ := lg_fits S
  have hv := S.left.vecR
  have := few_recs L
  rcases hv.forms with ⟨rfl, hz⟩ | ⟨b, cap, rfl, hb, hnc, hcm⟩
  · have B0 : Hid (Own w O w (aLg g gr m size (.slice none 0 0) L safe held)) := Lib.hid S
    obtain rfl : i = 0 := by omega
    have hl : decide (0 < L.length ∧ (at_ L 0 : Int) = x) = false := by simp [hz]
    rw [hl]
    clear hA S hv hlo hhi
    go_enter Tryz.func93, Tryz.ntmps93
    go_wp2_with fail
    go_loopw [9, 10] (fun p q wr => p = .int .i64 (0 : Int) ∧ q = .int .i64 (0 : Int) ∧ wr = w) (fun _ _ _ => 1)
    case atStart => exact ⟨rfl, rfl, rfl⟩
    case round =>
      obtain ⟨rfl, rfl, rfl⟩ := hrel
      go_wp2_with fail
      go_returns
      exact ⟨rfl, B0.out⟩
  · exact (search_any b cap L x i w hv (by omega) hi hlo hhi).mono fun e w' ⟨he, hb⟩ => ⟨he, S.below hb⟩
/-- A log's own. -/
def lPtr (g : Nat) : Value := .pointer (some ⟨g, 0, none⟩)
def noWr : Array Value := #[.int .i64 0, .string ⟨#[]⟩]
theorem two_wr {w : World} {g : Nat} {a b : Value} (h : Blk w g 93 #[a, b]) :
    w.cell? ⟨g, 0, none⟩ = some a ∧ w.cell? ⟨g, 1, none⟩ = some b ∧ w.frozen? ⟨g, 0, none⟩ = false ∧ w.frozen? ⟨g, 1, none⟩ = false := ⟨h.cell 0, h.cell 1, h.free 0, h.free 1⟩
theorem own_two {w0 w : World} {O0 : Nat → Prop} {A : Asn} {g : Nat} {T : TypeId} {a b : Value} (h : Own w0 O0 w (Asn.blk g T #[a, b] * A)) (c d : Value) :
    Own w0 O0 ((w.setCell ⟨g, 0, none⟩ c).setCell ⟨g, 1, none⟩ d) (Asn.blk g T #[c, d] * A) :=
  set_l (set_l h 0 c #[c, b] rfl) 1 d #[c, d] rfl
set_option maxRecDepth 100000 in
set_option maxHeartbeats 1000000 in
theorem tFind_miss (g gr m size : Nat) (v : Value) (L : List Rec) (safe held : Nat) (x : Int) (hx : ∀ k, k < L.length → (at_ L k : Int) ≠ x) :
    Tr Tryz.prog 55 #[lPtr g, .int .i64 x] (aLg g gr m size v L safe held) (.tuple #[.agg noWr, .bool false]) (aLg g gr m size v L safe held) := by
  intro w O hA
  obtain ⟨i, h1, h2, h3⟩ := spot_ex L x L.length (Nat.le_refl _)
  have hno : decide (i < L.length ∧ (at_ L i : Int) = x) = false := by
    simp only [decide_eq_false_iff_not]; exact fun h => hx i h.1 h.2
  have HS := Lib.hid (searchL g gr m size v L safe held x i h1 h2 h3)
  rw [hno] at HS
  have HT := Lib.hid (tThere g gr m size v L safe held)
  have S := Lib.hid ((Own.start hA).alloc noWr 93)
  obtain ⟨A, c, rfl⟩ := S.out.right.left.vecR.slice
  clear hA hno h1 h2 h3 hx
  unfold noWr lPtr at *
  go_enter Tryz.func55, Tryz.ntmps55
  go_wp2_with fail
  obtain ⟨gx, hgz⟩ : ∃ g, g = w.heap.size := ⟨_, rfl⟩
  rw [← hgz] at S ⊢
  clear hgz
  generalize w.alloc _ = w1 at *
  refine (S.out.call HT.out.r).mono ?_
  rintro e w2 ⟨rfl, hX⟩
  have S1 := Lib.hid hX
  clear hX S HT
  go_wp2_with fail
  refine (S1.out.call HS.out.r).mono ?_
  rintro e w3 ⟨rfl, hX⟩
  have S2 := Lib.hid hX
  clear hX S1 HS
  obtain ⟨c0, c1, f0, f1⟩ := two_wr (S2.out.has (Has.l (has_blk _ _ _)))
  go_wp2_with fail
  have S3 := Lib.hid (own_two S2.out (.int .i64 0) (.string ⟨#[]⟩))
  clear S2 c0 c1 f0 f1
  generalize World.setCell (World.setCell w3 _ _) _ _ = w4 at *
  obtain ⟨c0, c1, -, -⟩ := two_wr (S3.out.has (Has.l (has_blk _ _ _)))
  exact bodyPost_ret (v := .tuple #[.agg #[.int .i64 0, .string ⟨#[]⟩], .bool false]) (by simp [results, Tryz.results55, go_sem, c0, c1]) rfl ⟨rfl, S3.out.right⟩
set_option maxRecDepth 100000 in
set_option maxHeartbeats 1000000 in
theorem tFind_hit (g gr m size : Nat) (v : Value) (L : List Rec) (safe held : Nat) (k : Nat) (r : Rec) (hk : L[k]? = some r) :
    Tr Tryz.prog 55 #[lPtr g, .int .i64 (at_ L k)] (aLg g gr m size v L safe held) (.tuple #[wrV (at_ L k) r, .bool true]) (aLg g gr m size v L safe held) := by
  intro w O hA
  have hkl : k < L.length := (List.getElem?_eq_some_iff.1 hk).1
  have hyes : decide (k < L.length ∧ (at_ L k : Int) = (at_ L k : Int)) = true := by simp [hkl]
  have HS := Lib.hid (searchL g gr m size v L safe held (at_ L k) k (by omega) (fun j hj => by have := at_lt L hj (by omega); omega) (fun j hj hj2 => by have := at_le L hj (by omega); omega))
  rw [hyes] at HS
  have HT := Lib.hid (tThere g gr m size v L safe held)
  have S := Lib.hid ((Own.start hA).alloc noWr 93)
  obtain ⟨q1, q2⟩ := rows_at 0 L k r hk
  rw [Nat.zero_add] at q1
  have Q1 := Lib.hid q1
  have Q2 := Lib.hid q2
  rcases S.out.right.left.vecR.forms with ⟨rfl, hz⟩ | ⟨b, cap, rfl, hb, hnc, hcm⟩
  · omega
  clear hA hyes q1 q2 hb hnc hcm hk
  unfold noWr lPtr wrV at *
  generalize at_ L k = a at *
  generalize ofL (bytes r) = y at *
  go_enter Tryz.func55, Tryz.ntmps55
  go_wp2_with fail
  obtain ⟨gx, hgz⟩ : ∃ g, g = w.heap.size := ⟨_, rfl⟩
  rw [← hgz] at S ⊢
  clear hgz
  generalize w.alloc _ = w1 at *
  refine (S.out.call HT.out.r).mono ?_
  rintro e w2 ⟨rfl, hX⟩
  have S1 := Lib.hid hX
  clear hX S HT
  go_wp2_with fail
  refine (S1.out.call HS.out.r).mono ?_
  rintro e w3 ⟨rfl, hX⟩
  have S2 := Lib.hid hX
  clear hX S1 HS
  have hv := S2.out.right.left.vecR
  have d0 := hv.cell Q1.out
  have d1 := hv.cell Q2.out
  clear hv Q1 Q2
  obtain ⟨c0, c1, f0, f1⟩ := two_wr (S2.out.has (Has.l (has_blk _ _ _)))
  go_wp2_with fail
  have S3 := Lib.hid (own_two S2.out (.int .i64 a) (.string y))
  clear S2 c0 c1 f0 f1 d0 d1
  generalize World.setCell (World.setCell w3 _ _) _ _ = w4 at *
  obtain ⟨c0, c1, -, -⟩ := two_wr (S3.out.has (Has.l (has_blk _ _ _)))
  exact bodyPost_ret (v := .tuple #[.agg #[.int .i64 a, .string y], .bool true]) (by simp [results, Tryz.results55, go_sem, c0, c1]) rfl ⟨rfl, S3.out.right⟩
end Go.Proofs.YtapdpdhibpblgaaGreatDoor.Nt
