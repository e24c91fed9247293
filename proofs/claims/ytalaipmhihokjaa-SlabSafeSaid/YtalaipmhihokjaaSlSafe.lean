import Derived.Test.YtalaipmhihokjaaSlE
namespace Go.Proofs.Ytalaipmhihokjaa.Sl
open Go.ChangeShapes Go.WideShapes Go.ChangeAt Go.RowKit Go.PlainAid Aid Mn
set_option linter.unusedVariables false
set_option linter.unusedSimpArgs false

/-- A slice of numbers that came in. -/
def Nums (w : World) (A : Option Addr) (m : Nat) (z : Nat → Int) : Prop := m = 0 ∨ ∃ b o, A = some ⟨b, o, Option.none⟩ ∧ b < w.heap.size ∧ ∀ i, i < m → w.cell? ⟨b, o + i, Option.none⟩ = some (.int .i64 (z i))
theorem Nums.at {w : World} {A : Option Addr} {m : Nat} {z : Nat → Int} (h : Nums w A m z) (k : Nat) (hk : k < m) (w' : World) (hb : Below w.heap.size w w') : ∃ b o, A = some ⟨b, o, Option.none⟩ ∧ w'.cell? ⟨b, o + k, Option.none⟩ = some (.int .i64 (z k)) := by
  rcases h with h | ⟨b, o, rfl, hl, hc⟩
  · omega
  · exact ⟨b, o, rfl, by rw [(bcell hb).1 _ _ hl]; exact hc k hk⟩
/-- The first j pages are written. -/
def firstW (z : Nat → Int) (j : Nat) : Nat → Pg := fun i => if i < j then ⟨pageS (z i), ⟨#[]⟩, true⟩ else Pg.none
theorem firstW_zero (z : Nat → Int) : (fun _ => Pg.none) = firstW z 0 := by funext i; simp [firstW]
theorem firstW_step (z : Nat → Int) (j : Nat) : upd (firstW z j) j ((firstW z j j).write (pageS (z j))) = firstW z (j + 1) := by
  funext i
  by_cases hi : i = j
  · subst hi; simp [upd, firstW, Pg.write, Pg.none]
  · by_cases h2 : i < j
    · simp [upd, firstW, hi, h2, show i < j + 1 by omega]
    · simp [upd, firstW, hi, h2, show ¬ i < j + 1 by omega]
def wasS (z : Nat → Int) (m i : Nat) : ByteArray := if i < m then pageS (z i) else ⟨#[]⟩
def again (z2 : Nat → Int) (i : Nat) : Bool := (z2 i).tmod 3 != 0
def secondW (z1 z2 : Nat → Int) (m1 j : Nat) : Nat → Pg := fun i => if i < j ∧ again z2 i = true then ⟨pageS (z2 i), wasS z1 m1 i, true⟩ else ⟨wasS z1 m1 i, wasS z1 m1 i, false⟩
theorem secondW_zero (z1 z2 : Nat → Int) (m1 : Nat) : (fun i => (firstW z1 m1 i).secure) = secondW z1 z2 m1 0 := by
  funext i
  by_cases h : i < m1 <;> simp [firstW, secondW, Pg.secure, wasS, h, Pg.none]
theorem secondW_step (z1 z2 : Nat → Int) (m1 j : Nat) (h : again z2 j = true) : upd (secondW z1 z2 m1 j) j ((secondW z1 z2 m1 j j).write (pageS (z2 j))) = secondW z1 z2 m1 (j + 1) := by
  funext i
  by_cases hi : i = j
  · subst hi; simp [upd, secondW, Pg.write, h]
  · have : (i < j + 1) ↔ i < j := by omega
    simp [upd, secondW, hi, this]
theorem secondW_skip (z1 z2 : Nat → Int) (m1 j : Nat) (h : again z2 j = false) : secondW z1 z2 m1 j = secondW z1 z2 m1 (j + 1) := by
  funext i
  by_cases hi : i = j
  · subst hi; simp [secondW, h]
  · have : (i < j + 1) ↔ i < j := by omega
    simp [secondW, this]
theorem freshL_nil (P : Nat → Pg) (n : Nat) (h : ∀ i, i < n → (P i).fresh = false) : freshL P n = [] := by
  unfold freshL
  rw [List.filter_eq_nil_iff]
  intro i hi
  rw [h i (by simpa using hi)]
  simp
theorem bit_minus (k : Nat) : bitK (-1) k = true := by
  unfold bitK
  have hp : (0 : Int) < 2 ^ (k % 62) := Int.pow_pos (by decide)
  have : (-1 : Int) / 2 ^ (k % 62) = -1 := by
    rw [Int.ediv_eq_iff_of_pos hp] <;> omega
  rw [this]; rfl
theorem bit_zero (k : Nat) : bitK 0 k = false := by unfold bitK; rw [Int.zero_ediv]; rfl
/-- What the disk holds in the end. -/
def lastP (z1 z2 : Nat → Int) (m1 m2 n : Nat) (keep : Int) : Nat → Pg := settled (secondW z1 z2 m1 m2) keep n
theorem rank_lt (P : Nat → Pg) (i n : Nat) (hi : i < n) (hf : (P i).fresh = true) : (freshL P i).length < n := Nat.lt_of_le_of_lt (freshL_le P i) hi
theorem last_no (z1 z2 : Nat → Int) (m1 m2 n : Nat) (keep : Int) (i : Nat) (h : ¬ (i < m2 ∧ again z2 i = true)) : (lastP z1 z2 m1 m2 n keep i).now = wasS z1 m1 i ∧ (lastP z1 z2 m1 m2 n keep i).fresh = false := by
  have e : secondW z1 z2 m1 m2 i = ⟨wasS z1 m1 i, wasS z1 m1 i, false⟩ := by unfold secondW; rw [if_neg h]
  unfold lastP settled
  rw [if_neg (fun x => by rw [e] at x; cases x.1), e]
  exact ⟨rfl, rfl⟩
theorem last_yes (z1 z2 : Nat → Int) (m1 m2 n : Nat) (keep : Int) (i : Nat) (hi : i < n) (h : i < m2 ∧ again z2 i = true) :
    (lastP z1 z2 m1 m2 n keep i).fresh = false ∧ ((lastP z1 z2 m1 m2 n keep i).now = wasS z1 m1 i ∨ (lastP z1 z2 m1 m2 n keep i).now = pageS (z2 i)) ∧ (keep = -1 → (lastP z1 z2 m1 m2 n keep i).now = pageS (z2 i)) ∧ (keep = 0 → (lastP z1 z2 m1 m2 n keep i).now = wasS z1 m1 i) := by
  have e : secondW z1 z2 m1 m2 i = ⟨pageS (z2 i), wasS z1 m1 i, true⟩ := by unfold secondW; rw [if_pos h]
  have hr := rank_lt (secondW z1 z2 m1 m2) i n hi (by rw [e])
  have e2 : lastP z1 z2 m1 m2 n keep i = (⟨pageS (z2 i), wasS z1 m1 i, true⟩ : Pg).settle (bitK keep (freshL (secondW z1 z2 m1 m2) i).length) := by
    unfold lastP settled
    rw [if_pos ⟨by rw [e], hr⟩, e]
  rw [e2]
  refine ⟨?_, ?_, ?_, ?_⟩
  · unfold Pg.settle; split <;> rfl
  · unfold Pg.settle; split
    · exact Or.inr rfl
    · exact Or.inl rfl
  · rintro rfl; rw [bit_minus]; rfl
  · rintro rfl; rw [bit_zero]; rfl
theorem last_fresh (z1 z2 : Nat → Int) (m1 m2 n : Nat) (keep : Int) : freshL (lastP z1 z2 m1 m2 n keep) n = [] := by
  refine freshL_nil _ _ (fun i hi => ?_)
  by_cases h : i < m2 ∧ again z2 i = true
  · exact (last_yes z1 z2 m1 m2 n keep i hi h).1
  · exact (last_no z1 z2 m1 m2 n keep i h).2
/-- Fresh answers nothing. -/
theorem Fresh_none {g m b n : Nat} {P : Nat → Pg} {q : Pw} {w : World} (h : Dk w g m b n P q) (hf : freshL P n = []) :
    Calls Try.prog 21 #[.pointer (some ⟨g, 0, Option.none⟩)] w fun e w' => ∃ A c, e = .returned (.slice A 0 c) ∧ Below w.heap.size w w' := by
  refine (Fresh_any g m b n P q w h).mono fun e w' ⟨v, he, ho, hb⟩ => ?_
  rw [hf] at ho
  obtain ⟨A, c, rfl, -, -⟩ := own_open ho
  exact ⟨A, c, he, hb⟩

set_option maxRecDepth 100000 in
set_option maxHeartbeats 1000000 in
theorem safe_big (A1 A2 : Option Addr) (m1 m2 c1 c2 : Nat) (keep : Int) (w : World) (h : 20 < m1 ∨ 20 < m2) (hm1 : m1 ≤ maxLen) (hm2 : m2 ≤ maxLen) :
    Calls Try.prog 4 #[.slice A1 m1 c1, .slice A2 m2 c2, .int .i64 keep] w fun e w' => e = .returned (.bool true) ∧ Below w.heap.size w w' := by
  unfold maxLen at hm1 hm2
  by_cases h1 : 20 < m1
  · clear h
    go_enter Try.func4, Try.ntmps4
    go_wp2_with fail
    refine (awake_any _).mono ?_
    rintro e w0 ⟨rfl, hb⟩
    have B0 := Lib.hid (hb)
    clear hb 
    go_wp2_with fail
    go_returns
    exact ⟨rfl, B0.out⟩
  · have h2 : 20 < m2 := by omega
    have h1' : decide ((20 : Int) < (m1 : Int)) = false := by simp; omega
    clear h
    go_enter Try.func4, Try.ntmps4
    go_wp2_with fail
    refine (awake_any _).mono ?_
    rintro e w0 ⟨rfl, hb⟩
    have B0 := Lib.hid (hb)
    clear hb 
    go_wp2_with fail
    go_returns
    exact ⟨rfl, B0.out⟩

theorem Write_away {g m b n : Nat} {P : Nat → Pg} {q : Pw} {w : World} (h : Dk w g m b n P q) (s : ByteArray) (hs : s.size = 256) (hq : q.ans = 4) (hu : q.use = q) :
    Calls Try.prog 10 #[.pointer (some ⟨g, 0, Option.none⟩), .int .i64 0, .string s] w fun e w' => ∃ a : Int, a ≠ 0 ∧ e = .returned (.int .i64 a) ∧ Dk w' g m b n P q ∧ Chg (DS m b) w w' := by
  by_cases hn : n = 0
  · refine (Write_arg g m b n P q 0 s w h (Or.inr (Or.inl (by omega)))).mono ?_
    rintro e w' ⟨he, rfl⟩
    exact ⟨1, by decide, he, h, Chg.refl _ _⟩
  · refine (Write_down g m b n P q 0 s w h (by omega) hs hq).mono ?_
    rintro e w' ⟨he, hd, hc⟩
    rw [hu] at hd
    exact ⟨4, by decide, he, hd, hc⟩
theorem near_max (m1 m2 : Nat) (h1 : m1 ≤ 20) (h2 : m2 ≤ 20) : near (max (m1 : Int) (m2 : Int)) = max m1 m2 := by unfold near; omega
set_option maxRecDepth 100000 in
set_option maxHeartbeats 2000000 in
theorem safe_any (A1 A2 : Option Addr) (m1 m2 c1 c2 : Nat) (z1 z2 : Nat → Int) (keep : Int) (w : World) (h1 : m1 ≤ 20) (h2 : m2 ≤ 20) (x1 : Nums w A1 m1 z1) (x2 : Nums w A2 m2 z2) :
    Calls Try.prog 4 #[.slice A1 m1 c1, .slice A2 m2 c2, .int .i64 keep] w fun e w' => e = .returned (.bool true) ∧ Below w.heap.size w w' := by
  have X1 := Lib.hid x1
  have X2 := Lib.hid x2
  have eN : max (m1 : Int) (m2 : Int) = ((max m1 m2 : Nat) : Int) := by omega
  have HD := fun m q w h => New_any m (max (m1 : Int) (m2 : Int)) q w h
  rw [near_max m1 m2 h1 h2] at HD
  have n1 : m1 ≤ max m1 m2 := by omega
  have n2 : m2 ≤ max m1 m2 := by omega
  have n3 : max m1 m2 ≤ 20 := by omega
  have n4 : max m1 m2 = m1 ∨ max m1 m2 = m2 := by omega
  rw [eN] at HD
  generalize max m1 m2 = N at *
  have HD := Lib.hid HD
  have N4 := Lib.hid n4
  clear x1 x2 n4
  go_enter Try.func4, Try.ntmps4
  go_wp2_with fail
  refine (awake_any _).mono ?_
  rintro e w0 ⟨rfl, hb⟩
  have B0 := Lib.hid (hb)
  clear hb 
  go_wp2_with fail
  refine (Mn.New_any _).mono ?_
  rintro e w1 ⟨rfl, hm1, hb1⟩
  go_wp2_with fail
  refine (HD.out _ _ _ hm1).mono ?_
  rintro e w2 ⟨rfl, hd2, hb2⟩
  have B2 := Lib.hid (bl B0.out (bl hb1 hb2))
  have D2 : Hid (Dk w2 (w1.heap.size + 1) w0.heap.size w1.heap.size N (firstW z1 0) ⟨true, -1, 1⟩) := by rw [← firstW_zero]; exact hd2
  have h0' := B0.out.size
  have h1' := hb1.size
  have HS := Lib.hid (ds_base h0' (Nat.le_trans h0' h1'))
  have HM := Lib.hid h0'
  have HB := Lib.hid (Nat.le_trans h0' h1')
  clear hm1 hb1 hb2 hd2 h0' h1' B0 HD
  generalize w1.heap.size + 1 = g at *
  generalize w1.heap.size = b at *
  generalize w0.heap.size = m at *
  go_wp2_with fail
  go_loopw [10] (fun i wr => ∃ k : Nat, k ≤ m1 ∧ i = .int .i64 k ∧ Hid (Dk wr g m b N (firstW z1 k) ⟨true, -1, 1⟩) ∧ Hid (Below w.heap.size w wr)) (fun i _ => m1 - (intOf i).toNat)
  case atStart => exact ⟨0, Nat.zero_le _, rfl, D2, B2⟩
  case round =>
    clear D2 B2
    obtain ⟨k, hk, rfl, hD, hB⟩ := hrel
    by_cases hlt : k < m1
    · obtain ⟨b1, o1, rfl, hc⟩ := X1.out.at k hlt _ hB.out
      go_wp2_with fail
      refine (page_any (z1 k) _).mono ?_
      rintro e w3 ⟨rfl, hb⟩
      have B3 := Lib.hid (bl hB.out hb)
      have D3 := Lib.hid (hD.out.below hb)
      clear hb hB
      clear hD hc
      have HST := Lib.hid (firstW_step z1 k)
      go_wp2_with fail
      refine (Write_ok _ _ _ _ _ _ k _ _ D3.out (by omega) (pageS_size _) rfl).mono ?_
      rintro e w4 ⟨rfl, hX, hb⟩
      have D4 := Lib.hid hX
      have B4 := Lib.hid (blS B3.out hb B3.out.size (HS.out _))
      clear hX hb B3 D3
      rw [HST.out] at D4
      go_wp2_with fail
      go_roundw
      case rel => exact ⟨k + 1, by omega, by go_num, D4, B4⟩
      case measure => simp [intOf]; omega
    · obtain rfl : k = m1 := by omega
      go_wp2_with fail
      refine (Sync_ok _ _ _ _ _ _ _ hD.out rfl).mono ?_
      rintro e w3 ⟨rfl, hX, hb⟩
      have D3 := Lib.hid hX
      have B3 := Lib.hid (blS hB.out hb hB.out.size (HS.out _))
      clear hX hb hD hB
      rw [secondW_zero z1 z2] at D3
      go_wp2_with fail
      refine (Fresh_none D3.out (freshL_nil _ _ (fun i _ => by simp [secondW]))).mono ?_
      rintro e w4 ⟨A4, c4, rfl, hb4⟩
      have B4 := Lib.hid (bl B3.out hb4)
      have D4 : Hid (Dk w4 g m b N (secondW z1 z2 k 0) ⟨true, -1, 1⟩) := D3.out.below hb4
      clear hb4 B3 D3
      go_wp2_with fail
      go_loopw [11] (fun i wr => ∃ j : Nat, j ≤ m2 ∧ i = .int .i64 j ∧ Hid (Dk wr g m b N (secondW z1 z2 k j) ⟨true, -1, 1⟩) ∧ Hid (Below w.heap.size w wr)) (fun i _ => m2 - (intOf i).toNat)
      case atStart => exact ⟨0, Nat.zero_le _, rfl, D4, B4⟩
      case round =>
        clear D4 B4
        obtain ⟨j, hj, rfl, hD, hB⟩ := hrel
        by_cases hlt : j < m2
        · obtain ⟨b2, o2, rfl, hc⟩ := X2.out.at j hlt _ hB.out
          cases ha : again z2 j
          · have HST := Lib.hid (secondW_skip z1 z2 k j ha)
            have ha1 : ((z2 j).tmod 3 != 0) = false := ha
            have ha2 : ((z2 j).tmod 3 == 0) = true := by rw [bne] at ha1; simpa using ha1
            have ha3 : (z2 j).tmod 3 = 0 := by simpa using ha2
            clear ha ha1 ha2
            go_wp2_with fail
            go_roundw
            case rel => exact ⟨j + 1, by omega, by go_num, by rw [← HST.out]; exact hD, hB⟩
            case measure => simp [intOf]; omega
          · have HST := Lib.hid (secondW_step z1 z2 k j ha)
            have ha1 : ((z2 j).tmod 3 != 0) = true := ha
            have ha2 : ((z2 j).tmod 3 == 0) = false := by rw [bne] at ha1; simpa using ha1
            have ha3 : ¬ (z2 j).tmod 3 = 0 := by simpa using ha2
            clear ha
            go_wp2_with fail
            refine (page_any (z2 j) _).mono ?_
            rintro e w3 ⟨rfl, hb⟩
            have B3 := Lib.hid (bl hB.out hb)
            have D3 := Lib.hid (hD.out.below hb)
            clear hb hB
            clear hD
            go_wp2_with fail
            refine (Write_ok _ _ _ _ _ _ j _ _ D3.out (by omega) (pageS_size _) rfl).mono ?_
            rintro e w4 ⟨rfl, hX, hb⟩
            have D4 := Lib.hid hX
            have B4 := Lib.hid (blS B3.out hb B3.out.size (HS.out _))
            clear hX hb B3 D3
            rw [HST.out] at D4
            go_wp2_with fail
            go_roundw
            case rel => exact ⟨j + 1, by omega, by go_num, D4, B4⟩
            case measure => simp [intOf]; omega
        · obtain rfl : j = m2 := by omega
          go_wp2_with fail
          refine (Off_dk hD.out).mono ?_
          rintro e w3 ⟨rfl, hX, hb⟩
          have D3 := Lib.hid hX
          have B3 := Lib.hid (bl1 hB.out hb hB.out.size HM.out)
          clear hX hb hD hB
          go_wp2_with fail
          refine (page_any 9 _).mono ?_
          rintro e w4 ⟨rfl, hb⟩
          have B4 := Lib.hid (bl B3.out hb)
          have D4 := Lib.hid (D3.out.below hb)
          clear hb B3
          clear D3
          go_wp2_with fail
          refine (Write_away D4.out _ (pageS_size _) rfl rfl).mono ?_
          rintro e w5 ⟨a, ha, rfl, hd5, hc5⟩
          have ha1 : (a == 0) = false := by simpa using ha
          have D5 := Lib.hid hd5
          have B5 := Lib.hid (blS B4.out hc5 B4.out.size (HS.out _))
          clear hd5 hc5 D4 B4
          go_wp2_with fail
          refine (Sync_down _ _ _ _ _ _ _ D5.out rfl).mono ?_
          rintro e w6 ⟨rfl, hX, hb⟩
          have D6 := Lib.hid hX
          have B6 := Lib.hid (blS B5.out hb B5.out.size (HS.out _))
          clear hX hb D5 B5
          go_wp2_with fail
          refine (Settle_off _ _ _ _ _ _ keep _ D6.out rfl).mono ?_
          rintro e w7 ⟨rfl, hX, hb⟩
          have D7 : Hid (Dk w7 g m b N (lastP z1 z2 k j N keep) _) := hX
          have B7 := Lib.hid (bl1 B6.out hb B6.out.size HB.out)
          clear hX hb D6 B6
          go_wp2_with fail
          refine (Fresh_none D7.out (last_fresh _ _ _ _ _ _)).mono ?_
          rintro e w8 ⟨A8, c8, rfl, hb8⟩
          have B8 := Lib.hid (bl B7.out hb8)
          have D8 := Lib.hid (D7.out.below hb8)
          clear hb8 B7 D7
          go_wp2_with fail
          refine (On_dk D8.out).mono ?_
          rintro e w9 ⟨rfl, hX, hb⟩
          have D9 := Lib.hid hX
          have B9 := Lib.hid (bl1 B8.out hb B8.out.size HM.out)
          clear hX hb D8 B8
          go_wp2_with fail
          clear ha ha1
          go_loopw [12] (fun i wr => ∃ i1 : Nat, i1 ≤ N ∧ i = .int .i64 i1 ∧ Hid (Dk wr g m b N (lastP z1 z2 k j N keep) (Pw.come ⟨false, -1, 1⟩)) ∧ Hid (Below w.heap.size w wr)) (fun i _ => N - (intOf i).toNat)
          case atStart => exact ⟨0, Nat.zero_le _, rfl, D9, B9⟩
          case round =>
            clear D9 B9
            obtain ⟨i, hi, rfl, hD, hB⟩ := hrel
            by_cases hlt : i < N
            · by_cases hik : i < k
              · have hws : wasS z1 k i = pageS (z1 i) := if_pos hik
                obtain ⟨b1, o1, rfl, hc⟩ := X1.out.at i hik _ hB.out
                go_wp2_with fail
                refine (page_any (z1 i) _).mono ?_
                rintro e w10 ⟨rfl, hb⟩
                have B10 := Lib.hid (bl hB.out hb)
                have D10 := Lib.hid (hD.out.below hb)
                clear hb hB
                clear hD hc
                by_cases hy : i < j ∧ again z2 i = true
                · obtain ⟨b2, o2, rfl, hc⟩ := X2.out.at i hy.1 _ B10.out
                  obtain ⟨-, l1, l2, l3⟩ := last_yes z1 z2 k j N keep i hlt hy
                  have hy1 := hy.1
                  have ha1 : ((z2 i).tmod 3 != 0) = true := hy.2
                  have ha2 : ((z2 i).tmod 3 == 0) = false := by rw [bne] at ha1; simpa using ha1
                  have ha3 : ¬ (z2 i).tmod 3 = 0 := by simpa using ha2
                  rw [hws] at l1 l3
                  clear hy hws
                  rcases (show (lastP z1 z2 k j N keep i).now = pageS (z2 i) ∨ ((lastP z1 z2 k j N keep i).now = pageS (z1 i) ∧ pageS (z2 i) ≠ pageS (z1 i)) from by
                      by_cases e : pageS (z2 i) = pageS (z1 i)
                      · exact Or.inl (l1.elim (fun x => x.trans e.symm) id)
                      · exact l1.elim (fun x => Or.inr ⟨x, e⟩) Or.inl) with l4 | ⟨l4, l5⟩
                  · have HR := Lib.hid (Read_dk D10.out i hlt rfl _ l4)
                    have l6 : keep = 0 → pageS (z2 i) = pageS (z1 i) := fun h => l4.symm.trans (l3 h)
                    clear l1 l2 l3 l4
                    have HE := Lib.hid l6
                    clear l6
                    go_wp2_with fail
                    refine (HR.out).mono ?_
                    rintro e w' ⟨rfl, rfl⟩
                    go_wp2_with fail
                    refine (page_any (z2 i) _).mono ?_
                    rintro e w11 ⟨rfl, hb⟩
                    have B11 := Lib.hid (bl B10.out hb)
                    have D11 := Lib.hid (D10.out.below hb)
                    clear hb B10
                    clear D10
                    obtain ⟨b3, o3, he3, hc3⟩ := X2.out.at i hy1 _ B11.out
                    cases he3
                    cases hkm : (keep == -1) <;> cases hk0 : (keep == 0) <;> by_cases hpw : pageS (z2 i) = pageS (z1 i)
                    all_goals try exact absurd (HE.out (by simpa using hk0)) hpw
                    all_goals
                      have s1 := str_eq (pageS (z2 i)) (pageS (z1 i))
                      have s2 := str_ne (pageS (z2 i)) (pageS (z1 i))
                      first | rw [decide_eq_true hpw] at s1 s2 | rw [decide_eq_false hpw] at s1 s2
                      simp only [Bool.not_true, Bool.not_false] at s2
                      clear hpw
                      go_wp2_with fail
                      go_roundw
                      case rel => exact ⟨i + 1, by omega, by go_num, D11, B11⟩
                      case measure => simp [intOf]; omega
                  · have HR := Lib.hid (Read_dk D10.out i hlt rfl _ l4)
                    have l6 : (keep == -1) = false := by
                      cases h : (keep == -1)
                      · rfl
                      · exact absurd ((l2 (by simpa using h)).symm.trans l4) l5
                    clear l1 l2 l3 l4
                    go_wp2_with fail
                    refine (HR.out).mono ?_
                    rintro e w' ⟨rfl, rfl⟩
                    go_wp2_with fail
                    refine (page_any (z2 i) _).mono ?_
                    rintro e w11 ⟨rfl, hb⟩
                    have B11 := Lib.hid (bl B10.out hb)
                    have D11 := Lib.hid (D10.out.below hb)
                    clear hb B10
                    clear D10
                    obtain ⟨b3, o3, he3, hc3⟩ := X2.out.at i hy1 _ B11.out
                    cases he3
                    cases hk0 : (keep == 0)
                    all_goals
                      have s1 := str_eq (pageS (z1 i)) (pageS (z2 i))
                      rw [decide_eq_false (fun e => l5 e.symm)] at s1
                      clear l5
                      go_wp2_with fail
                      go_roundw
                      case rel => exact ⟨i + 1, by omega, by go_num, D11, B11⟩
                      case measure => simp [intOf]; omega
                · obtain ⟨l1, -⟩ := last_no z1 z2 k j N keep i hy
                  rw [hws] at l1
                  clear hws
                  by_cases hij : i < j
                  · obtain ⟨b2, o2, rfl, hc⟩ := X2.out.at i hij _ B10.out
                    have ha1 : ((z2 i).tmod 3 != 0) = false := by
                      cases h : ((z2 i).tmod 3 != 0)
                      · rfl
                      · exact absurd ⟨hij, h⟩ hy
                    have ha2 : ((z2 i).tmod 3 == 0) = true := by rw [bne] at ha1; simpa using ha1
                    have ha3 : (z2 i).tmod 3 = 0 := by simpa using ha2
                    clear hy ha1 ha2
                    have HR := Lib.hid (Read_dk D10.out i hlt rfl _ l1)
                    clear l1
                    go_wp2_with fail
                    refine (HR.out).mono ?_
                    rintro e w' ⟨rfl, rfl⟩
                    cases hkm : (keep == -1) <;> cases hk0 : (keep == 0)
                    all_goals
                      go_wp2_with fail
                      go_roundw
                      case rel => exact ⟨i + 1, by omega, by go_num, D10, B10⟩
                      case measure => simp [intOf]; omega
                  · clear hy
                    have HR := Lib.hid (Read_dk D10.out i hlt rfl _ l1)
                    clear l1
                    go_wp2_with fail
                    refine (HR.out).mono ?_
                    rintro e w' ⟨rfl, rfl⟩
                    cases hkm : (keep == -1) <;> cases hk0 : (keep == 0)
                    all_goals
                      go_wp2_with fail
                      go_roundw
                      case rel => exact ⟨i + 1, by omega, by go_num, D10, B10⟩
                      case measure => simp [intOf]; omega
              · have hws : wasS z1 k i = ⟨#[]⟩ := if_neg hik
                have D10 := hD
                have B10 := hB
                clear hD hB
                obtain ⟨w10, rfl⟩ : ∃ w10 : World, w10 = wr := ⟨_, rfl⟩
                by_cases hy : i < j ∧ again z2 i = true
                · obtain ⟨b2, o2, rfl, hc⟩ := X2.out.at i hy.1 _ B10.out
                  obtain ⟨-, l1, l2, l3⟩ := last_yes z1 z2 k j N keep i hlt hy
                  have hy1 := hy.1
                  have ha1 : ((z2 i).tmod 3 != 0) = true := hy.2
                  have ha2 : ((z2 i).tmod 3 == 0) = false := by rw [bne] at ha1; simpa using ha1
                  have ha3 : ¬ (z2 i).tmod 3 = 0 := by simpa using ha2
                  rw [hws] at l1 l3
                  clear hy hws
                  rcases (show (lastP z1 z2 k j N keep i).now = pageS (z2 i) ∨ ((lastP z1 z2 k j N keep i).now = ⟨#[]⟩ ∧ pageS (z2 i) ≠ ⟨#[]⟩) from by
                      by_cases e : pageS (z2 i) = ⟨#[]⟩
                      · exact Or.inl (l1.elim (fun x => x.trans e.symm) id)
                      · exact l1.elim (fun x => Or.inr ⟨x, e⟩) Or.inl) with l4 | ⟨l4, l5⟩
                  · have HR := Lib.hid (Read_dk D10.out i hlt rfl _ l4)
                    have l6 : keep = 0 → pageS (z2 i) = ⟨#[]⟩ := fun h => l4.symm.trans (l3 h)
                    clear l1 l2 l3 l4
                    have HE := Lib.hid l6
                    clear l6
                    go_wp2_with fail
                    refine (HR.out).mono ?_
                    rintro e w' ⟨rfl, rfl⟩
                    go_wp2_with fail
                    refine (page_any (z2 i) _).mono ?_
                    rintro e w11 ⟨rfl, hb⟩
                    have B11 := Lib.hid (bl B10.out hb)
                    have D11 := Lib.hid (D10.out.below hb)
                    clear hb B10
                    clear D10
                    obtain ⟨b3, o3, he3, hc3⟩ := X2.out.at i hy1 _ B11.out
                    cases he3
                    cases hkm : (keep == -1) <;> cases hk0 : (keep == 0) <;> by_cases hpw : pageS (z2 i) = ⟨#[]⟩
                    all_goals try exact absurd (congrArg ByteArray.size hpw) (by rw [pageS_size]; decide)
                    all_goals try exact absurd (HE.out (by simpa using hk0)) hpw
                    all_goals
                      have s1 := str_eq (pageS (z2 i)) ⟨#[]⟩
                      have s2 := str_ne (pageS (z2 i)) ⟨#[]⟩
                      have s3 := toList_isEmpty (pageS (z2 i))
                      rw [pageS_size] at s3
                      first | rw [decide_eq_true hpw] at s1 s2 | rw [decide_eq_false hpw] at s1 s2
                      simp only [Bool.not_true, Bool.not_false] at s2
                      clear hpw
                      go_wp2_with fail
                      go_roundw
                      case rel => exact ⟨i + 1, by omega, by go_num, D11, B11⟩
                      case measure => simp [intOf]; omega
                  · have HR := Lib.hid (Read_dk D10.out i hlt rfl _ l4)
                    have l6 : (keep == -1) = false := by
                      cases h : (keep == -1)
                      · rfl
                      · exact absurd ((l2 (by simpa using h)).symm.trans l4) l5
                    clear l1 l2 l3 l4
                    go_wp2_with fail
                    refine (HR.out).mono ?_
                    rintro e w' ⟨rfl, rfl⟩
                    go_wp2_with fail
                    refine (page_any (z2 i) _).mono ?_
                    rintro e w11 ⟨rfl, hb⟩
                    have B11 := Lib.hid (bl B10.out hb)
                    have D11 := Lib.hid (D10.out.below hb)
                    clear hb B10
                    clear D10
                    obtain ⟨b3, o3, he3, hc3⟩ := X2.out.at i hy1 _ B11.out
                    cases he3
                    cases hk0 : (keep == 0)
                    all_goals
                      have s1 := str_eq ⟨#[]⟩ (pageS (z2 i))
                      rw [decide_eq_false (fun e => l5 e.symm)] at s1
                      have s3 := toList_isEmpty (pageS (z2 i))
                      rw [pageS_size] at s3
                      clear l5
                      go_wp2_with fail
                      go_roundw
                      case rel => exact ⟨i + 1, by omega, by go_num, D11, B11⟩
                      case measure => simp [intOf]; omega
                · obtain ⟨l1, -⟩ := last_no z1 z2 k j N keep i hy
                  rw [hws] at l1
                  clear hws
                  by_cases hij : i < j
                  · obtain ⟨b2, o2, rfl, hc⟩ := X2.out.at i hij _ B10.out
                    have ha1 : ((z2 i).tmod 3 != 0) = false := by
                      cases h : ((z2 i).tmod 3 != 0)
                      · rfl
                      · exact absurd ⟨hij, h⟩ hy
                    have ha2 : ((z2 i).tmod 3 == 0) = true := by rw [bne] at ha1; simpa using ha1
                    have ha3 : (z2 i).tmod 3 = 0 := by simpa using ha2
                    clear hy ha1 ha2
                    have HR := Lib.hid (Read_dk D10.out i hlt rfl _ l1)
                    clear l1
                    go_wp2_with fail
                    refine (HR.out).mono ?_
                    rintro e w' ⟨rfl, rfl⟩
                    cases hkm : (keep == -1) <;> cases hk0 : (keep == 0)
                    all_goals
                      go_wp2_with fail
                      go_roundw
                      case rel => exact ⟨i + 1, by omega, by go_num, D10, B10⟩
                      case measure => simp [intOf]; omega
                  · clear hy
                    have HR := Lib.hid (Read_dk D10.out i hlt rfl _ l1)
                    clear l1
                    go_wp2_with fail
                    refine (HR.out).mono ?_
                    rintro e w' ⟨rfl, rfl⟩
                    cases hkm : (keep == -1) <;> cases hk0 : (keep == 0)
                    all_goals
                      go_wp2_with fail
                      go_roundw
                      case rel => exact ⟨i + 1, by omega, by go_num, D10, B10⟩
                      case measure => simp [intOf]; omega
            · have B9 := hB
              clear hB hD
              go_wp2_with fail
              refine (Read_nil _ _).mono ?_
              rintro e w' ⟨rfl, rfl⟩
              go_wp2_with fail
              refine (page_any 1 _).mono ?_
              rintro e w11 ⟨rfl, hb⟩
              have B11 := Lib.hid (bl B9.out hb)
              clear hb B9
              go_wp2_with fail
              refine (Write_nil _ _ _).mono ?_
              rintro e w' ⟨rfl, rfl⟩
              go_wp2_with fail
              refine (Sync_nil _).mono ?_
              rintro e w' ⟨rfl, rfl⟩
              go_wp2_with fail
              refine (Settle_nil _ _).mono ?_
              rintro e w' ⟨rfl, rfl⟩
              go_wp2_with fail
              refine (Len_nil _).mono ?_
              rintro e w' ⟨rfl, rfl⟩
              go_wp2_with fail
              refine (Fresh_nil _).mono ?_
              rintro e w' ⟨rfl, rfl⟩
              go_wp2_with fail
              go_returns
              exact ⟨rfl, B11.out⟩
end Go.Proofs.Ytalaipmhihokjaa.Sl
