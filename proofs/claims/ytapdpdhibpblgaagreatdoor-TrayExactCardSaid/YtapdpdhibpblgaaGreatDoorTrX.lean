/- Texts of ours, joined. -/
import Derived.Test.YtapdpdhibpblgaaGreatDoorTrE

-- joined
section
namespace Go.Proofs.YtapdpdhibpblgaaGreatDoor.Tr
open Go.ChangeShapes Go.WideShapes Go.ChangeAt Go.RowKit Go.PlainAid Aid Nt Nd Cr
set_option linter.unusedVariables false
set_option linter.unusedSimpArgs false
def paidV : Value := .func (.func 45) #[] #[]
def owes (y : Db) : Bool := decide (y.first ≠ 0)
/-- How many stand ahead of the first that is paid. -/
def fz (D : List Db) : Nat := (D.takeWhile owes).length
def fzI (D : List Db) : Int := if fz D = D.length then -1 else (fz D : Nat)
theorem fz_le (D : List Db) : fz D ≤ D.length := by
  unfold fz
  induction D with
  | nil => exact Nat.le_refl _
  | cons a D ih =>
    rw [List.takeWhile_cons]
    split
    · simp only [List.length_cons]; omega
    · exact Nat.zero_le _
theorem fz_lo (D : List Db) (k : Nat) (hk : k < fz D) (y : Db) (hy : D[k]? = some y) : y.first ≠ 0 := by
  unfold fz at hk
  induction D generalizing k with
  | nil => cases hy
  | cons a D ih =>
    rw [List.takeWhile_cons] at hk
    split at hk
    · rename_i ha
      cases k with
      | zero => cases hy; simpa [owes] using ha
      | succ k => exact ih k (by simpa using hk) (by simpa using hy)
    · simp at hk
theorem fz_at (D : List Db) (y : Db) (hy : D[fz D]? = some y) : y.first = 0 := by
  unfold fz at hy
  induction D with
  | nil => cases hy
  | cons a D ih =>
    rw [List.takeWhile_cons] at hy
    split at hy
    · exact ih (by simpa using hy)
    · rename_i ha
      cases hy
      simpa [owes] using ha
theorem fz_take (D : List Db) : (D.take (fz D)).filter owes = D.take (fz D) := by
  unfold fz
  induction D with
  | nil => rfl
  | cons a D ih =>
    rw [List.takeWhile_cons]
    split
    · rename_i ha
      rw [List.length_cons, List.take_succ_cons, List.filter_cons, if_pos ha, ih]
    · rfl
theorem fz_full (D : List Db) (h : fz D = D.length) : D.filter owes = D := by
  have := fz_take D
  rwa [h, List.take_length] at this
set_option maxHeartbeats 400000 in
theorem paid_debt (a b c : Int) (w : World) :
    Calls Tryz.prog 45 #[.agg #[.int .i64 a, .int .i64 b, .int .i64 c]] w fun e w' => e = .returned (.bool (b == 0)) ∧ Below w.heap.size w w' := by
  have S := Lib.hid ((Own.none w).alloc #[.int .i64 a, .int .i64 b, .int .i64 c] 114)
  go_enter Tryz.func45, Tryz.ntmps45
  go_wp2_with fail
  go_returns
  exact ⟨rfl, S.out.bel⟩
set_option maxRecDepth 100000 in
set_option maxHeartbeats 2000000 in
theorem index_debt (v : Value) (D : List Db) (w : World) (hv : Vec w 114 3 v D.length (dbs D)) (hn : D.length ≤ 256) :
    Calls Tryz.prog 83 #[v, paidV] w fun e w' => e = .returned (.int .i64 (fzI D)) ∧ Below w.heap.size w w' := by
  obtain ⟨A, c, rfl⟩ := hv.slice
  have HV := Lib.hid hv
  have HP := Lib.hid (fun a b c w => paid_debt a b c w)
  have B0 : Hid (Below w.heap.size w w) := Lib.hid (Below.refl _ _)
  have hfz := fz_le D
  clear hv
  unfold paidV at *
  go_enter Tryz.func83, Tryz.ntmps83
  go_wp2_with fail
  go_loopw [5, 8] (fun _ i wr => ∃ k : Nat, i = .int .i64 k ∧ k ≤ fz D ∧ Hid (Below w.heap.size w wr)) (fun _ i _ => D.length - (intOf i).toNat)
  case atStart => exact ⟨0, rfl, Nat.zero_le _, B0⟩
  case round =>
    clear B0
    obtain ⟨k, rfl, hk, hB⟩ := hrel
    by_cases hlt : k < D.length
    · obtain ⟨y, hy⟩ : ∃ y, D[k]? = some y := ⟨D[k]'hlt, List.getElem?_eq_getElem _⟩
      obtain ⟨b, rfl⟩ : ∃ b, A = some ⟨b, 0, none⟩ := by
        rcases HV.out.forms with ⟨-, hz⟩ | ⟨g, cap, he, -⟩
        · omega
        · cases he; exact ⟨_, rfl⟩
      have hv := HV.out.keepB hB.out
      have d0 : wr.cell? ⟨b, k * 3, none⟩ = some (.int .i64 y.page) := hv.cell (j := k * 3 + 0) (by rw [dbs_at D k y hy 0 (by decide)]; rfl)
      have d1 : wr.cell? ⟨b, k * 3 + 1, none⟩ = some (.int .i64 y.first) := hv.cell (by rw [dbs_at D k y hy 1 (by decide)]; rfl)
      have d2 : wr.cell? ⟨b, k * 3 + 2, none⟩ = some (.int .i64 y.un) := hv.cell (by rw [dbs_at D k y hy 2 (by decide)]; rfl)
      clear hv
      by_cases hkf : k = fz D
      · have h0 : ((y.first : Int) == 0) = true := by
          rw [hkf] at hy
          have := fz_at D y hy
          simp [this]
        have hne : ¬ fz D = D.length := by omega
        have HR : Hid (fzI D = (k : Nat)) := Lib.hid (by unfold fzI; rw [if_neg hne, hkf])
        clear hy hkf hne
        generalize (y.page : Int) = ya at *
        generalize (y.first : Int) = yb at *
        generalize (y.un : Int) = yc at *
        go_wp2_with fail
        refine (HP.out _ _ _ _).mono ?_
        rintro e w2 ⟨rfl, hX⟩
        have B1 := Lib.hid (bl hB.out hX)
        clear hX hB d0 d1 d2
        go_wp2_with fail
        go_returns
        exact ⟨by rw [HR.out]; rfl, B1.out⟩
      · have h0 : ((y.first : Int) == 0) = false := by have := fz_lo D k (by omega) y hy; simp; omega
        clear hy
        generalize (y.page : Int) = ya at *
        generalize (y.first : Int) = yb at *
        generalize (y.un : Int) = yc at *
        go_wp2_with fail
        refine (HP.out _ _ _ _).mono ?_
        rintro e w2 ⟨rfl, hX⟩
        have B1 := Lib.hid (bl hB.out hX)
        clear hX hB d0 d1 d2
        go_wp2_with fail
        go_roundw
        case rel => exact ⟨k + 1, by go_num, by omega, B1⟩
        case measure => simp [intOf]; omega
    · have hkf : fz D = D.length := by omega
      have HR : Hid (fzI D = -1) := Lib.hid (if_pos hkf)
      go_wp2_with fail
      go_returns
      exact ⟨by rw [HR.out]; rfl, hB.out⟩
theorem set_mid {α : Type} (L M R : List α) (o j : Nat) (ho : L.length = o) (hj : j < M.length) (u : α) : (L ++ (M ++ R)).set (o + j) u = L ++ (M.set j u ++ R) := by
  rw [List.set_append_right _ _ (by omega), show o + j - L.length = j by omega, List.set_append_left _ _ hj]
theorem zero_debt (w : World) : (zeroValue 114).run Tryz.prog w = .ok (Value.agg #[.int .i64 0, .int .i64 0, .int .i64 0]) w := by
  obtain ⟨i0, hi0, hzz⟩ := Option.map_eq_some_iff.1 info_debt
  simp only [Prod.mk.injEq] at hzz
  simp [zeroValue, typeInfo, hi0, hzz.1]
theorem dbs_mid (K : List Db) (junk : List Value) (D : List Db) (i j q : Nat) (hi : K.length = i) (hij : i < j) (hj : junk.length = (j - i) * 3) (y : Db) (hy : D[j]? = some y) (hq : q < 3) : (dbs K ++ (junk ++ dbs (D.drop j)))[j * 3 + q]? = (dbC y)[q]? := by
  have h1 := dbs_len K
  rw [List.getElem?_append_right (by omega), List.getElem?_append_right (by omega), show j * 3 + q - (dbs K).length - junk.length = 0 * 3 + q by omega]
  exact dbs_at _ 0 y (by rw [List.getElem?_drop]; exact hy) q hq
theorem dbs_del (K : List Db) (junk : List Value) (D : List Db) (i j : Nat) (hi : K.length = i) (hij : i < j) (hj : junk.length = (j - i) * 3) (y : Db) (hy : D[j]? = some y) :
    (((dbs K ++ (junk ++ dbs (D.drop j))).set (i * 3) (.int .i64 y.page)).set (i * 3 + 1) (.int .i64 y.first)).set (i * 3 + 2) (.int .i64 y.un) = dbs (K ++ [y]) ++ ((junk.drop 3 ++ dbC y) ++ dbs (D.drop (j + 1))) := by
  have h1 : (dbs K).length = i * 3 := by rw [dbs_len, hi]
  have h0 := set_mid (dbs K) junk (dbs (D.drop j)) (i * 3) 0 h1 (by omega) (.int .i64 y.page)
  rw [Nat.add_zero] at h0
  rw [h0, set_mid _ _ _ _ 1 h1 (by rw [List.length_set]; omega), set_mid _ _ _ _ 2 h1 (by rw [List.length_set, List.length_set]; omega)]
  obtain ⟨a, b, c, r, rfl⟩ : ∃ a b c r, junk = a :: b :: c :: r := by
    rcases junk with _ | ⟨a, _ | ⟨b, _ | ⟨c, r⟩⟩⟩
    · simp at hj; omega
    · simp at hj; omega
    · simp at hj; omega
    · exact ⟨_, _, _, _, rfl⟩
  have hlt : j < D.length := (List.getElem?_eq_some_iff.1 hy).1
  have hd : D.drop j = y :: D.drop (j + 1) := by
    rw [List.drop_eq_getElem_cons hlt]
    rw [List.getElem?_eq_getElem hlt] at hy
    rw [Option.some.inj hy]
  rw [hd, show y :: D.drop (j + 1) = [y] ++ D.drop (j + 1) from rfl, dbs_app [y], dbs_app K, show dbs [y] = dbC y from List.append_nil _]
  simp [dbC]
theorem filter_step (D : List Db) (j : Nat) (y : Db) (hy : D[j]? = some y) : (D.take (j + 1)).filter owes = (D.take j).filter owes ++ if owes y then [y] else [] := by
  rw [List.take_add_one, hy, List.filter_append]
  congr 1
  simp [List.filter_cons]
set_option maxRecDepth 100000 in
set_option maxHeartbeats 4000000 in
theorem delfunc_debt (v : Value) (D : List Db) (w0 w : World) (C : Asn) (hn : D.length ≤ 256) (hS : Own w0 No w (Asn.vec 114 3 v D.length (dbs D) * C)) :
    Calls Tryz.prog 44 #[v, paidV] w fun e w' => ∃ v', e = .returned v' ∧ Own w0 No w' (Asn.vec 114 3 v' (D.filter owes).length (dbs (D.filter owes)) * C) := by
  obtain ⟨A, c, rfl⟩ := hS.vec.slice
  have S := Lib.hid hS
  have HI := Lib.hid (fun w hv => index_debt (.slice A D.length c) D w hv hn)
  have HP := Lib.hid (fun a b c w => paid_debt a b c w)
  have hfz := fz_le D
  clear hS
  unfold paidV at *
  by_cases hall : fz D = D.length
  · have hI : fzI D = -1 := if_pos hall
    rw [hI] at HI
    have HF := Lib.hid (fz_full D hall)
    clear hall hI hfz
    go_enter Tryz.func44, Tryz.ntmps44
    go_wp2_with fail
    refine (HI.out _ S.out.vec).mono ?_
    rintro e w2 ⟨rfl, hX⟩
    have S2 := Lib.hid (S.out.below hX)
    clear hX S HI
    go_wp2_with fail
    go_returns
    rw [HF.out]
    exact ⟨_, rfl, S2.out⟩
  · have hI : fzI D = (fz D : Nat) := if_neg hall
    rw [hI] at HI
    obtain ⟨b, rfl⟩ : ∃ b, A = some ⟨b, 0, none⟩ := by
      rcases S.out.vec.forms with ⟨-, hz⟩ | ⟨g, cap, he, -⟩
      · omega
      · cases he; exact ⟨_, rfl⟩
    have hcap : D.length ≤ c ∧ c ≤ maxLen := by
      rcases S.out.vec.forms with ⟨he, -⟩ | ⟨g, cap, he, -, h1, h2⟩
      · cases he
      · cases he; exact ⟨h1, h2⟩
    obtain ⟨f0, hf0⟩ : ∃ f, f = fz D := ⟨_, rfl⟩
    obtain ⟨y0, hy0⟩ : ∃ y, D[f0]? = some y := ⟨D[f0]'(by omega), List.getElem?_eq_getElem _⟩
    have hK0 : (D.take (f0 + 1)).filter owes = D.take f0 := by
      rw [filter_step D f0 y0 hy0, hf0, fz_take, if_neg (by have := fz_at D y0 (hf0 ▸ hy0); simp [owes, this]), List.append_nil]
    have hD0 : dbs D = dbs ((D.take (f0 + 1)).filter owes) ++ (dbC y0 ++ dbs (D.drop (f0 + 1))) := by
      rw [hK0, ← show dbs [y0] = dbC y0 from List.append_nil _, ← dbs_app, ← dbs_app]
      congr 1
      have hlt : f0 < D.length := by omega
      rw [List.getElem?_eq_getElem hlt] at hy0
      rw [← Option.some.inj hy0, show [D[f0]] ++ D.drop (f0 + 1) = D[f0] :: D.drop (f0 + 1) from rfl, ← List.drop_eq_getElem_cons hlt, List.take_append_drop]
    have HD0 := Lib.hid hD0
    have HK0 : Hid (((D.take (f0 + 1)).filter owes).length = f0) := Lib.hid (by rw [hK0, List.length_take]; omega)
    have hflt : f0 < D.length := by omega
    rw [← hf0] at HI
    clear hall hI hK0 hD0 hy0 hf0 hfz
    go_enter Tryz.func44, Tryz.ntmps44
    go_wp2_with fail
    refine (HI.out _ S.out.vec).mono ?_
    rintro e w2 ⟨rfl, hX⟩
    have S2 := S.out.below hX
    rw [HD0.out] at S2
    have S3 := Lib.hid S2
    clear hX S HI S2
    have hw1 : IntKind.i64.wrap ((f0 : Int) + 1) = (f0 : Int) + 1 := by rw [IntKind.wrap_i64]; omega
    have hm1 : ((f0 : Int) == -1) = false := beq_eq_false_iff_ne.2 (by omega)
    go_wp2_with fail
    go_loopw [5, 6, 7] (fun p q _ wr => ∃ (i j : Nat) (junk : List Value), p = .int .i64 i ∧ q = .int .i64 j ∧ i < j ∧ j ≤ D.length ∧ Hid (((D.take j).filter owes).length = i) ∧ Hid (junk.length = (j - i) * 3) ∧ Hid (Own w0 No wr (Asn.vec 114 3 (.slice (some ⟨b, 0, none⟩) D.length c) D.length (dbs ((D.take j).filter owes) ++ (junk ++ dbs (D.drop j))) * C))) (fun _ q _ _ => D.length - (intOf q).toNat)
    case atStart => exact ⟨f0, f0 + 1, dbC y0, rfl, by go_num, by omega, by omega, HK0, Lib.hid (by show 3 = _; omega), S3⟩
    case round =>
      clear S3
      obtain ⟨i, j, junk, rfl, rfl, hij, hj, hK, hJ, S⟩ := hrel
      by_cases hlt : j < D.length
      · obtain ⟨y, hy⟩ : ∃ y, D[j]? = some y := ⟨D[j]'hlt, List.getElem?_eq_getElem _⟩
        have hv := S.out.vec
        have d0 : wr.cell? ⟨b, j * 3, none⟩ = some (.int .i64 y.page) := hv.cell (j := j * 3 + 0) (by rw [dbs_mid _ _ _ i j 0 hK.out hij hJ.out y hy (by decide)]; rfl)
        have d1 : wr.cell? ⟨b, j * 3 + 1, none⟩ = some (.int .i64 y.first) := hv.cell (by rw [dbs_mid _ _ _ i j 1 hK.out hij hJ.out y hy (by decide)]; rfl)
        have d2 : wr.cell? ⟨b, j * 3 + 2, none⟩ = some (.int .i64 y.un) := hv.cell (by rw [dbs_mid _ _ _ i j 2 hK.out hij hJ.out y hy (by decide)]; rfl)
        clear hv
        have HS := Lib.hid (filter_step D j y hy)
        have HDD := Lib.hid (dbs_del ((D.take j).filter owes) junk D i j hK.out hij hJ.out y hy)
        have HYY := Lib.hid hy
        clear hy
        obtain ⟨ya, hya⟩ : ∃ a : Int, a = y.page := ⟨_, rfl⟩
        obtain ⟨yb, hyb⟩ : ∃ a : Int, a = y.first := ⟨_, rfl⟩
        obtain ⟨yc, hyc⟩ : ∃ a : Int, a = y.un := ⟨_, rfl⟩
        rw [← hya] at d0 HDD
        rw [← hyb] at d1 HDD
        rw [← hyc] at d2 HDD
        have HYB := Lib.hid hyb
        clear hya hyb hyc
        have S4 := Lib.hid ((own_front (S.out.alloc #[.int .i64 ya, .int .i64 yb, .int .i64 yc] 114)))
        clear S
        obtain ⟨gx, hgz⟩ : ∃ g, g = wr.heap.size := ⟨_, rfl⟩
        go_wp2_with fail
        refine (HP.out _ _ _ _).mono ?_
        rintro e w5 ⟨rfl, hX⟩
        have S5 := Lib.hid (S4.out.below hX)
        clear hX S4 d0 d1 d2
        rw [← hgz] at S5 ⊢
        clear hgz
        have hwj : IntKind.i64.wrap ((j : Int) + 1) = (j : Int) + 1 := by rw [IntKind.wrap_i64]; omega
        have hwi : IntKind.i64.wrap ((i : Int) + 1) = (i : Int) + 1 := by rw [IntKind.wrap_i64]; omega
        by_cases h0 : yb = 0
        · have hb0 : (yb == 0) = true := by simpa using h0
          have HF : Hid ((D.take (j + 1)).filter owes = (D.take j).filter owes) := Lib.hid (by rw [HS.out, if_neg (by have := HYB.out; simp [owes]; omega), List.append_nil])
          have hdj : dbs (D.drop j) = dbC y ++ dbs (D.drop (j + 1)) := by
            have hy := HYY.out
            rw [List.drop_eq_getElem_cons hlt]
            rw [List.getElem?_eq_getElem hlt] at hy
            rw [Option.some.inj hy, show y :: D.drop (j + 1) = [y] ++ D.drop (j + 1) from rfl, dbs_app, show dbs [y] = dbC y from List.append_nil _]
          have S6 := S5.out
          rw [hdj, ← List.append_assoc junk] at S6
          have S7 := Lib.hid (own_front S6).right
          clear S6 S5 hdj HDD
          rw [hb0]
          go_wp2_with fail
          go_roundw
          case rel => exact ⟨i, j + 1, junk ++ dbC y, rfl, by go_num, by omega, by omega, by rw [HF.out]; exact hK, Lib.hid (by rw [List.length_append, hJ.out]; show _ + 3 = _; omega), by rw [HF.out]; exact S7⟩
          case measure => simp [intOf]; omega
        · have hb0 : (yb == 0) = false := by simpa using h0
          have HF : Hid ((D.take (j + 1)).filter owes = (D.take j).filter owes ++ [y]) := Lib.hid (by rw [HS.out, if_pos (by have := HYB.out; simp [owes]; omega)])
          rw [hb0]
          obtain ⟨k0, k1, k2⟩ : w5.cell? ⟨gx, 0, none⟩ = some (.int .i64 ya) ∧ w5.cell? ⟨gx, 1, none⟩ = some (.int .i64 yb) ∧ w5.cell? ⟨gx, 2, none⟩ = some (.int .i64 yc) := by
            have h := S5.out.has (Has.r (Has.l (has_blk _ _ _)))
            exact ⟨h.cell 0, h.cell 1, h.cell 2⟩
          have hlen : (dbs ((D.take j).filter owes) ++ (junk ++ dbs (D.drop j))).length = D.length * 3 := S5.out.vec.len
          have hx : ∀ q, q < 3 → ∃ u, (dbs ((D.take j).filter owes) ++ (junk ++ dbs (D.drop j)))[i * 3 + q]? = some u := fun q hq => ⟨_, List.getElem?_eq_getElem (by omega)⟩
          obtain ⟨u0, hu0⟩ := hx 0 (by decide)
          obtain ⟨u1, hu1⟩ := hx 1 (by decide)
          obtain ⟨u2, hu2⟩ := hx 2 (by decide)
          have q0 : w5.cell? ⟨b, i * 3, none⟩ = some u0 := S5.out.vec.cell (j := i * 3 + 0) hu0
          have q1 := S5.out.vec.cell hu1
          have q2 := S5.out.vec.cell hu2
          have e0 := S5.out.vec.free (i * 3)
          have e1 := S5.out.vec.free (i * 3 + 1)
          have e2 := S5.out.vec.free (i * 3 + 2)
          have S6 := ((S5.out.set (Sets.l (sets_vec _ _ _ _ _ _ (i * 3) (by omega) (.int .i64 ya)))).set (Sets.l (sets_vec _ _ _ _ _ _ (i * 3 + 1) (by omega) (.int .i64 yb)))).set (Sets.l (sets_vec _ _ _ _ _ _ (i * 3 + 2) (by omega) (.int .i64 yc)))
          rw [HDD.out] at S6
          have S7 := Lib.hid (own_front S6).right
          clear S6 S5 hu0 hu1 hu2 hx hlen HDD HS
          go_wp2_with fail
          go_roundw
          case rel => exact ⟨i + 1, j + 1, junk.drop 3 ++ dbC y, by go_num, by go_num, by omega, by omega, Lib.hid (by rw [HF.out, List.length_append, hK.out]; rfl), Lib.hid (by rw [List.length_append, List.length_drop, hJ.out]; show _ + 3 = _; omega), by rw [HF.out]; exact S7⟩
          case measure => simp [intOf]; omega
      · obtain rfl : j = D.length := by omega
        have S5 := S.out
        obtain ⟨cur, hg, hnc, hcm, hcl, hct, hxl⟩ := S5.vec.opened
        have hzl : (Builtin.zeroCells (Value.agg #[.int .i64 0, .int .i64 0, .int .i64 0]).cells (D.length - i)).toList.length = (D.length - i) * 3 := by simp [size_zeroCells]; rfl
        have hcl2 := lay_len cur (i * 3) (Builtin.zeroCells (Value.agg #[.int .i64 0, .int .i64 0, .int .i64 0]).cells (D.length - i)).toList (by rw [hzl]; omega)
        have hcr : ∀ (W : World) (ty : TypeId) (cc : Nat), W.heap = wr.heap → (Builtin.clear_ #[107] ty #[.slice (some ⟨b, i * 3, none⟩) (D.length - i) cc]).run Tryz.prog W =
            .ok (.tuple #[]) (W.setRow b (lay cur (i * 3) (Builtin.zeroCells (Value.agg #[.int .i64 0, .int .i64 0, .int .i64 0]).cells (D.length - i)).toList).toArray) := fun W ty cc hW =>
          run_clear_rows W 107 114 ty (Value.agg #[.int .i64 0, .int .i64 0, .int .i64 0]) Tryz.underlying107 zero_debt (by decide +kernel) b (i * 3) (D.length - i) cc (by omega) _ _ (by rw [hW]; exact hg) (by show i * 3 + (D.length - i) * 3 ≤ _; omega)
        have HCUT : Hid ((lay cur (i * 3) (Builtin.zeroCells (Value.agg #[.int .i64 0, .int .i64 0, .int .i64 0]).cells (D.length - i)).toList).take (i * 3) = dbs (D.filter owes)) := Lib.hid (by
          have hki := hK.out
          rw [List.take_length] at hki hct
          have e : cur.take (i * 3) = dbs (D.filter owes) := by
            have h1 : (dbs (D.filter owes)).length = i * 3 := by rw [dbs_len, hki]
            have h2 := congrArg (List.take (i * 3)) hct
            rw [List.take_take, Nat.min_eq_left (by omega), ← h1, List.take_left, h1] at h2
            exact h2
          unfold lay
          rw [List.append_assoc, List.take_append_of_le_length (by rw [List.length_take]; omega), List.take_take, Nat.min_self, e])
        have hT := hcr wr 0 (c - i) rfl
        have HCL : Hid ((lay cur (i * 3) (Builtin.zeroCells (Value.agg #[.int .i64 0, .int .i64 0, .int .i64 0]).cells (D.length - i)).toList).length = c * 3) := Lib.hid (by rw [hcl2, hcl])
        have HG := Lib.hid hg
        have HK2 : Hid ((D.filter owes).length = i) := Lib.hid (by have := hK.out; rwa [List.take_length] at this)
        clear hcr hct hxl hcl hcl2 hzl hg S5
        generalize lay cur (i * 3) (Builtin.zeroCells (Value.agg #[.int .i64 0, .int .i64 0, .int .i64 0]).cells (D.length - i)).toList = C2 at *
        have u1 := run_underlying (P := Tryz.prog) Tryz.underlying107
        have g1 : (i : Int) ≤ (D.length : Int) := by omega
        have g2 : ¬ (c = i) := by omega
        have g3 : i ≤ D.length := by omega
        have g4 : i ≤ c := by omega
        have g5 : (i : Int) ≤ (c : Int) := by omega
        go_wp2_with (at_builtin; refine list_known rfl .clear Builtin.clear_ (fun _ _ _ _ => rfl) _ #[107] rfl #[.slice (some ⟨b, i * 3, none⟩) (D.length - i) (c - i)] (by simp [Act.eval, Act.put]) hT ?_)
        go_returns
        have hV : Vec (wr.setRow b C2.toArray) 114 3 (.slice (some ⟨b, 0, none⟩) i c) i (dbs (D.filter owes)) := Vec.built C2 (setRow_heap wr b _ _ _ _ HG.out) g4 hcm HCL.out HCUT.out
        have S9 := S.out.app hV ((chg_setRow wr b C2.toArray).mono (fun k _ hk => by rw [hk]; rfl)) (fun k hk => Or.inl hk)
        rw [HK2.out]
        exact ⟨_, rfl, S9⟩
theorem tr_d_in (X : Asn) (g gd gl : Nat) (hv ov : Value) (H : List Sh) (D : List Db) (C : Asn) : X * (aTr g gd gl hv ov H D * C) = Asn.vec 114 3 ov D.length (dbs D) * (Asn.blk g 109 (trRow gd gl hv ov) * (Asn.vec 98 8 hv H.length (shs H) * (aNs H * (X * C)))) := by unfold aTr; ac_rfl
/-- What a debt is once the disk is synced. -/
def lag (y : Db) : Db := ⟨y.page, y.un, y.un⟩
/-- .. of all pages. -/
def synced (d : Nat → Option Db) : Nat → Option Db := fun p => match d p with
  | some y => if y.un = 0 then none else some (lag y)
  | none => none
theorem synced_ok {d : Nat → Option Db} (h : OkD d) : OkD (synced d) := fun p x hx => by
  unfold synced at hx
  split at hx
  · rename_i y hy
    split at hx
    · cases hx
    · cases hx; exact h p y hy
  · cases hx
theorem synced_lst (d : Nat → Option Db) (n : Nat) : ((lst d n).map lag).filter owes = lst (synced d) n := by
  unfold lst
  induction List.range n with
  | nil => rfl
  | cons a l ih =>
    rw [List.filterMap_cons, List.filterMap_cons]
    cases hd : d a with
    | none => rw [show synced d a = none by unfold synced; rw [hd]]; exact ih
    | some y =>
      by_cases hu : y.un = 0
      · rw [show synced d a = none by unfold synced; rw [hd]; exact if_pos hu]
        simp only [List.map_cons]
        rw [List.filter_cons, if_neg (by simp [owes, lag, hu])]
        exact ih
      · rw [show synced d a = some (lag y) by unfold synced; rw [hd]; exact if_neg hu]
        simp only [List.map_cons]
        rw [List.filter_cons, if_pos (by simp [owes, lag, hu]), ih]
section
variable (n g gd gl : Nat) (hn : n ≤ 256) (hv ov : Value) (H : List Sh) (d : Nat → Option Db)
include hn
set_option maxRecDepth 100000 in
set_option maxHeartbeats 4000000 in
theorem sync_any (m b : Nat) (P : Nat → Sl.Pg) (w0 w : World) (C : Asn) (hS : Own w0 No w (aTr g gd gl hv ov H (lst d n) * (Sl.aDk gd m b n P * (Mn.aMn m Rl.idle * C)))) :
    Calls Tryz.prog 16 #[tPtr g] w fun e w' => ∃ ov', e = .returned (.int .i64 0) ∧ Own w0 No w' (aTr g gd gl hv ov' H (lst (synced d) n) * (Sl.aDk gd m b n (fun i => (P i).secure) * (Mn.aMn m Rl.idle * C))) := by
  have hl := lst_le d n
  have S0 := hS
  rw [show aTr g gd gl hv ov H (lst d n) * (Sl.aDk gd m b n P * (Mn.aMn m Rl.idle * C)) = (Sl.aDk gd m b n P * Mn.aMn m Rl.idle) * (aTr g gd gl hv ov H (lst d n) * C) by ac_rfl] at S0
  have S := Lib.hid S0
  have HS := Lib.hid (Sl.tSync_ok gd m b n P Rl.idle rfl)
  rw [show Rl.idle.use = Rl.idle from rfl] at HS
  have HD := Lib.hid (fun v w C h => delfunc_debt v ((lst d n).map lag) w0 w C (by rw [List.length_map]; omega) h)
  rw [synced_lst, List.length_map] at HD
  obtain ⟨AO, cO, rfl⟩ := hS.left.right.right.vec.slice
  obtain ⟨c0, -⟩ := tr_cells (S.out.has (Has.r (Has.l (Has.l (has_blk _ _ _)))))
  clear hS S0
  unfold tPtr paidV at *
  go_enter Tryz.func16, Tryz.ntmps16
  go_wp2_with fail
  refine (S.out.call HS.out.l).mono ?_
  rintro e w2 ⟨rfl, hX⟩
  rw [tr_d_in] at hX
  have S2 := Lib.hid hX
  clear hX S HS c0
  obtain ⟨-, -, -, c3, -, f3⟩ := tr_cells (S2.out.has (Has.r (Has.l (has_blk _ _ _))))
  go_wp2_with fail
  go_loopw [4, 20] (fun _ i wr => ∃ k : Nat, i = .int .i64 k ∧ k ≤ (lst d n).length ∧ Hid (Own w0 No wr (Asn.vec 114 3 (.slice AO (lst d n).length cO) (lst d n).length (dbs (((lst d n).take k).map lag ++ (lst d n).drop k)) * (Asn.blk g 109 (trRow gd gl hv (.slice AO (lst d n).length cO)) * (Asn.vec 98 8 hv H.length (shs H) * (aNs H * (Sl.aDk gd m b n (fun i => (P i).secure) * Mn.aMn m Rl.idle * C))))))) (fun _ i _ => (lst d n).length - (intOf i).toNat)
  case atStart => exact ⟨0, rfl, Nat.zero_le _, S2⟩
  case round =>
    clear S2 c3 f3
    obtain ⟨k, rfl, hk, S2⟩ := hrel
    obtain ⟨-, -, -, c3, -, f3⟩ := tr_cells (S2.out.has (Has.r (Has.l (has_blk _ _ _))))
    by_cases hlt : k < (lst d n).length
    · obtain ⟨y, hy⟩ : ∃ y, (lst d n)[k]? = some y := ⟨(lst d n)[k]'hlt, List.getElem?_eq_getElem _⟩
      obtain ⟨bo, rfl⟩ : ∃ b, AO = some ⟨b, 0, none⟩ := by
        rcases S2.out.vec.forms with ⟨-, hz⟩ | ⟨g, cap, he, -⟩
        · omega
        · cases he; exact ⟨_, rfl⟩
      have hdk : (lst d n).drop k = y :: (lst d n).drop (k + 1) := by
        rw [List.drop_eq_getElem_cons hlt]
        rw [List.getElem?_eq_getElem hlt] at hy
        rw [Option.some.inj hy]
      have htk : ((lst d n).take (k + 1)).map lag = ((lst d n).take k).map lag ++ [lag y] := by rw [List.take_add_one, hy, List.map_append]; rfl
      have hmk : (((lst d n).take k).map lag).length = k := by rw [List.length_map, List.length_take]; omega
      have hat : (((lst d n).take k).map lag ++ (lst d n).drop k)[k]? = some y := by rw [List.getElem?_append_right (by omega), hmk, Nat.sub_self, List.getElem?_drop, Nat.add_zero]; exact hy
      have d1 := S2.out.vec.cell (j := k * 3 + 1) (by rw [dbs_at _ k y hat 1 (by decide)]; rfl)
      have d2 := S2.out.vec.cell (j := k * 3 + 2) (by rw [dbs_at _ k y hat 2 (by decide)]; rfl)
      have f1 := S2.out.vec.free (k * 3 + 1)
      have S4 := (S2.out.set (Sets.l (sets_vec _ _ _ _ _ _ (k * 3 + 1) (by omega) (.int .i64 y.un)))).drew
      have hset : (dbs (((lst d n).take k).map lag ++ (lst d n).drop k)).set (k * 3 + 1) (.int .i64 y.un) = dbs (((lst d n).take (k + 1)).map lag ++ (lst d n).drop (k + 1)) := by
        have e := dbs_set (((lst d n).take k).map lag) ((lst d n).drop (k + 1)) y 1 (by decide) (.int .i64 y.un)
        rw [hmk] at e
        rw [hdk, e, htk, List.append_assoc, dbs_app, show [lag y] ++ (lst d n).drop (k + 1) = lag y :: (lst d n).drop (k + 1) from rfl, show lag y :: (lst d n).drop (k + 1) = [lag y] ++ (lst d n).drop (k + 1) from rfl, dbs_app [lag y], show dbs [lag y] = dbC (lag y) from List.append_nil _]
        rfl
      rw [hset] at S4
      have S5 := Lib.hid S4
      clear S4 hset hat htk hdk hmk hy S2
      generalize (y.un : Int) = yu at *
      generalize (y.first : Int) = yf at *
      go_upto_region 9 with fail
      go_region
      go_wp2_with fail
      go_roundw
      case rel => exact ⟨k + 1, by go_num, by omega, S5⟩
      case measure => simp [intOf]; omega
    · obtain rfl : k = (lst d n).length := by omega
      have S3 := S2.out
      rw [List.take_length, List.drop_length, List.append_nil] at S3
      have S4 := Lib.hid S3
      clear S3 S2
      go_wp2_with fail
      refine (HD.out _ _ _ S4.out).mono ?_
      rintro e w5 ⟨v5, rfl, hX⟩
      obtain ⟨A5, c5, rfl⟩ := hX.vec.slice
      have S5 := Lib.hid hX
      clear hX S4 HD c3 f3
      obtain ⟨-, -, -, c3, -, f3⟩ := tr_cells (S5.out.has (Has.r (Has.l (has_blk _ _ _))))
      go_wp2_with fail
      go_returns
      refine ⟨.slice A5 (lst (synced d) n).length c5, rfl, ?_⟩
      have S6 := S5.out.set (Sets.r (Sets.l (sets_blk g 109 _ 3 (.slice A5 (lst (synced d) n).length c5))))
      rw [tr_d]
      exact S6.re (congrArg (fun x => _ * (_ * (_ * (_ * x)))) (Asn.assoc ..))
end
end Go.Proofs.YtapdpdhibpblgaaGreatDoor.Tr
end

-- joined
section
namespace Go.Proofs.YtapdpdhibpblgaaGreatDoor.Tr
open Go.ChangeShapes Go.WideShapes Go.ChangeAt Go.RowKit Go.PlainAid Aid Nt Nd Cr
set_option linter.unusedVariables false
set_option linter.unusedSimpArgs false
set_option linter.unusedSectionVars false
/-- Which record has a stamp. -/
def kk (L : List Rec) (st : Int) : Nat := ((List.range L.length).find? (fun k => decide (((at_ L k : Nat) : Int) = st))).getD 0
def stampOk (L : List Rec) (st : Int) : Prop := ∃ k, k < L.length ∧ ((at_ L k : Nat) : Int) = st
theorem kk_of {L : List Rec} {st : Int} (h : stampOk L st) : kk L st < L.length ∧ st = ((at_ L (kk L st) : Nat) : Int) := by
  obtain ⟨k, hk, he⟩ := h
  unfold kk
  cases hf : (List.range L.length).find? (fun k => decide (((at_ L k : Nat) : Int) = st)) with
  | none => exact absurd he (by simpa using List.find?_eq_none.1 hf k (by simpa using hk))
  | some j =>
    have h1 := List.find?_some hf
    have h2 := List.mem_of_find?_eq_some hf
    exact ⟨by simpa using h2, (of_decide_eq_true h1).symm⟩
/-- What writing turns: the debts, the disk's pages, how much of the log is safe. -/
structure W3 where
  d : Nat → Option Db
  P : Nat → Sl.Pg
  safe : Nat
/-- A page at hand is written, if it must. -/
def wr1 (L : List Rec) (s : W3) (x : Sh) : W3 := match s.d x.page with
  | some y => if y.un = 0 then s else ⟨put s.d x.page (some ⟨x.page, y.first, 0⟩), Sl.upd s.P x.page ((s.P x.page).write (ofL (Nd.bytes x.n))), forced L (kk L x.n.stamp) s.safe⟩
  | none => s
def Fit (L : List Rec) (s : W3) (x : Sh) : Prop := ∀ y, s.d x.page = some y → y.un ≠ 0 → fitsB x.n = true ∧ stampOk L x.n.stamp
theorem wr1_ok (L : List Rec) (s : W3) (x : Sh) (h : OkD s.d) : OkD (wr1 L s x).d := by
  unfold wr1
  split
  · split
    · exact h
    · exact h.put _ _ fun z hz => by cases hz; rfl
  · exact h
theorem wr1_fit (L : List Rec) (s : W3) (x z : Sh) (h : Fit L s z) : Fit L (wr1 L s x) z := by
  unfold wr1
  split
  · split
    · exact h
    · intro y hy hu
      dsimp only at hy
      unfold put at hy
      split at hy
      · cases hy; exact absurd rfl hu
      · exact h y hy hu
  · exact h
def aBn (g gd gl m b n size gr : Nat) (hv ov lv : Value) (h : Nat → Option Sh) (L : List Rec) (held : Nat) (s : W3) (C : Asn) : Asn :=
  aTr g gd gl hv ov (lst h n) (lst s.d n) * (Sl.aDk gd m b n s.P * (Mn.aMn m Rl.idle * (aLg gl gr m size lv L s.safe held * C)))
section
variable (n g gd gl m b size gr : Nat) (hn : n ≤ 256) (hv ov lv : Value) (h : Nat → Option Sh) (hh : OkS h) (L : List Rec) (held : Nat)
include hn hh
theorem write_any (s : W3) (ho : OkD s.d) (x : Sh) (hp : x.page < n) (hx : x ∈ lst h n) (hf : Fit L s x) (w0 w : World) (C : Asn) (ht : Tab w0) (hS : Own w0 No w (aBn g gd gl m b n size gr hv ov lv h L held s C)) :
    Calls Tryz.prog 41 #[tPtr g, .agg (shV x.page x.n x.v)] w fun e w' => e = .returned (.int .i64 0) ∧ Own w0 No w' (aBn g gd gl m b n size gr hv ov lv h L held (wr1 L s x) C) := by
  unfold aBn at hS ⊢
  have hno : (∀ y, s.d x.page = some y → y.un = 0) → wr1 L s x = s := fun hu => by
    unfold wr1
    split
    · rename_i y hy; exact if_pos (hu y hy)
    · rfl
  have hvs : ∃ A m c, x.v = .slice A m c := by
    obtain ⟨A, c, e⟩ := (ns_at (show Own w0 No w (aNs (lst h n) * (Sl.aDk gd m b n s.P * (Mn.aMn m Rl.idle * (aLg gl gr m size lv L s.safe held * C)))) from by
      have h' := hS
      rw [tr_b] at h'
      exact h'.right.right.right) hx).slice
    exact ⟨A, _, c, e⟩
  cases hd : s.d x.page with
  | none =>
    have hu : ∀ y, s.d x.page = some y → y.un = 0 := fun y hy => by rw [hd] at hy; cases hy
    rw [hno hu]
    exact write_no n g gd gl hn hv ov h s.d ho x.page hp x.n x.v hu w0 w _ hvs hS
  | some y =>
    by_cases hu0 : y.un = 0
    · have hu : ∀ y, s.d x.page = some y → y.un = 0 := fun z hz => by rw [hd] at hz; cases hz; exact hu0
      rw [hno hu]
      exact write_no n g gd gl hn hv ov h s.d ho x.page hp x.n x.v hu w0 w _ hvs hS
    · obtain ⟨h1, h2⟩ := hf y hd hu0
      obtain ⟨h3, h4⟩ := kk_of h2
      have e : wr1 L s x = ⟨put s.d x.page (some ⟨x.page, y.first, 0⟩), Sl.upd s.P x.page ((s.P x.page).write (ofL (Nd.bytes x.n))), forced L (kk L x.n.stamp) s.safe⟩ := by
        unfold wr1; rw [hd]; exact if_neg hu0
      rw [e]
      exact write_yes n g gd gl hn hv ov h s.d ho x.page hp x.n x.v m b size gr s.P lv L s.safe held (kk L x.n.stamp) h3 y hd hu0 hx h1 h4 w0 w C ht hS
set_option maxRecDepth 100000 in
set_option maxHeartbeats 4000000 in
theorem flush_any (s : W3) (ho : OkD s.d) (hf : ∀ x, x ∈ lst h n → Fit L s x) (w0 w : World) (C : Asn) (ht : Tab w0) (hS : Own w0 No w (aBn g gd gl m b n size gr hv ov lv h L held s C)) :
    Calls Tryz.prog 15 #[tPtr g] w fun e w' => ∃ ov', e = .returned (.int .i64 0) ∧
      Own w0 No w' (aBn g gd gl m b n size gr hv ov' lv h L held ⟨synced ((lst h n).foldl (wr1 L) s).d, fun i => (((lst h n).foldl (wr1 L) s).P i).secure, ((lst h n).foldl (wr1 L) s).safe⟩ C) := by
  have S := Lib.hid hS
  have hl := lst_le h n
  have HW := Lib.hid (fun s ho x hp hx hf w h' => write_any n g gd gl m b size gr hn hv ov lv h hh L held s ho x hp hx hf w0 w C ht h')
  have HY := Lib.hid (fun d P safe w h' => sync_any n g gd gl hn hv ov (lst h n) d m b P w0 w (aLg gl gr m size lv L safe held * C) h')
  have HPG : Hid (∀ x, x ∈ lst h n → x.page < n ∧ ∃ A m c, x.v = .slice A m c) := Lib.hid fun x hx => by
    obtain ⟨p, hp, h1⟩ := List.mem_filterMap.1 hx
    refine ⟨by rw [hh p x h1]; simpa using hp, ?_⟩
    obtain ⟨A, c, e⟩ := (ns_at (show Own w0 No w (aNs (lst h n) * (Sl.aDk gd m b n s.P * (Mn.aMn m Rl.idle * (aLg gl gr m size lv L s.safe held * C)))) from by
      have h' := hS
      unfold aBn at h'
      rw [tr_b] at h'
      exact h'.right.right.right) hx).slice
    exact ⟨A, _, c, e⟩
  obtain ⟨AH, cH, rfl⟩ := hS.left.right.vec.slice
  obtain ⟨-, -, c2, -⟩ := tr_cells (S.out.has (Has.l (Has.l (has_blk _ _ _))))
  have HO := Lib.hid ho
  have HF := Lib.hid hf
  clear hS ht ho hf
  unfold tPtr shV at *
  go_enter Tryz.func15, Tryz.ntmps15
  go_wp2_with fail
  go_loopw [4, 5, 13] (fun _ _ i wr => ∃ (k : Nat) (s' : W3), i = .int .i64 k ∧ k ≤ (lst h n).length ∧ Hid (s' = ((lst h n).take k).foldl (wr1 L) s) ∧ Hid (OkD s'.d) ∧ Hid (∀ x, x ∈ lst h n → Fit L s' x) ∧ Hid (Own w0 No wr (aBn g gd gl m b n size gr (.slice AH (lst h n).length cH) ov lv h L held s' C))) (fun _ _ i _ => (lst h n).length - (intOf i).toNat)
  case atStart => exact ⟨0, s, rfl, Nat.zero_le _, rfl, HO, HF, S⟩
  case round =>
    clear S c2
    obtain ⟨k, s', rfl, hk, hE, hO, hF, S⟩ := hrel
    by_cases hlt : k < (lst h n).length
    · obtain ⟨x, hx⟩ : ∃ y, (lst h n)[k]? = some y := ⟨(lst h n)[k]'hlt, List.getElem?_eq_getElem _⟩
      have hmem := List.mem_of_getElem? hx
      obtain ⟨hp, A0, m0, c0, hv0⟩ := HPG.out x hmem
      obtain ⟨xp, xn, xv⟩ := x
      dsimp only at hp hv0
      subst hv0
      obtain ⟨bo, rfl⟩ : ∃ b, AH = some ⟨b, 0, none⟩ := by
        rcases S.out.left.right.vec.forms with ⟨-, hz⟩ | ⟨g, cap, he, -⟩
        · omega
        · cases he; exact ⟨_, rfl⟩
      have hget := fun (j : Nat) (hj : j < 8) => (show (shs (lst h n))[k * 8 + j]? = (shC ⟨xp, xn, .slice A0 m0 c0⟩)[j]? from shs_at _ k _ hx j hj)
      have hv' := S.out.left.right.vec
      have q0 : wr.cell? ⟨bo, k * 8, none⟩ = some (.int .i64 xp) := hv'.cell (j := k * 8 + 0) (hget 0 (by decide))
      have q1 := hv'.cell (hget 1 (by decide))
      have q2 := hv'.cell (hget 2 (by decide))
      have q3 := hv'.cell (hget 3 (by decide))
      have q4 := hv'.cell (hget 4 (by decide))
      have q5 := hv'.cell (hget 5 (by decide))
      have q6 := hv'.cell (hget 6 (by decide))
      have q7 := hv'.cell (hget 7 (by decide))
      have HC := Lib.hid (fun w => HW.out s' hO.out ⟨xp, xn, .slice A0 m0 c0⟩ hp hmem (hF.out _ hmem) w)
      have hE2 : Hid (wr1 L s' ⟨xp, xn, .slice A0 m0 c0⟩ = ((lst h n).take (k + 1)).foldl (wr1 L) s) := Lib.hid (by rw [List.take_add_one, hx, hE.out, List.foldl_append]; rfl)
      have hO2 : Hid (OkD (wr1 L s' ⟨xp, xn, .slice A0 m0 c0⟩).d) := Lib.hid (wr1_ok L s' _ hO.out)
      have hF2 : Hid (∀ z, z ∈ lst h n → Fit L (wr1 L s' ⟨xp, xn, .slice A0 m0 c0⟩) z) := Lib.hid fun z hz => wr1_fit L s' _ z (hF.out z hz)
      clear hv' hget hx hmem hE hO hF
      generalize wr1 L s' ⟨xp, xn, .slice A0 m0 c0⟩ = s2 at *
      dsimp only at HC
      have S3 := Lib.hid (S.out.alloc #[.int .i64 xp, .int .i64 xn.tree, .int .i64 xn.level, .int .i64 xn.stamp, .bool xn.has, .string (ofL xn.high), .int .i64 xn.right, .slice A0 m0 c0] 98).right
      clear S
      generalize ofL xn.high = zh at *
      go_wp2_with fail
      refine (HC.out _ S3.out).mono ?_
      rintro e w5 ⟨rfl, hX⟩
      have S4 := Lib.hid hX
      clear hX S3 q0 q1 q2 q3 q4 q5 q6 q7 HC
      go_wp2_with fail
      go_roundw
      case rel => exact ⟨k + 1, s2, by go_num, by omega, hE2, hO2, hF2, S4⟩
      case measure => simp [intOf]; omega
    · obtain rfl : k = (lst h n).length := by omega
      have hE3 : s' = (lst h n).foldl (wr1 L) s := by have := hE.out; rwa [List.take_length] at this
      have HE3 := Lib.hid hE3
      clear hE3
      have S3 := S.out
      unfold aBn at S3
      have S4 := Lib.hid S3
      clear S3 S
      go_wp2_with fail
      refine (HY.out _ _ _ _ S4.out).mono ?_
      rintro e w5 ⟨ov5, rfl, hX⟩
      have S5 := Lib.hid hX
      clear hX S4
      go_wp2_with fail
      go_returns
      rw [← HE3.out]
      exact ⟨ov5, rfl, S5.out⟩
end
end Go.Proofs.YtapdpdhibpblgaaGreatDoor.Tr
end
