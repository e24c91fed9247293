/- KnotRounds, walked. -/
import Derived.Test.YtclajkgmdhnlcaaKtO
namespace Go.Proofs.Ytclajkgmdhnlcaa.Kt
open Go.ChangeShapes Go.WideShapes Go.ChangeAt Go.RowKit Go.PlainAid Aid
set_option linter.unusedVariables false
set_option linter.unusedSimpArgs false
theorem Prs.at {w : World} {A : Option Addr} {es : List Edg} (h : Prs w A es) (hne : 0 < es.length) : ∃ b o, A = some ⟨b, o, none⟩ ∧ ∀ (k : Nat) (x : Edg), es[k]? = some x → w.cell? ⟨b, o + k * 2, none⟩ = some (.int .i64 x.1) ∧ w.cell? ⟨b, o + k * 2 + 1, none⟩ = some (.int .i64 x.2) := by
  rcases h with rfl | ⟨b, o, hA, hb, hc⟩
  · simp at hne
  · exact ⟨b, o, hA, fun k x hx => hc k x hx⟩
theorem nd_get {l : List Int} (h : l.Nodup) {i j : Nat} {a : Int} (hi : l[i]? = some a) (hj : l[j]? = some a) : i = j := by
  induction l generalizing i j with
  | nil => simp at hi
  | cons b l ih =>
    obtain ⟨h1, h2⟩ := List.nodup_cons.1 h
    cases i with
    | zero =>
      cases j with
      | zero => rfl
      | succ j =>
        have e1 : b = a := by simpa using hi
        exact absurd (List.mem_of_getElem? (show l[j]? = some a from hj)) (e1 ▸ h1)
    | succ i =>
      cases j with
      | zero =>
        have e1 : b = a := by simpa using hj
        exact absurd (List.mem_of_getElem? (show l[i]? = some a from hi)) (e1 ▸ h1)
      | succ j => rw [ih h2 hi hj]
set_option maxRecDepth 100000 in
set_option maxHeartbeats 16000000 in
theorem rounds_any (A : Option Addr) (c : Nat) (es : List Edg) (id : Int) (w : World) (hp : Prs w A es) (hw : Wf es) (hid : I64w id) (hlen : es.length ≤ maxLen) :
    Calls Try.prog 4 #[.slice A es.length c, .int .i64 id] w fun e w' => e = .returned (.bool true) ∧ Below w.heap.size w w' := by
  have HP := Lib.hid hp
  have HW := Lib.hid hw
  have HID := Lib.hid hid
  have hlm : (es.length : Int) ≤ maxLen := by omega
  clear hp hw hid
  go_enter Try.func4, Try.ntmps4
  go_wp2_with fail
  refine (awake_any w).mono ?_
  rintro e w1 ⟨rfl, hB1⟩
  have HB1 := Lib.hid hB1
  clear hB1
  by_cases h60 : (60 : Int) < (es.length : Int)
  · go_wp2_with fail
    go_returns
    exact ⟨rfl, HB1.out⟩
  · have hn : es.length ≤ 60 := by omega
    go_wp2_with fail
    refine (edges_any A c es w1 (HP.out.keep HB1.out) (by omega)).mono ?_
    rintro e w2 ⟨v, rfl, hX⟩
    obtain ⟨CC, hCC⟩ : ∃ CC, CC = Asn.vec 37 2 v es.length (cellsE es) * Asn.emp := ⟨_, rfl⟩
    have hs := hX.vec.slice
    obtain ⟨A2, c2, rfl⟩ := hs
    rw [← hCC] at hX
    have HX := Lib.hid hX
    have HPC : Hid (∀ W X, Aid.Own w1 No W (X * CC) → Prs W A2 es) := Lib.hid (fun W X h => by rw [hCC] at h; exact Prs.of_vec h.right.vec)
    clear hCC hX
    go_wp2_with fail
    refine (Round_any A2 c2 es id w1 w2 CC HX.out HPC.out (by omega) HW.out HID.out).mono ?_
    rintro e w3 ⟨v, rfl, S⟩
    have hRl := rnd_len es id
    have HRok := Lib.hid (rnd_ok es id)
    obtain ⟨R, hR⟩ : ∃ R, R = rndL es id := ⟨_, rfl⟩
    rw [← hR] at S hRl HRok
    obtain ⟨A3, c3, rfl⟩ := S.vec.slice
    have S := Lib.hid S
    have HPW : Hid (∀ W, Aid.Own w1 No W (Asn.vec 3 1 (.slice A3 R.length c3) R.length (numsK R) * CC) → Prs W A es) := Lib.hid (fun W h => (HP.out.keep HB1.out).keep h.bel)
    clear HX hR
    go_wp2_with fail
    go_loopw [6] (fun i wr => ∃ (k : Nat), k ≤ R.length ∧ i = .int .i64 k ∧ Hid (Aid.Own w1 No wr (Asn.vec 3 1 (.slice A3 R.length c3) R.length (numsK R) * CC))) (fun i _ => R.length - (intOf i).toNat)
    case atStart => exact ⟨0, Nat.zero_le _, rfl, S⟩
    case round =>
      clear S
      obtain ⟨k, hk, rfl, S⟩ := hrel
      by_cases hlt : k < R.length
      · obtain ⟨L, hRL, hnd, hed⟩ := HRok.out.resolve_left (fun e => by rw [e] at hlt; simp at hlt)
        obtain ⟨a, ha⟩ : ∃ a, R[k]? = some a := ⟨R[k]'hlt, List.getElem?_eq_getElem _⟩
        rcases S.out.vec.forms with ⟨-, hz⟩ | ⟨gr, cr, her, -⟩
        · omega
        cases her
        obtain ⟨nx, hnx⟩ : ∃ nx, nx = (R[k + 1]?).getD id := ⟨_, rfl⟩
        have hht : hitB es a nx = true := hitB_mem (by rw [hnx]; rw [hRL] at ha ⊢; exact hed k a ha)
        have HHT := Lib.hid hht
        have HCA : Hid ((numsK R)[k]? = some (.int .i64 a)) := Lib.hid (by unfold numsK; rw [List.getElem?_map, ha]; rfl)
        have c0 : wr.cell? ⟨gr, 0, none⟩ = some (.int .i64 id) := S.out.vec.cell (by rw [hRL]; rfl)
        have HND : Hid (R.Nodup) := Lib.hid (by rw [hRL]; exact hnd)
        have HRL := Lib.hid hRL
        have HAA := Lib.hid ha
        clear hnd hed hRL ha hht
        by_cases hk1 : k + 1 < R.length
        · have hkc : ((k : Int) + 1 < (R.length : Int)) := by omega
          have c1 : wr.cell? ⟨gr, k + 1, none⟩ = some (.int .i64 nx) := S.out.vec.cell (by
            unfold numsK
            rw [List.getElem?_map, hnx, List.getElem?_eq_getElem hk1]
            rfl)
          clear hnx
          go_wp2_with fail
          clear c0 c1
          go_loopw [8, 9] (fun s8 i wq => ∃ (j : Nat), j ≤ es.length ∧ i = .int .i64 j ∧ s8 = .bool (hitB (es.take j) a nx) ∧ Hid (Aid.Own w1 No wq (Asn.vec 3 1 (.slice (some ⟨gr, 0, none⟩) R.length c3) R.length (numsK R) * CC))) (fun _ i _ => es.length - (intOf i).toNat)
          case atStart => exact ⟨0, Nat.zero_le _, rfl, rfl, S⟩
          case round =>
            clear S
            obtain ⟨j, hj, rfl, rfl, S⟩ := hrel
            by_cases hjl : j < es.length
            · obtain ⟨x, hx⟩ : ∃ x, es[j]? = some x := ⟨es[j]'hjl, List.getElem?_eq_getElem _⟩
              obtain ⟨b, o, hA, hc⟩ := (HPW.out _ S.out).at (by omega)
              subst hA
              obtain ⟨d0, d1⟩ := hc j x hx
              have ca : wr.cell? ⟨gr, k, none⟩ = some (.int .i64 a) := S.out.vec.cell HCA.out
              have hs : hitB (es.take (j + 1)) a nx = (hitB (es.take j) a nx || (decide (x.1 = a) && decide (x.2 = nx))) := by rw [take_snoc es j x hx, hitB_snoc]
              have HSS := Lib.hid hs
              clear hs hx hc
              have hdn : ∀ q, Hid (Aid.Own w1 No (wr.drewN q) (Asn.vec 3 1 (.slice (some ⟨gr, 0, none⟩) R.length c3) R.length (numsK R) * CC)) := fun q => Lib.hid (S.out.drewN q)
              cases hb : hitB (es.take j) a nx with
              | true =>
                rw [hb] at HSS
                go_wp2_with fail
                go_quiet (fail)
                go_wp2_with fail
                go_roundw
                case rel => exact ⟨j + 1, by omega, by go_num, by rw [HSS.out]; simp, hdn _⟩
                case measure => simp [intOf]; omega
              | false =>
                rw [hb] at HSS
                by_cases h1 : x.1 = a
                · have h1b : (x.1 == a) = true := by simpa using h1
                  by_cases h2 : x.2 = nx
                  · have h2b : (x.2 == nx) = true := by simpa using h2
                    have H1 := Lib.hid h1
                    have H2 := Lib.hid h2
                    clear h1 h2
                    go_wp2_with fail
                    go_quiet (fail)
                    go_wp2_with fail
                    go_roundw
                    case rel => exact ⟨j + 1, by omega, by go_num, by rw [HSS.out]; simp [H1.out, H2.out], hdn _⟩
                    case measure => simp [intOf]; omega
                  · have h2b : (x.2 == nx) = false := by simpa using h2
                    have H1 := Lib.hid h1
                    have H2 := Lib.hid h2
                    clear h1 h2
                    go_wp2_with fail
                    go_quiet (fail)
                    go_wp2_with fail
                    go_roundw
                    case rel => exact ⟨j + 1, by omega, by go_num, by rw [HSS.out]; simp [H1.out, H2.out], hdn _⟩
                    case measure => simp [intOf]; omega
                · have h1b : (x.1 == a) = false := by simpa using h1
                  have H1 := Lib.hid h1
                  clear h1
                  go_wp2_with fail
                  go_quiet (fail)
                  go_wp2_with fail
                  go_roundw
                  case rel => exact ⟨j + 1, by omega, by go_num, by rw [HSS.out]; simp [H1.out], hdn _⟩
                  case measure => simp [intOf]; omega
            · obtain rfl : j = es.length := by omega
              rw [List.take_length, HHT.out]
              go_wp2_with fail
              go_loopw [10] (fun i wq => ∃ (m : Nat), m ≤ k ∧ i = .int .i64 m ∧ Hid (Aid.Own w1 No wq (Asn.vec 3 1 (.slice (some ⟨gr, 0, none⟩) R.length c3) R.length (numsK R) * CC))) (fun i _ => k - (intOf i).toNat)
              case atStart => exact ⟨0, Nat.zero_le _, rfl, S⟩
              case round =>
                clear S
                obtain ⟨m, hm, rfl, S⟩ := hrel
                by_cases hmk : m < k
                · obtain ⟨y, hy⟩ : ∃ y, R[m]? = some y := ⟨R[m]'(by omega), List.getElem?_eq_getElem _⟩
                  have cy : wr.cell? ⟨gr, m, none⟩ = some (.int .i64 y) := S.out.vec.cell (by unfold numsK; rw [List.getElem?_map, hy]; rfl)
                  have ca : wr.cell? ⟨gr, k, none⟩ = some (.int .i64 a) := S.out.vec.cell HCA.out
                  have hya : ¬ y = a := fun e => by
                      have := nd_get HND.out hy (by rw [e]; exact HAA.out)
                      omega
                  have hyb : (y == a) = false := by simpa using hya
                  have hdn : ∀ q, Hid (Aid.Own w1 No (wr.drewN q) (Asn.vec 3 1 (.slice (some ⟨gr, 0, none⟩) R.length c3) R.length (numsK R) * CC)) := fun q => Lib.hid (S.out.drewN q)
                  have hmR : m < R.length := by omega
                  clear hy hya
                  go_wp2_with fail
                  go_quiet (fail)
                  go_wp2_with fail
                  go_roundw
                  case rel => exact ⟨m + 1, by omega, by go_num, hdn _⟩
                  case measure => simp [intOf]; omega
                · obtain rfl : m = k := by omega
                  go_wp2_with fail
                  go_roundw
                  case rel => exact ⟨m + 1, by omega, by go_num, S⟩
                  case measure => simp [intOf]; omega
        · have hkc : ¬ ((k : Int) + 1 < (R.length : Int)) := by omega
          have hni : nx = id := by rw [hnx, List.getElem?_eq_none (by omega)]; rfl
          subst hni
          clear hnx
          go_wp2_with fail
          clear c0
          go_loopw [8, 9] (fun s8 i wq => ∃ (j : Nat), j ≤ es.length ∧ i = .int .i64 j ∧ s8 = .bool (hitB (es.take j) a nx) ∧ Hid (Aid.Own w1 No wq (Asn.vec 3 1 (.slice (some ⟨gr, 0, none⟩) R.length c3) R.length (numsK R) * CC))) (fun _ i _ => es.length - (intOf i).toNat)
          case atStart => exact ⟨0, Nat.zero_le _, rfl, rfl, S⟩
          case round =>
            clear S
            obtain ⟨j, hj, rfl, rfl, S⟩ := hrel
            by_cases hjl : j < es.length
            · obtain ⟨x, hx⟩ : ∃ x, es[j]? = some x := ⟨es[j]'hjl, List.getElem?_eq_getElem _⟩
              obtain ⟨b, o, hA, hc⟩ := (HPW.out _ S.out).at (by omega)
              subst hA
              obtain ⟨d0, d1⟩ := hc j x hx
              have ca : wr.cell? ⟨gr, k, none⟩ = some (.int .i64 a) := S.out.vec.cell HCA.out
              have hs : hitB (es.take (j + 1)) a nx = (hitB (es.take j) a nx || (decide (x.1 = a) && decide (x.2 = nx))) := by rw [take_snoc es j x hx, hitB_snoc]
              have HSS := Lib.hid hs
              clear hs hx hc
              have hdn : ∀ q, Hid (Aid.Own w1 No (wr.drewN q) (Asn.vec 3 1 (.slice (some ⟨gr, 0, none⟩) R.length c3) R.length (numsK R) * CC)) := fun q => Lib.hid (S.out.drewN q)
              cases hb : hitB (es.take j) a nx with
              | true =>
                rw [hb] at HSS
                go_wp2_with fail
                go_quiet (fail)
                go_wp2_with fail
                go_roundw
                case rel => exact ⟨j + 1, by omega, by go_num, by rw [HSS.out]; simp, hdn _⟩
                case measure => simp [intOf]; omega
              | false =>
                rw [hb] at HSS
                by_cases h1 : x.1 = a
                · have h1b : (x.1 == a) = true := by simpa using h1
                  by_cases h2 : x.2 = nx
                  · have h2b : (x.2 == nx) = true := by simpa using h2
                    have H1 := Lib.hid h1
                    have H2 := Lib.hid h2
                    clear h1 h2
                    go_wp2_with fail
                    go_quiet (fail)
                    go_wp2_with fail
                    go_roundw
                    case rel => exact ⟨j + 1, by omega, by go_num, by rw [HSS.out]; simp [H1.out, H2.out], hdn _⟩
                    case measure => simp [intOf]; omega
                  · have h2b : (x.2 == nx) = false := by simpa using h2
                    have H1 := Lib.hid h1
                    have H2 := Lib.hid h2
                    clear h1 h2
                    go_wp2_with fail
                    go_quiet (fail)
                    go_wp2_with fail
                    go_roundw
                    case rel => exact ⟨j + 1, by omega, by go_num, by rw [HSS.out]; simp [H1.out, H2.out], hdn _⟩
                    case measure => simp [intOf]; omega
                · have h1b : (x.1 == a) = false := by simpa using h1
                  have H1 := Lib.hid h1
                  clear h1
                  go_wp2_with fail
                  go_quiet (fail)
                  go_wp2_with fail
                  go_roundw
                  case rel => exact ⟨j + 1, by omega, by go_num, by rw [HSS.out]; simp [H1.out], hdn _⟩
                  case measure => simp [intOf]; omega
            · obtain rfl : j = es.length := by omega
              rw [List.take_length, HHT.out]
              go_wp2_with fail
              go_loopw [10] (fun i wq => ∃ (m : Nat), m ≤ k ∧ i = .int .i64 m ∧ Hid (Aid.Own w1 No wq (Asn.vec 3 1 (.slice (some ⟨gr, 0, none⟩) R.length c3) R.length (numsK R) * CC))) (fun i _ => k - (intOf i).toNat)
              case atStart => exact ⟨0, Nat.zero_le _, rfl, S⟩
              case round =>
                clear S
                obtain ⟨m, hm, rfl, S⟩ := hrel
                by_cases hmk : m < k
                · obtain ⟨y, hy⟩ : ∃ y, R[m]? = some y := ⟨R[m]'(by omega), List.getElem?_eq_getElem _⟩
                  have cy : wr.cell? ⟨gr, m, none⟩ = some (.int .i64 y) := S.out.vec.cell (by unfold numsK; rw [List.getElem?_map, hy]; rfl)
                  have ca : wr.cell? ⟨gr, k, none⟩ = some (.int .i64 a) := S.out.vec.cell HCA.out
                  have hya : ¬ y = a := fun e => by
                      have := nd_get HND.out hy (by rw [e]; exact HAA.out)
                      omega
                  have hyb : (y == a) = false := by simpa using hya
                  have hdn : ∀ q, Hid (Aid.Own w1 No (wr.drewN q) (Asn.vec 3 1 (.slice (some ⟨gr, 0, none⟩) R.length c3) R.length (numsK R) * CC)) := fun q => Lib.hid (S.out.drewN q)
                  have hmR : m < R.length := by omega
                  clear hy hya
                  go_wp2_with fail
                  go_quiet (fail)
                  go_wp2_with fail
                  go_roundw
                  case rel => exact ⟨m + 1, by omega, by go_num, hdn _⟩
                  case measure => simp [intOf]; omega
                · obtain rfl : m = k := by omega
                  go_wp2_with fail
                  go_roundw
                  case rel => exact ⟨m + 1, by omega, by go_num, S⟩
                  case measure => simp [intOf]; omega
      · obtain rfl : k = R.length := by omega
        rcases HRok.out with e | ⟨L, e, -⟩
        · subst e
          clear HRok
          go_wp2_with fail
          go_returns
          exact ⟨rfl, HB1.out.trans (S.out.bel.mono HB1.out.size)⟩
        · rcases S.out.vec.forms with ⟨-, hz⟩ | ⟨gr, cr, her, -⟩
          · rw [e] at hz; cases hz
          cases her
          have c0 : wr.cell? ⟨gr, 0, none⟩ = some (.int .i64 id) := S.out.vec.cell (by rw [e]; rfl)
          have hp : 0 < R.length := by rw [e]; simp
          have hz : ((R.length : Int) == 0) = false := by simp; intro h; rw [h] at hp; simp at hp
          have hii : (id == id) = true := by simp
          clear e HRok
          go_wp2_with fail
          go_returns
          exact ⟨rfl, HB1.out.trans (S.out.bel.mono HB1.out.size)⟩
end Go.Proofs.Ytclajkgmdhnlcaa.Kt
