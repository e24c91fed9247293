/- DiaryExact, walked. -/
import Derived.Test.YtaacinhmgmmcaaaDoorDyN
import Derived.Test.YtaacinhmgmmcaaaDoorDyT
import Derived.Test.YtaacinhmgmmcaaaDoorDyU
import Derived.Test.YtaacinhmgmmcaaaDoorDyOpenA
import Derived.Test.YtaacinhmgmmcaaaDoorNtD
import Derived.Deep.CutBlock
import Derived.Deep.DeepCutAuto
import Derived.Deep.LoopGhost
import Derived.Deep.RegionHeld3
namespace Go.Proofs.YtaacinhmgmmcaaaDoor.Nt
open Go.ChangeShapes Go.WideShapes Go.ChangeAt Go.RowKit Go.PlainAid Aid Cr
set_option linter.unusedVariables false
set_option linter.unusedSimpArgs false
/-- A deed at hand. -/
def aAct (gx : Nat) (x : Dd) (A1 : Option Addr) (m1 : Nat) (A2 : Option Addr) (m2 : Nat) (A3 : Option Addr) (m3 : Nat) : Asn :=
  Asn.blk gx 47 (ddCells x (.slice A1 x.rd.pages.length m1) (.slice A2 x.rd.opn.length m2) (.slice A3 x.rd.dty.length m3))
theorem thirteen {w : World} {g : Nat} {T : TypeId} {a0 a1 a2 a3 a4 a5 a6 a7 a8 a9 a10 a11 a12 : Value} (h : Blk w g T #[a0, a1, a2, a3, a4, a5, a6, a7, a8, a9, a10, a11, a12]) :
    w.cell? ⟨g, 0, none⟩ = some a0 ∧ w.cell? ⟨g, 1, none⟩ = some a1 ∧ w.cell? ⟨g, 2, none⟩ = some a2 ∧ w.cell? ⟨g, 3, none⟩ = some a3 ∧ w.cell? ⟨g, 4, none⟩ = some a4 ∧ w.cell? ⟨g, 5, none⟩ = some a5 ∧ w.cell? ⟨g, 6, none⟩ = some a6 ∧ w.cell? ⟨g, 7, none⟩ = some a7 ∧ w.cell? ⟨g, 8, none⟩ = some a8 ∧ w.cell? ⟨g, 9, none⟩ = some a9 ∧ w.cell? ⟨g, 10, none⟩ = some a10 ∧ w.cell? ⟨g, 11, none⟩ = some a11 ∧ w.cell? ⟨g, 12, none⟩ = some a12 :=
  ⟨h.cell 0, h.cell 1, h.cell 2, h.cell 3, h.cell 4, h.cell 5, h.cell 6, h.cell 7, h.cell 8, h.cell 9, h.cell 10, h.cell 11, h.cell 12⟩
/-- The program's log, and the document's, in one world. -/
def Two (g gr m gu K : Nat) (v vl vs : Value) (M : List (Rec × Q3)) (safe held : Nat) (Y : Asn) : Asn :=
  aLg g gr m K v (recsOf M) safe held * (Mn.aMn m Rl.idle * (aUl gu vl vs M safe held K * Y))
theorem recs_sn (M : List (Rec × Q3)) (r : Rec) (q : Q3) : recsOf (M ++ [(r, q)]) = recsOf M ++ [r] := by simp [recsOf]
theorem flatMap_at {α β : Type} (f : α → List β) (n : Nat) (hf : ∀ x, (f x).length = n) : ∀ (M : List α) (q j : Nat) (x : α), M[q]? = some x → j < n → (M.flatMap f)[q * n + j]? = (f x)[j]?
  | a :: M, 0, j, x, h, hj => by
    simp only [List.getElem?_cons_zero, Option.some.injEq] at h
    subst h
    rw [List.flatMap_cons, Nat.zero_mul, Nat.zero_add, List.getElem?_append_left (by rw [hf]; exact hj)]
  | a :: M, q + 1, j, x, h, hj => by
    rw [List.flatMap_cons, List.getElem?_append_right (by rw [hf, Nat.add_mul]; omega), hf, show (q + 1) * n + j - n = q * n + j by rw [Nat.add_mul]; omega]
    exact flatMap_at f n hf M q j x (by simpa using h) hj
theorem recs11_at (M : List (Rec × Q3)) (q : Nat) (r : Rec) (v : Q3) (h : M[q]? = some (r, v)) (j : Nat) (x : Value) (hx : (recCells r v.1 v.2.1 v.2.2).toList[j]? = some x) : (recs11 M)[q * 11 + j]? = some x := by
  have hj : j < 11 := (List.getElem?_eq_some_iff.1 hx).1
  rw [← hx]
  exact flatMap_at (fun x : Rec × Q3 => (recCells x.1 x.2.1 x.2.2.1 x.2.2.2).toList) 11 (fun _ => rfl) M q j (r, v) h hj
/-- What is there was handed in. -/
def Came (w : World) (M : List (Rec × Q3)) : Prop := ∀ x, x ∈ M → goodB x.1 = true ∧ RecAt w (recV x.1 x.2) x.1
set_option maxRecDepth 100000 in
set_option maxHeartbeats 16000000 in
theorem dexact_any (n : Int) (A : Option Addr) (m1 c : Nat) (L : List Dd) (w : World) (ht : Tab w) (hm : m1 ≤ maxLen) (x1 : ActRow w A m1 L) :
    Calls Tryd.prog 3 #[.int .i64 n, .slice A m1 c] w fun e w' => e = .returned (.bool true) ∧ Below w.heap.size w w' := by
  unfold maxLen at hm
  obtain ⟨K, hK, hK2⟩ := mod_u n 3000 (by decide) (by decide)
  have hnr : Rl.nearR K = K := by unfold Rl.nearR; omega
  have HT := Lib.hid ht
  have X1 := Lib.hid x1
  have HA := Lib.hid (fun w ht => dawake_any w ht)
  have HD := Lib.hid (fun m q => Rl.tNew m q K)
  rw [hnr] at HD
  have HO := Lib.hid (fun gr m w1 C h => Open_whole gr m K 0 Rl.idle [] rfl (fun _ h => by cases h) w w1 C ht h)
  rw [flat_nil] at HO
  clear ht x1 hnr
  unfold lPtr at *
  go_enter Tryd.func3, Tryd.ntmps3
  go_wp2_with fail
  refine (HA.out _ HT.out).mono ?_
  rintro e wa ⟨rfl, hb⟩
  have B0 := Lib.hid (hb)
  clear hb 
  have S0 := Lib.hid (Own.of_below B0.out)
  clear B0 HA
  go_wp2_with fail
  refine (S0.out.callE Mn.tNew).mono ?_
  rintro e w3 ⟨m, rfl, hX⟩
  have S2 := Lib.hid hX
  clear hX S0
  go_wp2_with fail
  refine (S2.out.callE (HD.out _ _)).mono ?_
  rintro e w4 ⟨gr, rfl, hX⟩
  have S3 := Lib.hid hX.addEmp.assoc
  clear hX S2 HD
  go_wp2_with fail
  refine (HO.out _ _ _ _ S3.out).mono ?_
  rintro e w5 ⟨⟨g, v1, v2, M0⟩, ⟨hM, rfl⟩, hX⟩
  dsimp only at *
  obtain ⟨A2, c2, rfl⟩ := hX.left.right.vec.slice
  have S4 := Lib.hid (open_log hX)
  clear hX S3 HO
  dsimp only at S4
  generalize (Asn.vec 97 12 (.slice A2 ([] : List Rec).length c2) ([] : List Rec).length (told 0 M0) * aRecs M0) * Asn.emp = Y at *
  have S5 : Hid (Own w No (w5.alloc (.cells (ulRow (.slice none 0 0) (.slice none 0 0) 0 0 0 K) 38)) (Two g gr m w5.heap.size K v1 (.slice none 0 0) (.slice none 0 0) [] 0 0 Y)) := by
    have h1 := ((S4.out.alloc (ulRow (.slice none 0 0) (.slice none 0 0) 0 0 0 K) 38).nilVec 3 1).nilVec 45 11
    have h2 := (own_front h1.assoc').assoc'
    exact Lib.hid ((own_front h2).imp (Imp.r imp_front))
  clear S4 hM
  unfold ulRow at S5
  go_upto_region 6 with fail
  obtain ⟨gu, hgz⟩ : ∃ g, g = w5.heap.size := ⟨_, rfl⟩
  rw [← hgz] at S5 ⊢
  clear hgz
  generalize w5.alloc _ = w6 at *
  go_wp2_with fail
  go_loopg [10] 40 (fun gk i wr => ∃ (r : Nat) (v vl vs : Value) (M : List (Rec × Q3)) (safe held : Nat), r ≤ 40 ∧ r ≤ m1 ∧ gk = 40 - r ∧ i = .int .i64 r ∧ M.length ≤ r ∧ (flat (recsOf M)).length + held ≤ K ∧ safe ≤ K ∧ Hid (Came w M) ∧ Hid (Own w No wr (Two g gr m gu K v vl vs M safe held Y)))
  case atStart => exact ⟨0, v1, _, _, [], 0, 0, Nat.zero_le _, Nat.zero_le _, rfl, rfl, Nat.le_refl _, (by show 0 + 0 ≤ K; omega), Nat.zero_le _, Lib.hid (fun x hx => by cases hx), S5⟩
  case round =>
    clear S5
    obtain ⟨r, v, vl, vs, M, safe, held, hr40, hrm, hgk, rfl, hM, hfit, hsf, HC, hS⟩ := hrel
    by_cases hlt : r < m1 ∧ r < 40
    · obtain ⟨i1, i2⟩ := hlt
      obtain ⟨x, bb, oo, A1, n1, A2, n2, A3, n3, hx, hxi, rfl, hbb, ⟨c0, c1, c2, c3, c4, c5, c6, c7, c8, c9, c10, c11, c12⟩, hrec⟩ := X1.out.at r i1 _ hS.out.bel
      obtain ⟨kd, nn, rd⟩ := x
      dsimp only at hxi c0 c1 c2 c3 c4 c5 c6 c7 c8 c9 c10 c11 c12 hrec
      have X2 := Lib.hid (hS.out.alloc (ddCells ⟨kd, nn, rd⟩ (.slice A1 rd.pages.length n1) (.slice A2 rd.opn.length n2) (.slice A3 rd.dty.length n3)) 47)
      have HREC := Lib.hid hrec
      have GA : Hid (∀ w', Below w.heap.size w w' → _) := Lib.hid (fun w' (hb : Below w.heap.size w w') => dgreat_any rd _ w' (HREC.out.keep hb))
      clear hx hrec
      unfold recCells at GA
      unfold ddCells at X2
      dsimp only at X2
      go_upto_region 12 with fail
      obtain ⟨gx, hgx⟩ : ∃ gx, gx = wr.heap.size := ⟨_, rfl⟩
      rw [← hgx] at X2 ⊢
      clear hgx hS c0 c1 c2 c3 c4 c5 c6 c7 c8 c9 c10 c11 c12
      generalize wr.alloc _ = w7 at *
      obtain ⟨c0, c1, c2, c3, c4, c5, c6, c7, c8, c9, c10, c11, c12⟩ := thirteen (X2.out.has (Has.l (has_blk _ _ _)))
      go_wp2_with fail
      refine (GA.out _ X2.out.bel).mono ?_
      rintro e w8 ⟨⟨bg, rfl⟩, hX⟩
      have X3 := Lib.hid (X2.out.below hX)
      clear hX X2 GA c0 c1 c2 c3 c4 c5 c6 c7 c8 c9 c10 c11 c12
      cases bg with
      | true =>
        go_wp2_with fail
        go_returns
        exact ⟨rfl, X3.out.bel⟩
      | false =>
      obtain ⟨c0, c1, c2, c3, c4, c5, c6, c7, c8, c9, c10, c11, c12⟩ := thirteen (X3.out.has (Has.l (has_blk _ _ _)))
      go_upto_block 2 with fail
      clear c0 c1 c2 c3 c4 c5 c6 c7 c8 c9 c10 c11 c12
      go_cut [] (fun wx => ∃ (v vl vs : Value) (M : List (Rec × Q3)) (safe held : Nat), M.length ≤ r + 1 ∧ (flat (recsOf M)).length + held ≤ K ∧ safe ≤ K ∧ Hid (Came w M) ∧ Hid (Own w No wx (Asn.blk gx 47 #[.int .i64 kd, .int .i64 nn, .int .i64 rd.kind, .int .i64 rd.deal, .int .i64 rd.prev, .int .i64 rd.next, .slice A1 rd.pages.length n1, .int .i64 rd.und.kind, .int .i64 rd.und.tree, .string (ofL rd.und.key), .string (ofL rd.und.val), .slice A2 rd.opn.length n2, .slice A3 rd.dty.length n3] * Two g gr m gu K v vl vs M safe held Y)))
      case first =>
        have hc : kd = 1 ∨ kd = 2 ∨ kd = 5 ∨ kd = 3 ∨ (kd ≠ 1 ∧ kd ≠ 2 ∧ kd ≠ 5 ∧ kd ≠ 3) := by omega
        rcases hc with rfl | rfl | rfl | rfl | hc
        · have EG : Hid (∀ w', Below w.heap.size w w' → _) := Lib.hid (fun w' (hb : Below w.heap.size w w') => refGood_any rd _ w' (HREC.out.keep hb))
          unfold recCells at EG
          cases hg : goodB rd with
          | false =>
            as_aux_lemma =>
            rw [hg] at EG
            have HAB := Lib.hid (fun w1 C h => Add_bad g rd _ hg w w1 C (HREC.out.keep (show Below w.heap.size w w1 from Own.bel h)) h)
            unfold lPtr recCells at HAB
            obtain ⟨c0, c1, c2, c3, c4, c5, c6, c7, c8, c9, c10, c11, c12⟩ := thirteen (X3.out.has (Has.l (has_blk _ _ _)))
            go_wp2_with fail
            refine (HAB.out _ _ X3.out).mono ?_
            rintro e w9 ⟨rfl, hX⟩
            have X4 := Lib.hid hX
            clear hX X3 HAB c0 c1 c2 c3 c4 c5 c6 c7 c8 c9 c10 c11 c12
            obtain ⟨c0, c1, c2, c3, c4, c5, c6, c7, c8, c9, c10, c11, c12⟩ := thirteen (X4.out.has (Has.l (has_blk _ _ _)))
            go_wp2_with fail
            refine (EG.out _ X4.out.bel).mono ?_
            rintro e w10 ⟨rfl, hX⟩
            have X5 := Lib.hid (X4.out.below hX)
            clear hX X4
            clear EG c0 c1 c2 c3 c4 c5 c6 c7 c8 c9 c10 c11 c12
            go_wp2_with fail
            go_meet
            case rel => exact ⟨v, vl, vs, M, safe, held, by omega, hfit, hsf, HC, X5⟩
          | true =>
            rw [hg] at EG
            have hsm := small_bytes hg
            have EBy : Hid (∀ w', Below w.heap.size w w' → _) := Lib.hid (fun w' (hb : Below w.heap.size w w') => refBytes_any rd (goods hg) _ w' (HREC.out.keep hb))
            have HRo := Lib.hid (qURoom gu vl vs M safe held K (by omega) (by omega) (by omega))
            have hysz : (ofL (bytes rd)).size = (bytes rd).length := rfl
            unfold recCells uPtr at *
            by_cases hfull : (K : Int) - (flat (recsOf M)).length - held < (bytes rd).length
            · as_aux_lemma =>
              have HAF := Lib.hid (fun w1 C h => Add_full g gr m K v (recsOf M) safe held (by omega) rd _ hg hfull w w1 C HT.out (HREC.out.keep (show Below w.heap.size w w1 from Own.bel h)) h)
              try unfold lPtr at HAF
              try unfold recCells at HAF
              rw [← hysz] at hfull
              have HY := Lib.hid hysz
              clear hysz hg hsm
              generalize ofL (bytes rd) = y at *
              obtain ⟨c0, c1, c2, c3, c4, c5, c6, c7, c8, c9, c10, c11, c12⟩ := thirteen (X3.out.has (Has.l (has_blk _ _ _)))
              go_wp2_with fail
              refine (HAF.out _ _ (own_front X3.out)).mono ?_
              rintro e w9 ⟨rfl, hX⟩
              have X4 := Lib.hid (own_front hX)
              clear hX X3 HAF c0 c1 c2 c3 c4 c5 c6 c7 c8 c9 c10 c11 c12
              obtain ⟨c0, c1, c2, c3, c4, c5, c6, c7, c8, c9, c10, c11, c12⟩ := thirteen (X4.out.has (Has.l (has_blk _ _ _)))
              go_wp2_with fail
              refine (EG.out _ X4.out.bel).mono ?_
              rintro e w10 ⟨rfl, hX⟩
              have X5 := Lib.hid (X4.out.below hX)
              clear hX X4
              clear EG c0 c1 c2 c3 c4 c5 c6 c7 c8 c9 c10 c11 c12
              obtain ⟨c0, c1, c2, c3, c4, c5, c6, c7, c8, c9, c10, c11, c12⟩ := thirteen (X5.out.has (Has.l (has_blk _ _ _)))
              go_wp2_with fail
              refine (EBy.out _ X5.out.bel).mono ?_
              rintro e w11 ⟨rfl, hX⟩
              have X6 := Lib.hid (X5.out.below hX)
              clear hX X5
              clear EBy c0 c1 c2 c3 c4 c5 c6 c7 c8 c9 c10 c11 c12
              go_wp2_with fail
              refine (X6.out.ask HRo.out.l.r.r.r).mono ?_
              rintro e w12 ⟨rfl, k, rfl⟩
              have X7 := Lib.hid (X6.out.drewN k)
              clear X6 HRo
              generalize w11.drewN k = w12 at *
              go_wp2_with fail
              go_meet
              case rel => exact ⟨v, vl, vs, M, safe, held, by omega, hfit, hsf, HC, X7⟩
            · as_aux_lemma =>
              have HAO := Lib.hid (fun w1 C h => Add_ok g gr m K v (recsOf M) safe held (by omega) Rl.idle rfl rd _ hg (by omega) w w1 C HT.out (HREC.out.keep (show Below w.heap.size w w1 from Own.bel h)) h)
              have HU := Lib.hid (fun w1 C h => UAdd gu vl vs M safe held K (by omega) (by omega) rd A1 n1 A2 n2 A3 n3 hg w w1 C HREC.out h)
              try unfold lPtr at HAO
              try unfold recCells at HAO
              try unfold uPtr at HU
              try unfold recCells at HU
              have hfn := hfull
              rw [← hysz] at hfn
              have hfl : (flat (recsOf M ++ [rd])).length = (flat (recsOf M)).length + (bytes rd).length := by rw [flat_snoc, List.length_append]
              have hfit2 : Hid ((flat (recsOf M ++ [rd])).length + held ≤ K) := Lib.hid (by rw [hfl]; omega)
              have HG := Lib.hid hg
              have HY := Lib.hid hysz
              clear hysz hg hsm hfl hfull
              generalize ofL (bytes rd) = y at *
              obtain ⟨c0, c1, c2, c3, c4, c5, c6, c7, c8, c9, c10, c11, c12⟩ := thirteen (X3.out.has (Has.l (has_blk _ _ _)))
              go_wp2_with fail
              refine (HAO.out _ _ ((own_front X3.out).imp (Imp.r imp_front))).mono ?_
              rintro e w9 ⟨v', rfl, hX⟩
              have X4 := Lib.hid (own_front (hX.imp (Imp.r imp_front)))
              clear hX X3 HAO c0 c1 c2 c3 c4 c5 c6 c7 c8 c9 c10 c11 c12
              obtain ⟨c0, c1, c2, c3, c4, c5, c6, c7, c8, c9, c10, c11, c12⟩ := thirteen (X4.out.has (Has.l (has_blk _ _ _)))
              go_wp2_with fail
              refine (EG.out _ X4.out.bel).mono ?_
              rintro e w10 ⟨rfl, hX⟩
              have X5 := Lib.hid (X4.out.below hX)
              clear hX X4
              clear EG c0 c1 c2 c3 c4 c5 c6 c7 c8 c9 c10 c11 c12
              obtain ⟨c0, c1, c2, c3, c4, c5, c6, c7, c8, c9, c10, c11, c12⟩ := thirteen (X5.out.has (Has.l (has_blk _ _ _)))
              go_wp2_with fail
              refine (EBy.out _ X5.out.bel).mono ?_
              rintro e w11 ⟨rfl, hX⟩
              have X6 := Lib.hid (X5.out.below hX)
              clear hX X5
              clear EBy c0 c1 c2 c3 c4 c5 c6 c7 c8 c9 c10 c11 c12
              go_wp2_with fail
              refine (X6.out.ask HRo.out.l.r.r.r).mono ?_
              rintro e w12 ⟨rfl, k, rfl⟩
              have X7 := Lib.hid (X6.out.drewN k)
              clear X6 HRo
              generalize w11.drewN k = w12 at *
              obtain ⟨c0, c1, c2, c3, c4, c5, c6, c7, c8, c9, c10, c11, c12⟩ := thirteen (X7.out.has (Has.l (has_blk _ _ _)))
              go_wp2_with fail
              refine (HU.out _ _ (own_front ((X7.out.imp (Imp.r (Imp.r imp_front))).imp (Imp.r imp_front)))).mono ?_
              rintro e w13 ⟨⟨p1, p2⟩, rfl, hX⟩
              have X8 := Lib.hid (((own_front hX).imp (Imp.r imp_front)).imp (Imp.r (Imp.r imp_front)))
              clear hX X7 HU c0 c1 c2 c3 c4 c5 c6 c7 c8 c9 c10 c11 c12
              go_wp2_with fail
              go_meet
              case rel => exact ⟨v', p1, p2, M ++ [(rd, (.slice A1 rd.pages.length n1, .slice A2 rd.opn.length n2, .slice A3 rd.dty.length n3))], safe, held, by rw [List.length_append]; simp; omega, by rw [recs_sn]; exact hfit2.out, hsf, Lib.hid (fun x hx => by
                rcases List.mem_append.1 hx with h | h
                · exact HC.out x h
                · rw [List.mem_singleton.1 h]; exact ⟨HG.out, HREC.out⟩), by unfold Two; rw [recs_sn]; exact X8⟩

        · obtain ⟨c0, c1, c2, c3, c4, c5, c6, c7, c8, c9, c10, c11, c12⟩ := thirteen (X3.out.has (Has.l (has_blk _ _ _)))
          go_upto_region 35 with fail
          clear c0 c1 c2 c3 c4 c5 c6 c7 c8 c9 c10 c11 c12
          by_cases hex : ∃ j, j < M.length ∧ (at_ (recsOf M) j : Int) = nn
          · obtain ⟨j, hj, hje⟩ := hex
            obtain ⟨rj, hrj⟩ : ∃ q, (recsOf M)[j]? = some q := ⟨(recsOf M)[j]'(by rw [rec_len]; exact hj), List.getElem?_eq_getElem _⟩
            have hnx := at_next (recsOf M) j rj hrj
            by_cases hs : at_ (recsOf M) j + (bytes rj).length ≤ safe + 1
            · as_aux_lemma =>
              have HF1 := Lib.hid (tForce_safe g gr m K v (recsOf M) safe held j rj hrj hs)
              have HF2 := Lib.hid (qUFind gu vl vs M safe held K j (at_ (recsOf M) j) (Or.inr ⟨j, rfl, hj, rfl⟩))
              have HF3 := Lib.hid (qUIsSafe_hit gu vl vs M safe held K (by omega) (by omega) j hj)
              have hus : uSafe M safe j = true := by unfold uSafe; rw [hnx]; exact decide_eq_true hs
              rw [hus] at HF3
              rw [hje] at HF1 HF2 HF3
              clear hus hs hnx hrj hje
              unfold lPtr at HF1
              unfold uPtr at HF2 HF3
              go_wp2_with fail
              refine (X3.out.call (HF1.out.l.r)).mono ?_
              rintro e w9 ⟨rfl, hX⟩
              have X4 := Lib.hid hX
              clear hX X3
              go_wp2_with fail
              refine (X4.out.ask (HF2.out.l.r.r.r)).mono ?_
              rintro e w10 ⟨rfl, k, rfl⟩
              have X5 := Lib.hid (X4.out.drewN k)
              clear X4
              generalize w9.drewN k = w10 at *
              go_wp2_with fail
              refine (X5.out.ask (HF3.out.l.r.r.r)).mono ?_
              rintro e w11 ⟨rfl, k, rfl⟩
              have X6 := Lib.hid (X5.out.drewN k)
              clear X5
              generalize w10.drewN k = w11 at *
              clear HF1 HF2 HF3
              go_wp2_with fail
              go_meet
              case rel => exact ⟨v, vl, vs, M, safe, held, by omega, hfit, hsf, HC, X6⟩
            · as_aux_lemma =>
              have HF1 := Lib.hid (tForce_sync g gr m K v (recsOf M) safe held Rl.idle rfl j rj hrj hs)
              have HF2 := Lib.hid (qUFind gu vl vs M safe held K j (at_ (recsOf M) j) (Or.inr ⟨j, rfl, hj, rfl⟩))
              have HF3 := Lib.hid (qUIsSafe_hit gu vl vs M safe held K (by omega) (by omega) j hj)
              have hus : uSafe M safe j = false := by unfold uSafe; rw [hnx]; exact decide_eq_false hs
              rw [hus] at HF3
              rw [hje] at HF1 HF2 HF3
              clear hus hs hnx hrj hje
              unfold lPtr at HF1
              unfold uPtr at HF2 HF3
              go_wp2_with fail
              refine ((X3.out.imp (Imp.r (fun _ _ => sep_assoc'))).call HF1.out.l.r).mono ?_
              rintro e w9 ⟨rfl, hX⟩
              have X4 := Lib.hid (hX.imp (Imp.r (fun _ _ => sep_assoc)))
              clear hX X3 HF1
              go_wp2_with fail
              refine (X4.out.ask (HF2.out.l.r.r.r)).mono ?_
              rintro e w10 ⟨rfl, k, rfl⟩
              have X5 := Lib.hid (X4.out.drewN k)
              clear X4
              generalize w9.drewN k = w10 at *
              go_wp2_with fail
              refine (X5.out.ask (HF3.out.l.r.r.r)).mono ?_
              rintro e w11 ⟨rfl, k, rfl⟩
              have X6 := Lib.hid (X5.out.drewN k)
              clear X5
              generalize w10.drewN k = w11 at *
              clear HF2 HF3
              obtain ⟨⟨l0, l1, l2, l3, l4, l5⟩, fz0, fz1, fz2, fz3, fz4⟩ := ul_cells (X6.out.has (Has.r (Has.r (Has.r (Has.l (Has.l (has_blk gu 38 (ulRow vl vs (flat (recsOf M)).length safe held K))))))))
              go_wp2_with fail
              have X7 := Lib.hid (X6.out.set (Sets.r (Sets.r (Sets.r (Sets.l (Sets.l (sets_blk gu 38 (ulRow vl vs (flat (recsOf M)).length safe held K) 3 (.int .i64 ((flat (recsOf M)).length : Int)))))))))
              clear l0 l1 l2 l3 l4 l5 fz0 fz1 fz2 fz3 fz4 X6
              generalize World.setCell _ _ _ = w12 at *
              go_meet
              case rel => exact ⟨v, vl, vs, M, (flat (recsOf M)).length, held, by omega, hfit, by omega, HC, X7⟩
          · as_aux_lemma =>
            have hx : ∀ j, j < M.length → (at_ (recsOf M) j : Int) ≠ nn := fun j hj he => hex ⟨j, hj, he⟩
            have HF1 := Lib.hid (tForce_miss g gr m K v (recsOf M) safe held nn (fun k hk => hx k (by rw [rec_len] at hk; exact hk)))
            have HF2 := Lib.hid (qUFind gu vl vs M safe held K (-1) nn (Or.inl ⟨rfl, hx⟩))
            clear hex hx
            unfold lPtr at HF1
            unfold uPtr at HF2
            go_wp2_with fail
            refine (X3.out.call (HF1.out.l.r)).mono ?_
            rintro e w9 ⟨rfl, hX⟩
            have X4 := Lib.hid hX
            clear hX X3
            go_wp2_with fail
            refine (X4.out.ask (HF2.out.l.r.r.r)).mono ?_
            rintro e w10 ⟨rfl, k, rfl⟩
            have X5 := Lib.hid (X4.out.drewN k)
            clear X4
            generalize w9.drewN k = w10 at *
            clear HF1 HF2
            go_wp2_with fail
            go_meet
            case rel => exact ⟨v, vl, vs, M, safe, held, by omega, hfit, hsf, HC, X5⟩

        · obtain ⟨AS, cs, rfl⟩ := X3.out.right.right.right.left.right.vecR.slice
          by_cases hM0 : M.length = 0
          · have hlen0 : ¬ 0 < (M.length : Int) := by omega
            obtain ⟨c0, c1, c2, c3, c4, c5, c6, c7, c8, c9, c10, c11, c12⟩ := thirteen (X3.out.has (Has.l (has_blk _ _ _)))
            obtain ⟨⟨l0, l1, l2, l3, l4, l5⟩, fz0, fz1, fz2, fz3, fz4⟩ := ul_cells (X3.out.has (Has.r (Has.r (Has.r (Has.l (Has.l (has_blk gu 38 (ulRow vl (.slice AS M.length cs) (flat (recsOf M)).length safe held K))))))))
            go_upto_region 35 with fail
            clear hM0 hlen0 c0 c1 c2 c3 c4 c5 c6 c7 c8 c9 c10 c11 c12 l0 l1 l2 l3 l4 l5 fz0 fz1 fz2 fz3 fz4
            by_cases hex : ∃ j, j < M.length ∧ (at_ (recsOf M) j : Int) = nn
            · obtain ⟨j, hj, hje⟩ := hex
              obtain ⟨rj, hrj⟩ : ∃ q, (recsOf M)[j]? = some q := ⟨(recsOf M)[j]'(by rw [rec_len]; exact hj), List.getElem?_eq_getElem _⟩
              have hnx := at_next (recsOf M) j rj hrj
              by_cases hs : at_ (recsOf M) j + (bytes rj).length ≤ safe + 1
              · as_aux_lemma =>
                have HF1 := Lib.hid (tForce_safe g gr m K v (recsOf M) safe held j rj hrj hs)
                have HF2 := Lib.hid (qUFind gu vl (.slice AS M.length cs) M safe held K j (at_ (recsOf M) j) (Or.inr ⟨j, rfl, hj, rfl⟩))
                have HF3 := Lib.hid (qUIsSafe_hit gu vl (.slice AS M.length cs) M safe held K (by omega) (by omega) j hj)
                have hus : uSafe M safe j = true := by unfold uSafe; rw [hnx]; exact decide_eq_true hs
                rw [hus] at HF3
                rw [hje] at HF1 HF2 HF3
                clear hus hs hnx hrj hje
                unfold lPtr at HF1
                unfold uPtr at HF2 HF3
                go_wp2_with fail
                refine (X3.out.call (HF1.out.l.r)).mono ?_
                rintro e w9 ⟨rfl, hX⟩
                have X4 := Lib.hid hX
                clear hX X3
                go_wp2_with fail
                refine (X4.out.ask (HF2.out.l.r.r.r)).mono ?_
                rintro e w10 ⟨rfl, k, rfl⟩
                have X5 := Lib.hid (X4.out.drewN k)
                clear X4
                generalize w9.drewN k = w10 at *
                go_wp2_with fail
                refine (X5.out.ask (HF3.out.l.r.r.r)).mono ?_
                rintro e w11 ⟨rfl, k, rfl⟩
                have X6 := Lib.hid (X5.out.drewN k)
                clear X5
                generalize w10.drewN k = w11 at *
                clear HF1 HF2 HF3
                go_wp2_with fail
                go_meet
                case rel => exact ⟨v, vl, _, M, safe, held, by omega, hfit, hsf, HC, X6⟩
              · as_aux_lemma =>
                have HF1 := Lib.hid (tForce_sync g gr m K v (recsOf M) safe held Rl.idle rfl j rj hrj hs)
                have HF2 := Lib.hid (qUFind gu vl (.slice AS M.length cs) M safe held K j (at_ (recsOf M) j) (Or.inr ⟨j, rfl, hj, rfl⟩))
                have HF3 := Lib.hid (qUIsSafe_hit gu vl (.slice AS M.length cs) M safe held K (by omega) (by omega) j hj)
                have hus : uSafe M safe j = false := by unfold uSafe; rw [hnx]; exact decide_eq_false hs
                rw [hus] at HF3
                rw [hje] at HF1 HF2 HF3
                clear hus hs hnx hrj hje
                unfold lPtr at HF1
                unfold uPtr at HF2 HF3
                go_wp2_with fail
                refine ((X3.out.imp (Imp.r (fun _ _ => sep_assoc'))).call HF1.out.l.r).mono ?_
                rintro e w9 ⟨rfl, hX⟩
                have X4 := Lib.hid (hX.imp (Imp.r (fun _ _ => sep_assoc)))
                clear hX X3 HF1
                go_wp2_with fail
                refine (X4.out.ask (HF2.out.l.r.r.r)).mono ?_
                rintro e w10 ⟨rfl, k, rfl⟩
                have X5 := Lib.hid (X4.out.drewN k)
                clear X4
                generalize w9.drewN k = w10 at *
                go_wp2_with fail
                refine (X5.out.ask (HF3.out.l.r.r.r)).mono ?_
                rintro e w11 ⟨rfl, k, rfl⟩
                have X6 := Lib.hid (X5.out.drewN k)
                clear X5
                generalize w10.drewN k = w11 at *
                clear HF2 HF3
                obtain ⟨⟨l0, l1, l2, l3, l4, l5⟩, fz0, fz1, fz2, fz3, fz4⟩ := ul_cells (X6.out.has (Has.r (Has.r (Has.r (Has.l (Has.l (has_blk gu 38 (ulRow vl (.slice AS M.length cs) (flat (recsOf M)).length safe held K))))))))
                go_wp2_with fail
                have X7 := Lib.hid (X6.out.set (Sets.r (Sets.r (Sets.r (Sets.l (Sets.l (sets_blk gu 38 (ulRow vl (.slice AS M.length cs) (flat (recsOf M)).length safe held K) 3 (.int .i64 ((flat (recsOf M)).length : Int)))))))))
                clear l0 l1 l2 l3 l4 l5 fz0 fz1 fz2 fz3 fz4 X6
                generalize World.setCell _ _ _ = w12 at *
                go_meet
                case rel => exact ⟨v, vl, _, M, (flat (recsOf M)).length, held, by omega, hfit, by omega, HC, X7⟩
            · as_aux_lemma =>
              have hx : ∀ j, j < M.length → (at_ (recsOf M) j : Int) ≠ nn := fun j hj he => hex ⟨j, hj, he⟩
              have HF1 := Lib.hid (tForce_miss g gr m K v (recsOf M) safe held nn (fun k hk => hx k (by rw [rec_len] at hk; exact hk)))
              have HF2 := Lib.hid (qUFind gu vl (.slice AS M.length cs) M safe held K (-1) nn (Or.inl ⟨rfl, hx⟩))
              clear hex hx
              unfold lPtr at HF1
              unfold uPtr at HF2
              go_wp2_with fail
              refine (X3.out.call (HF1.out.l.r)).mono ?_
              rintro e w9 ⟨rfl, hX⟩
              have X4 := Lib.hid hX
              clear hX X3
              go_wp2_with fail
              refine (X4.out.ask (HF2.out.l.r.r.r)).mono ?_
              rintro e w10 ⟨rfl, k, rfl⟩
              have X5 := Lib.hid (X4.out.drewN k)
              clear X4
              generalize w9.drewN k = w10 at *
              clear HF1 HF2
              go_wp2_with fail
              go_meet
              case rel => exact ⟨v, vl, _, M, safe, held, by omega, hfit, hsf, HC, X5⟩

          · have hlen0 : 0 < (M.length : Int) := by omega
            have hml : (M.length : Int) ≤ 9223372036854775807 := by omega
            obtain ⟨j0, hJ, hJ2⟩ := mod_u nn (M.length : Int) hlen0 hml
            have hwl : IntKind.u64.wrap (M.length : Int) = (M.length : Int) := by rw [IntKind.wrap_u64]; omega
            have hv := X3.out.right.right.right.left.right.vecR
            rcases hv.forms with ⟨-, hz⟩ | ⟨gs, dd, he, -, -, -⟩
            · omega
            simp only [Value.slice.injEq, true_and] at he
            obtain ⟨rfl, rfl⟩ := he
            have d := hv.cell (sts_at 0 (recsOf M) j0 (by rw [rec_len]; omega))
            rw [Nat.zero_add] at d
            clear hv
            obtain ⟨st, hst⟩ : ∃ st : Int, st = ((at_ (recsOf M) j0 : Nat) : Int) := ⟨_, rfl⟩
            rw [← hst] at d
            clear hst
            obtain ⟨c0, c1, c2, c3, c4, c5, c6, c7, c8, c9, c10, c11, c12⟩ := thirteen (X3.out.has (Has.l (has_blk _ _ _)))
            obtain ⟨⟨l0, l1, l2, l3, l4, l5⟩, fz0, fz1, fz2, fz3, fz4⟩ := ul_cells (X3.out.has (Has.r (Has.r (Has.r (Has.l (Has.l (has_blk gu 38 (ulRow vl (.slice (some ⟨gs, 0, none⟩) M.length cs) (flat (recsOf M)).length safe held K))))))))
            go_upto_region 34 with fail
            go_quiet (fail)
            have X3' := Lib.hid (X3.out.drewN nq)
            clear X3 c0 c1 c2 c3 c4 c5 c6 c7 c8 c9 c10 c11 c12 l0 l1 l2 l3 l4 l5 fz0 fz1 fz2 fz3 fz4 d hM0 hlen0 hml hJ hwl
            have X3 := X3'
            clear X3'
            generalize w8.drewN nq = w8 at *
            go_upto_region 35 with fail
            by_cases hex : ∃ j, j < M.length ∧ (at_ (recsOf M) j : Int) = st
            · obtain ⟨j, hj, hje⟩ := hex
              obtain ⟨rj, hrj⟩ : ∃ q, (recsOf M)[j]? = some q := ⟨(recsOf M)[j]'(by rw [rec_len]; exact hj), List.getElem?_eq_getElem _⟩
              have hnx := at_next (recsOf M) j rj hrj
              by_cases hs : at_ (recsOf M) j + (bytes rj).length ≤ safe + 1
              · as_aux_lemma =>
                have HF1 := Lib.hid (tForce_safe g gr m K v (recsOf M) safe held j rj hrj hs)
                have HF2 := Lib.hid (qUFind gu vl (.slice (some ⟨gs, 0, none⟩) M.length cs) M safe held K j (at_ (recsOf M) j) (Or.inr ⟨j, rfl, hj, rfl⟩))
                have HF3 := Lib.hid (qUIsSafe_hit gu vl (.slice (some ⟨gs, 0, none⟩) M.length cs) M safe held K (by omega) (by omega) j hj)
                have hus : uSafe M safe j = true := by unfold uSafe; rw [hnx]; exact decide_eq_true hs
                rw [hus] at HF3
                rw [hje] at HF1 HF2 HF3
                clear hus hs hnx hrj hje
                unfold lPtr at HF1
                unfold uPtr at HF2 HF3
                go_wp2_with fail
                refine (X3.out.call (HF1.out.l.r)).mono ?_
                rintro e w9 ⟨rfl, hX⟩
                have X4 := Lib.hid hX
                clear hX X3
                go_wp2_with fail
                refine (X4.out.ask (HF2.out.l.r.r.r)).mono ?_
                rintro e w10 ⟨rfl, k, rfl⟩
                have X5 := Lib.hid (X4.out.drewN k)
                clear X4
                generalize w9.drewN k = w10 at *
                go_wp2_with fail
                refine (X5.out.ask (HF3.out.l.r.r.r)).mono ?_
                rintro e w11 ⟨rfl, k, rfl⟩
                have X6 := Lib.hid (X5.out.drewN k)
                clear X5
                generalize w10.drewN k = w11 at *
                clear HF1 HF2 HF3
                go_wp2_with fail
                go_meet
                case rel => exact ⟨v, vl, _, M, safe, held, by omega, hfit, hsf, HC, X6⟩
              · as_aux_lemma =>
                have HF1 := Lib.hid (tForce_sync g gr m K v (recsOf M) safe held Rl.idle rfl j rj hrj hs)
                have HF2 := Lib.hid (qUFind gu vl (.slice (some ⟨gs, 0, none⟩) M.length cs) M safe held K j (at_ (recsOf M) j) (Or.inr ⟨j, rfl, hj, rfl⟩))
                have HF3 := Lib.hid (qUIsSafe_hit gu vl (.slice (some ⟨gs, 0, none⟩) M.length cs) M safe held K (by omega) (by omega) j hj)
                have hus : uSafe M safe j = false := by unfold uSafe; rw [hnx]; exact decide_eq_false hs
                rw [hus] at HF3
                rw [hje] at HF1 HF2 HF3
                clear hus hs hnx hrj hje
                unfold lPtr at HF1
                unfold uPtr at HF2 HF3
                go_wp2_with fail
                refine ((X3.out.imp (Imp.r (fun _ _ => sep_assoc'))).call HF1.out.l.r).mono ?_
                rintro e w9 ⟨rfl, hX⟩
                have X4 := Lib.hid (hX.imp (Imp.r (fun _ _ => sep_assoc)))
                clear hX X3 HF1
                go_wp2_with fail
                refine (X4.out.ask (HF2.out.l.r.r.r)).mono ?_
                rintro e w10 ⟨rfl, k, rfl⟩
                have X5 := Lib.hid (X4.out.drewN k)
                clear X4
                generalize w9.drewN k = w10 at *
                go_wp2_with fail
                refine (X5.out.ask (HF3.out.l.r.r.r)).mono ?_
                rintro e w11 ⟨rfl, k, rfl⟩
                have X6 := Lib.hid (X5.out.drewN k)
                clear X5
                generalize w10.drewN k = w11 at *
                clear HF2 HF3
                obtain ⟨⟨l0, l1, l2, l3, l4, l5⟩, fz0, fz1, fz2, fz3, fz4⟩ := ul_cells (X6.out.has (Has.r (Has.r (Has.r (Has.l (Has.l (has_blk gu 38 (ulRow vl (.slice (some ⟨gs, 0, none⟩) M.length cs) (flat (recsOf M)).length safe held K))))))))
                go_wp2_with fail
                have X7 := Lib.hid (X6.out.set (Sets.r (Sets.r (Sets.r (Sets.l (Sets.l (sets_blk gu 38 (ulRow vl (.slice (some ⟨gs, 0, none⟩) M.length cs) (flat (recsOf M)).length safe held K) 3 (.int .i64 ((flat (recsOf M)).length : Int)))))))))
                clear l0 l1 l2 l3 l4 l5 fz0 fz1 fz2 fz3 fz4 X6
                generalize World.setCell _ _ _ = w12 at *
                go_meet
                case rel => exact ⟨v, vl, _, M, (flat (recsOf M)).length, held, by omega, hfit, by omega, HC, X7⟩
            · as_aux_lemma =>
              have hx : ∀ j, j < M.length → (at_ (recsOf M) j : Int) ≠ st := fun j hj he => hex ⟨j, hj, he⟩
              have HF1 := Lib.hid (tForce_miss g gr m K v (recsOf M) safe held st (fun k hk => hx k (by rw [rec_len] at hk; exact hk)))
              have HF2 := Lib.hid (qUFind gu vl (.slice (some ⟨gs, 0, none⟩) M.length cs) M safe held K (-1) st (Or.inl ⟨rfl, hx⟩))
              clear hex hx
              unfold lPtr at HF1
              unfold uPtr at HF2
              go_wp2_with fail
              refine (X3.out.call (HF1.out.l.r)).mono ?_
              rintro e w9 ⟨rfl, hX⟩
              have X4 := Lib.hid hX
              clear hX X3
              go_wp2_with fail
              refine (X4.out.ask (HF2.out.l.r.r.r)).mono ?_
              rintro e w10 ⟨rfl, k, rfl⟩
              have X5 := Lib.hid (X4.out.drewN k)
              clear X4
              generalize w9.drewN k = w10 at *
              clear HF1 HF2
              go_wp2_with fail
              go_meet
              case rel => exact ⟨v, vl, _, M, safe, held, by omega, hfit, hsf, HC, X5⟩

        · have HR := Lib.hid (qURoom gu vl vs M safe held K (by omega) (by omega) (by omega))
          unfold uPtr at HR
          by_cases h0 : nn < 0
          · as_aux_lemma =>
            have HF1 := Lib.hid (qHold_arg g gr m K v (recsOf M) safe held nn h0)
            unfold lPtr at HF1
            obtain ⟨c0, c1, c2, c3, c4, c5, c6, c7, c8, c9, c10, c11, c12⟩ := thirteen (X3.out.has (Has.l (has_blk _ _ _)))
            go_upto_region 44 with fail
            go_wp2_with fail
            refine (X3.out.ask (HF1.out.l.r)).mono ?_
            rintro e w9 ⟨rfl, k, rfl⟩
            have X4 := Lib.hid (X3.out.drewN k)
            clear X3
            generalize w8.drewN k = w9 at *
            clear c0 c1 c2 c3 c4 c5 c6 c7 c8 c9 c10 c11 c12 HF1 HR
            obtain ⟨c0, c1, c2, c3, c4, c5, c6, c7, c8, c9, c10, c11, c12⟩ := thirteen (X4.out.has (Has.l (has_blk _ _ _)))
            go_wp2_with fail
            go_meet
            case rel => exact ⟨v, vl, vs, M, safe, held, by omega, hfit, hsf, HC, X4⟩
          · by_cases h1 : (K : Int) - (flat (recsOf M)).length - held < nn
            · as_aux_lemma =>
              have HF1 := Lib.hid (qHold_full g gr m K v (recsOf M) safe held (by omega) nn (by omega) h1)
              unfold lPtr at HF1
              obtain ⟨c0, c1, c2, c3, c4, c5, c6, c7, c8, c9, c10, c11, c12⟩ := thirteen (X3.out.has (Has.l (has_blk _ _ _)))
              go_upto_region 44 with fail
              go_wp2_with fail
              refine (X3.out.ask (HF1.out.l.r)).mono ?_
              rintro e w9 ⟨rfl, k, rfl⟩
              have X4 := Lib.hid (X3.out.drewN k)
              clear X3
              generalize w8.drewN k = w9 at *
              clear c0 c1 c2 c3 c4 c5 c6 c7 c8 c9 c10 c11 c12 HF1
              obtain ⟨c0, c1, c2, c3, c4, c5, c6, c7, c8, c9, c10, c11, c12⟩ := thirteen (X4.out.has (Has.l (has_blk _ _ _)))
              go_upto_region 48 with fail
              go_quiet ((go_at_call 12; exact Calls.quiet_of ((X4.out.drewN _).ask HR.out.l.r.r.r)))
              have X5 := Lib.hid (X4.out.drewN nq)
              clear c0 c1 c2 c3 c4 c5 c6 c7 c8 c9 c10 c11 c12 X4 HR
              generalize w9.drewN nq = w10 at *
              go_wp2_with fail
              go_meet
              case rel => exact ⟨v, vl, vs, M, safe, held, by omega, hfit, hsf, HC, X5⟩
            · as_aux_lemma =>
              obtain ⟨q, rfl⟩ : ∃ q : Nat, nn = q := ⟨nn.toNat, by omega⟩
              have HF1 := Lib.hid (tHold_ok g gr m K v (recsOf M) safe held (by omega) q (by omega))
              unfold lPtr at HF1
              obtain ⟨c0, c1, c2, c3, c4, c5, c6, c7, c8, c9, c10, c11, c12⟩ := thirteen (X3.out.has (Has.l (has_blk _ _ _)))
              go_upto_region 44 with fail
              go_wp2_with fail
              refine (X3.out.call (HF1.out.l.r)).mono ?_
              rintro e w9 ⟨rfl, hX⟩
              have X4 := Lib.hid hX
              clear hX X3
              clear c0 c1 c2 c3 c4 c5 c6 c7 c8 c9 c10 c11 c12 HF1
              obtain ⟨c0, c1, c2, c3, c4, c5, c6, c7, c8, c9, c10, c11, c12⟩ := thirteen (X4.out.has (Has.l (has_blk _ _ _)))
              go_upto_region 48 with fail
              go_quiet ((go_at_call 12; exact Calls.quiet_of ((X4.out.drewN _).ask HR.out.l.r.r.r)))
              have X5 := Lib.hid (X4.out.drewN nq)
              clear c0 c1 c2 c3 c4 c5 c6 c7 c8 c9 c10 c11 c12 X4 HR
              generalize w9.drewN nq = w10 at *
              go_upto_region 50 with fail
              have hw : IntKind.i64.wrap ((held : Int) + (q : Int)) = (held : Int) + (q : Int) := by rw [IntKind.wrap_i64]; omega
              obtain ⟨c0, c1, c2, c3, c4, c5, c6, c7, c8, c9, c10, c11, c12⟩ := thirteen (X5.out.has (Has.l (has_blk _ _ _)))
              obtain ⟨⟨l0, l1, l2, l3, l4, l5⟩, fz0, fz1, fz2, fz3, fz4⟩ := ul_cells (X5.out.has (Has.r (Has.r (Has.r (Has.l (Has.l (has_blk gu 38 (ulRow vl vs (flat (recsOf M)).length safe held K))))))))
              go_wp2_with fail
              refine wp_region_still_tail 10 (by kernel_rfl) (by kernel_rfl) ?_
              simp only [List.take_succ_cons, List.take_zero, List.drop_succ_cons, List.drop_zero]
              change wpStill _ _ w10.drew _ _ _
              repeat still_step
              refine wpStill_nil ?_
              change wpList _ _ _ _ _ w10.drew
              have X6 := Lib.hid X5.out.drew
              clear c0 c1 c2 c3 c4 c5 c6 c7 c8 c9 c10 c11 c12 l0 l1 l2 l3 l4 l5 fz0 fz1 fz2 fz3 fz4 X5
              generalize w10.drew = w11 at *
              obtain ⟨⟨l0, l1, l2, l3, l4, l5⟩, fz0, fz1, fz2, fz3, fz4⟩ := ul_cells (X6.out.has (Has.r (Has.r (Has.r (Has.l (Has.l (has_blk gu 38 (ulRow vl vs (flat (recsOf M)).length safe held K))))))))
              go_wp2_with fail
              have X7 := Lib.hid (X6.out.set (Sets.r (Sets.r (Sets.r (Sets.l (Sets.l (sets_blk gu 38 (ulRow vl vs (flat (recsOf M)).length safe held K) 4 (.int .i64 ((held : Int) + (q : Int))))))))))
              clear l0 l1 l2 l3 l4 l5 fz0 fz1 fz2 fz3 fz4 X6
              generalize World.setCell _ _ _ = w12 at *
              go_meet
              case rel => exact ⟨v, vl, vs, M, safe, held + q, by omega, by omega, hsf, HC, X7⟩

        · have hb1 : (kd == 1) = false := by simp; omega
          have hb2 : (kd == 2) = false := by simp; omega
          have hb3 : (kd == 5) = false := by simp; omega
          have hb4 : (kd == 3) = false := by simp; omega
          clear hc
          by_cases h0 : nn < 0
          · as_aux_lemma =>
            have HF1 := Lib.hid (tFree_neg g gr m K v (recsOf M) safe held nn h0)
            unfold lPtr at HF1
            have hge : ¬ (held : Int) ≤ nn := by omega
            have hgt : ¬ 0 < nn := by omega
            obtain ⟨c0, c1, c2, c3, c4, c5, c6, c7, c8, c9, c10, c11, c12⟩ := thirteen (X3.out.has (Has.l (has_blk _ _ _)))
            go_upto_region 15 with fail
            go_wp2_with fail
            refine (X3.out.ask (HF1.out.l.r)).mono ?_
            rintro e w9 ⟨rfl, k, rfl⟩
            have X4 := Lib.hid (X3.out.drewN k)
            clear X3
            generalize w8.drewN k = w9 at *
            clear c0 c1 c2 c3 c4 c5 c6 c7 c8 c9 c10 c11 c12 HF1
            obtain ⟨c0, c1, c2, c3, c4, c5, c6, c7, c8, c9, c10, c11, c12⟩ := thirteen (X4.out.has (Has.l (has_blk _ _ _)))
            obtain ⟨⟨l0, l1, l2, l3, l4, l5⟩, fz0, fz1, fz2, fz3, fz4⟩ := ul_cells (X4.out.has (Has.r (Has.r (Has.r (Has.l (Has.l (has_blk gu 38 (ulRow vl vs (flat (recsOf M)).length safe held K))))))))
            go_upto_region 16 with fail
            go_quiet (fail)
            have X5 := Lib.hid (X4.out.drewN nq)
            clear c0 c1 c2 c3 c4 c5 c6 c7 c8 c9 c10 c11 c12 l0 l1 l2 l3 l4 l5 fz0 fz1 fz2 fz3 fz4 X4
            generalize w9.drewN nq = w10 at *
            obtain ⟨c0, c1, c2, c3, c4, c5, c6, c7, c8, c9, c10, c11, c12⟩ := thirteen (X5.out.has (Has.l (has_blk _ _ _)))
            go_wp2_with fail
            go_meet
            case rel => exact ⟨v, vl, vs, M, safe, held, by omega, hfit, hsf, HC, X5⟩
          · obtain ⟨q, rfl⟩ : ∃ q : Nat, nn = q := ⟨nn.toNat, by omega⟩
            have HF1 := Lib.hid (tFree_ok g gr m K v (recsOf M) safe held (by omega) q)
            unfold lPtr at HF1
            by_cases hge : held ≤ q
            · as_aux_lemma =>
              have hge' : (held : Int) ≤ (q : Int) := by omega
              rw [Nat.sub_eq_zero_of_le hge] at HF1
              clear h0
              obtain ⟨c0, c1, c2, c3, c4, c5, c6, c7, c8, c9, c10, c11, c12⟩ := thirteen (X3.out.has (Has.l (has_blk _ _ _)))
              go_upto_region 15 with fail
              go_wp2_with fail
              refine (X3.out.call (HF1.out.l.r)).mono ?_
              rintro e w9 ⟨rfl, hX⟩
              have X4 := Lib.hid hX
              clear hX X3
              clear c0 c1 c2 c3 c4 c5 c6 c7 c8 c9 c10 c11 c12 HF1
              obtain ⟨c0, c1, c2, c3, c4, c5, c6, c7, c8, c9, c10, c11, c12⟩ := thirteen (X4.out.has (Has.l (has_blk _ _ _)))
              obtain ⟨⟨l0, l1, l2, l3, l4, l5⟩, fz0, fz1, fz2, fz3, fz4⟩ := ul_cells (X4.out.has (Has.r (Has.r (Has.r (Has.l (Has.l (has_blk gu 38 (ulRow vl vs (flat (recsOf M)).length safe held K))))))))
              go_upto_region 16 with fail
              go_quiet (fail)
              have X5 := Lib.hid (X4.out.drewN nq)
              clear c0 c1 c2 c3 c4 c5 c6 c7 c8 c9 c10 c11 c12 l0 l1 l2 l3 l4 l5 fz0 fz1 fz2 fz3 fz4 X4
              generalize w9.drewN nq = w10 at *
              obtain ⟨⟨l0, l1, l2, l3, l4, l5⟩, fz0, fz1, fz2, fz3, fz4⟩ := ul_cells (X5.out.has (Has.r (Has.r (Has.r (Has.l (Has.l (has_blk gu 38 (ulRow vl vs (flat (recsOf M)).length safe held K))))))))
              go_wp2_with fail
              have X7 := Lib.hid (X5.out.set (Sets.r (Sets.r (Sets.r (Sets.l (Sets.l (sets_blk gu 38 (ulRow vl vs (flat (recsOf M)).length safe held K) 4 (.int .i64 0))))))))
              clear l0 l1 l2 l3 l4 l5 fz0 fz1 fz2 fz3 fz4 X5
              generalize World.setCell _ _ _ = w12 at *
              go_meet
              case rel => exact ⟨v, vl, vs, M, safe, 0, by omega, by omega, hsf, HC, X7⟩
            · by_cases hq0 : q = 0
              · as_aux_lemma =>
                have hge' : ¬ (held : Int) ≤ (q : Int) := by omega
                have hgt : ¬ 0 < (q : Int) := by omega
                have hsub : held - q = held := by omega
                rw [hsub] at HF1
                clear h0 hq0 hsub hge
                obtain ⟨c0, c1, c2, c3, c4, c5, c6, c7, c8, c9, c10, c11, c12⟩ := thirteen (X3.out.has (Has.l (has_blk _ _ _)))
                go_upto_region 15 with fail
                go_wp2_with fail
                refine (X3.out.call (HF1.out.l.r)).mono ?_
                rintro e w9 ⟨rfl, hX⟩
                have X4 := Lib.hid hX
                clear hX X3
                clear c0 c1 c2 c3 c4 c5 c6 c7 c8 c9 c10 c11 c12 HF1
                obtain ⟨c0, c1, c2, c3, c4, c5, c6, c7, c8, c9, c10, c11, c12⟩ := thirteen (X4.out.has (Has.l (has_blk _ _ _)))
                obtain ⟨⟨l0, l1, l2, l3, l4, l5⟩, fz0, fz1, fz2, fz3, fz4⟩ := ul_cells (X4.out.has (Has.r (Has.r (Has.r (Has.l (Has.l (has_blk gu 38 (ulRow vl vs (flat (recsOf M)).length safe held K))))))))
                go_upto_region 16 with fail
                go_quiet (fail)
                have X5 := Lib.hid (X4.out.drewN nq)
                clear c0 c1 c2 c3 c4 c5 c6 c7 c8 c9 c10 c11 c12 l0 l1 l2 l3 l4 l5 fz0 fz1 fz2 fz3 fz4 X4
                generalize w9.drewN nq = w10 at *
                obtain ⟨c0, c1, c2, c3, c4, c5, c6, c7, c8, c9, c10, c11, c12⟩ := thirteen (X5.out.has (Has.l (has_blk _ _ _)))
                go_wp2_with fail
                go_meet
                case rel => exact ⟨v, vl, vs, M, safe, held, by omega, hfit, hsf, HC, X5⟩
              · as_aux_lemma =>
                have hge' : ¬ (held : Int) ≤ (q : Int) := by omega
                have hgt : 0 < (q : Int) := by omega
                have hsub : (held : Int) - (q : Int) = ((held - q : Nat) : Int) := by omega
                have hfit2 : Hid ((flat (recsOf M)).length + (held - q) ≤ K) := Lib.hid (by omega)
                clear h0 hq0 hge
                obtain ⟨c0, c1, c2, c3, c4, c5, c6, c7, c8, c9, c10, c11, c12⟩ := thirteen (X3.out.has (Has.l (has_blk _ _ _)))
                go_upto_region 15 with fail
                go_wp2_with fail
                refine (X3.out.call (HF1.out.l.r)).mono ?_
                rintro e w9 ⟨rfl, hX⟩
                have X4 := Lib.hid hX
                clear hX X3
                clear c0 c1 c2 c3 c4 c5 c6 c7 c8 c9 c10 c11 c12 HF1
                obtain ⟨c0, c1, c2, c3, c4, c5, c6, c7, c8, c9, c10, c11, c12⟩ := thirteen (X4.out.has (Has.l (has_blk _ _ _)))
                obtain ⟨⟨l0, l1, l2, l3, l4, l5⟩, fz0, fz1, fz2, fz3, fz4⟩ := ul_cells (X4.out.has (Has.r (Has.r (Has.r (Has.l (Has.l (has_blk gu 38 (ulRow vl vs (flat (recsOf M)).length safe held K))))))))
                go_upto_region 16 with fail
                go_quiet (fail)
                have X5 := Lib.hid (X4.out.drewN nq)
                clear c0 c1 c2 c3 c4 c5 c6 c7 c8 c9 c10 c11 c12 l0 l1 l2 l3 l4 l5 fz0 fz1 fz2 fz3 fz4 X4
                generalize w9.drewN nq = w10 at *
                obtain ⟨c0, c1, c2, c3, c4, c5, c6, c7, c8, c9, c10, c11, c12⟩ := thirteen (X5.out.has (Has.l (has_blk _ _ _)))
                go_upto_region 19 with fail
                have hw : IntKind.i64.wrap ((held : Int) - (q : Int)) = ((held - q : Nat) : Int) := by rw [IntKind.wrap_i64]; omega
                clear hsub
                obtain ⟨⟨l0, l1, l2, l3, l4, l5⟩, fz0, fz1, fz2, fz3, fz4⟩ := ul_cells (X5.out.has (Has.r (Has.r (Has.r (Has.l (Has.l (has_blk gu 38 (ulRow vl vs (flat (recsOf M)).length safe held K))))))))
                go_wp2_with fail
                refine wp_region_still_tail 10 (by kernel_rfl) (by kernel_rfl) ?_
                simp only [List.take_succ_cons, List.take_zero, List.drop_succ_cons, List.drop_zero]
                change wpStill _ _ w10.drew _ _ _
                repeat still_step
                refine wpStill_nil ?_
                change wpList _ _ _ _ _ w10.drew
                have X6 := Lib.hid X5.out.drew
                clear c0 c1 c2 c3 c4 c5 c6 c7 c8 c9 c10 c11 c12 l0 l1 l2 l3 l4 l5 fz0 fz1 fz2 fz3 fz4 X5
                generalize w10.drew = w11 at *
                obtain ⟨⟨l0, l1, l2, l3, l4, l5⟩, fz0, fz1, fz2, fz3, fz4⟩ := ul_cells (X6.out.has (Has.r (Has.r (Has.r (Has.l (Has.l (has_blk gu 38 (ulRow vl vs (flat (recsOf M)).length safe held K))))))))
                go_wp2_with fail
                have X7 := Lib.hid (X6.out.set (Sets.r (Sets.r (Sets.r (Sets.l (Sets.l (sets_blk gu 38 (ulRow vl vs (flat (recsOf M)).length safe held K) 4 (.int .i64 ((held - q : Nat) : Int)))))))))
                clear l0 l1 l2 l3 l4 l5 fz0 fz1 fz2 fz3 fz4 X6
                generalize World.setCell _ _ _ = w12 at *
                go_meet
                case rel => exact ⟨v, vl, vs, M, safe, held - q, by omega, hfit2.out, hsf, HC, X7⟩

      case rest =>
        clear X3 HC hM hfit hsf HREC
        obtain ⟨v, vl, vs, M, safe, held, hM, hfit, hsf, HC, X3⟩ := hcut
        have HR1 := Lib.hid (qRoom g gr m K v (recsOf M) safe held (by omega))
        have HR2 := Lib.hid (qURoom gu vl vs M safe held K (by omega) (by omega) (by omega))
        unfold lPtr at HR1
        unfold uPtr at HR2
        go_wp2_with fail
        refine (X3.out.ask (HR1.out.l.r)).mono ?_
        rintro e w9 ⟨rfl, k, rfl⟩
        have X4 := Lib.hid (X3.out.drewN k)
        clear X3
        generalize wc.drewN k = w9 at *
        go_wp2_with fail
        refine (X4.out.ask (HR2.out.l.r.r.r)).mono ?_
        rintro e w10 ⟨rfl, k, rfl⟩
        have X5 := Lib.hid (X4.out.drewN k)
        clear X4
        generalize w9.drewN k = w10 at *
        clear HR1 HR2
        have hne : (((K : Int) - (flat (recsOf M)).length - held) != ((K : Int) - (flat (recsOf M)).length - held)) = false := by simp
        go_wp2_with fail
        clear hne
        obtain ⟨AS, cs, rfl⟩ := X5.out.right.right.right.left.right.vecR.slice
        obtain ⟨AL, cl, rfl⟩ := X5.out.right.right.right.left.right.vec.slice
        go_loopw [18, 19, 20] (fun jj _ _ wr => ∃ q : Nat, q ≤ M.length ∧ jj = .int .i64 q ∧ Hid (Own w No wr (Asn.blk gx 47 #[.int .i64 kd, .int .i64 nn, .int .i64 rd.kind, .int .i64 rd.deal, .int .i64 rd.prev, .int .i64 rd.next, .slice A1 rd.pages.length n1, .int .i64 rd.und.kind, .int .i64 rd.und.tree, .string (ofL rd.und.key), .string (ofL rd.und.val), .slice A2 rd.opn.length n2, .slice A3 rd.dty.length n3] * Two g gr m gu K v (.slice AL M.length cl) (.slice AS M.length cs) M safe held Y))) (fun jj _ _ _ => M.length - (intOf jj).toNat)
        case atStart => exact ⟨0, Nat.zero_le _, rfl, X5⟩
        case round =>
          clear X5
          obtain ⟨q, hq, rfl, X⟩ := hrel
          by_cases hlt : q < M.length
          · obtain ⟨⟨rq, qv0⟩, hmq⟩ : ∃ y, M[q]? = some y := ⟨M[q]'hlt, List.getElem?_eq_getElem _⟩
            have hrq : (recsOf M)[q]? = some rq := by unfold recsOf; rw [List.getElem?_map, hmq]; rfl
            obtain ⟨hgq, hcq⟩ := HC.out _ (List.mem_of_getElem? hmq)
            have HAt := Lib.hid (fun w1 C h => At_hit g gr m K v (recsOf M) safe held q rq hrq hgq w w1 C HT.out h)
            unfold lPtr at HAt
            have hv := X.out.right.right.right.left.right.vecR
            rcases hv.forms with ⟨-, hz⟩ | ⟨gs, dd, he, -, -, -⟩
            · omega
            simp only [Value.slice.injEq, true_and] at he
            obtain ⟨rfl, rfl⟩ := he
            have d := hv.cell (sts_at 0 (recsOf M) q (by rw [rec_len]; exact hlt))
            rw [Nat.zero_add] at d
            clear hv
            have hv2 := X.out.right.right.right.left.right.vec
            rcases hv2.forms with ⟨-, hz⟩ | ⟨gl, dd, he, -, -, -⟩
            · omega
            simp only [Value.slice.injEq, true_and] at he
            obtain ⟨rfl, rfl⟩ := he
            clear hv2
            obtain ⟨⟨l0, l1, l2, l3, l4, l5⟩, fz0, fz1, fz2, fz3, fz4⟩ := ul_cells (X.out.has (Has.r (Has.r (Has.r (Has.l (Has.l (has_blk gu 38 (ulRow (.slice (some ⟨gl, 0, none⟩) M.length cl) (.slice (some ⟨gs, 0, none⟩) M.length cs) (flat (recsOf M)).length safe held K))))))))
            go_wp2_with fail
            refine (HAt.out _ _ (own_front X.out)).mono ?_
            rintro e wy ⟨⟨y1, y2, y3⟩, rfl, hX⟩
            obtain ⟨B1, d1, rfl⟩ := hX.left.vec.slice
            obtain ⟨B2, d2, rfl⟩ := hX.left.right.vec.slice
            obtain ⟨B3, d3, rfl⟩ := hX.left.right.vecR.slice
            have T1 := Lib.hid (hX.alloc (recCells rq (.slice B1 rq.pages.length d1) (.slice B2 rq.opn.length d2) (.slice B3 rq.dty.length d3)) 45)
            clear hX X HAt d l0 l1 l2 l3 l4 l5 fz0 fz1 fz2 fz3 fz4
            unfold recV recCells at *
            dsimp only at *
            as_aux_lemma =>
              obtain ⟨g19, hg19⟩ : ∃ g, g = wy.heap.size := ⟨_, rfl⟩
              go_upto_region 59 with fail
              rw [← hg19] at T1 ⊢
              clear hg19
              generalize wy.alloc _ = wz at *
              generalize hAq : Mn.aMn m Rl.idle = Aq at *
              have hnx := at_next (recsOf M) q rq hrq
              have hle : at_ (recsOf M) q ≤ at_ (recsOf M) (M.length - 1) := by
                have h1 := at_mono (recsOf M) q (M.length - 1 - q) (by rw [rec_len]; omega)
                rwa [show q + (M.length - 1 - q) = M.length - 1 by omega] at h1
              have HOW : Hid (∀ W, Own w No W (Asn.blk g19 45 #[.int .i64 rq.kind, .int .i64 rq.deal, .int .i64 rq.prev, .int .i64 rq.next, .slice B1 rq.pages.length d1, .int .i64 rq.und.kind, .int .i64 rq.und.tree, .string (ofL rq.und.key), .string (ofL rq.und.val), .slice B2 rq.opn.length d2, .slice B3 rq.dty.length d3] * (aLists rq (.slice B1 rq.pages.length d1, .slice B2 rq.opn.length d2, .slice B3 rq.dty.length d3) * (aLg g gr m K v (recsOf M) safe held * (Asn.blk gx 47 #[.int .i64 kd, .int .i64 nn, .int .i64 rd.kind, .int .i64 rd.deal, .int .i64 rd.prev, .int .i64 rd.next, .slice A1 rd.pages.length n1, .int .i64 rd.und.kind, .int .i64 rd.und.tree, .string (ofL rd.und.key), .string (ofL rd.und.val), .slice A2 rd.opn.length n2, .slice A3 rd.dty.length n3] * (Aq * (aUl gu (.slice (some ⟨gl, 0, none⟩) M.length cl) (.slice (some ⟨gs, 0, none⟩) M.length cs) M safe held K * Y)))))) → (W.cell? ⟨g19, 0, none⟩ = some (.int .i64 rq.kind) ∧ W.cell? ⟨g19, 1, none⟩ = some (.int .i64 rq.deal) ∧ W.cell? ⟨g19, 2, none⟩ = some (.int .i64 rq.prev) ∧ W.cell? ⟨g19, 3, none⟩ = some (.int .i64 rq.next) ∧ W.cell? ⟨g19, 4, none⟩ = some (.slice B1 rq.pages.length d1) ∧ W.cell? ⟨g19, 5, none⟩ = some (.int .i64 rq.und.kind) ∧ W.cell? ⟨g19, 6, none⟩ = some (.int .i64 rq.und.tree) ∧ W.cell? ⟨g19, 7, none⟩ = some (.string (ofL rq.und.key)) ∧ W.cell? ⟨g19, 8, none⟩ = some (.string (ofL rq.und.val)) ∧ W.cell? ⟨g19, 9, none⟩ = some (.slice B2 rq.opn.length d2) ∧ W.cell? ⟨g19, 10, none⟩ = some (.slice B3 rq.dty.length d3)) ∧ (W.cell? ⟨gu, 0, none⟩ = some (.slice (some ⟨gl, 0, none⟩) M.length cl) ∧ W.cell? ⟨gu, 1, none⟩ = some (.slice (some ⟨gs, 0, none⟩) M.length cs)) ∧ (W.cell? ⟨gs, q, none⟩ = some (.int .i64 ((at_ (recsOf M) q : Nat) : Int))) ∧ (W.cell? ⟨gl, q * 11, none⟩ = some (.int .i64 rq.kind) ∧ W.cell? ⟨gl, q * 11 + 1, none⟩ = some (.int .i64 rq.deal) ∧ W.cell? ⟨gl, q * 11 + 2, none⟩ = some (.int .i64 rq.prev) ∧ W.cell? ⟨gl, q * 11 + 3, none⟩ = some (.int .i64 rq.next) ∧ W.cell? ⟨gl, q * 11 + 4, none⟩ = some (qv0.1) ∧ W.cell? ⟨gl, q * 11 + 5, none⟩ = some (.int .i64 rq.und.kind) ∧ W.cell? ⟨gl, q * 11 + 6, none⟩ = some (.int .i64 rq.und.tree) ∧ W.cell? ⟨gl, q * 11 + 7, none⟩ = some (.string (ofL rq.und.key)) ∧ W.cell? ⟨gl, q * 11 + 8, none⟩ = some (.string (ofL rq.und.val)) ∧ W.cell? ⟨gl, q * 11 + 9, none⟩ = some (qv0.2.1) ∧ W.cell? ⟨gl, q * 11 + 10, none⟩ = some (qv0.2.2))) := Lib.hid fun W h => by
                have b1 := eleven (h.has (Has.l (has_blk _ _ _)))
                have b2 := ul_cells (h.has (Has.r (Has.r (Has.r (Has.r (Has.r (Has.l (Has.l (has_blk gu 38 (ulRow (.slice (some ⟨gl, 0, none⟩) M.length cl) (.slice (some ⟨gs, 0, none⟩) M.length cs) (flat (recsOf M)).length safe held K))))))))))
                have b3 := h.right.right.right.right.right.left.right.vecR.cell (sts_at 0 (recsOf M) q (by rw [rec_len]; exact hlt))
                have b4 := fun j x hx => h.right.right.right.right.right.left.right.vec.cell (recs11_at M q rq qv0 hmq j x hx)
                rw [Nat.zero_add] at b3
                exact ⟨b1.1, ⟨b2.1.1, b2.1.2.1⟩, b3, b4 0 _ rfl, b4 1 _ rfl, b4 2 _ rfl, b4 3 _ rfl, b4 4 _ rfl, b4 5 _ rfl, b4 6 _ rfl, b4 7 _ rfl, b4 8 _ rfl, b4 9 _ rfl, b4 10 _ rfl⟩
              have HSM : Hid (∀ W, Own w No W (Asn.blk g19 45 #[.int .i64 rq.kind, .int .i64 rq.deal, .int .i64 rq.prev, .int .i64 rq.next, .slice B1 rq.pages.length d1, .int .i64 rq.und.kind, .int .i64 rq.und.tree, .string (ofL rq.und.key), .string (ofL rq.und.val), .slice B2 rq.opn.length d2, .slice B3 rq.dty.length d3] * (aLists rq (.slice B1 rq.pages.length d1, .slice B2 rq.opn.length d2, .slice B3 rq.dty.length d3) * (aLg g gr m K v (recsOf M) safe held * (Asn.blk gx 47 #[.int .i64 kd, .int .i64 nn, .int .i64 rd.kind, .int .i64 rd.deal, .int .i64 rd.prev, .int .i64 rd.next, .slice A1 rd.pages.length n1, .int .i64 rd.und.kind, .int .i64 rd.und.tree, .string (ofL rd.und.key), .string (ofL rd.und.val), .slice A2 rd.opn.length n2, .slice A3 rd.dty.length n3] * (Aq * (aUl gu (.slice (some ⟨gl, 0, none⟩) M.length cl) (.slice (some ⟨gs, 0, none⟩) M.length cs) M safe held K * Y)))))) → Calls Tryd.prog 21 #[.agg #[.int .i64 rq.kind, .int .i64 rq.deal, .int .i64 rq.prev, .int .i64 rq.next, .slice B1 rq.pages.length d1, .int .i64 rq.und.kind, .int .i64 rq.und.tree, .string (ofL rq.und.key), .string (ofL rq.und.val), .slice B2 rq.opn.length d2, .slice B3 rq.dty.length d3], .agg #[.int .i64 rq.kind, .int .i64 rq.deal, .int .i64 rq.prev, .int .i64 rq.next, qv0.1, .int .i64 rq.und.kind, .int .i64 rq.und.tree, .string (ofL rq.und.key), .string (ofL rq.und.val), qv0.2.1, qv0.2.2]] W fun e w' => e = .returned (.bool true) ∧ Own w No w' (Asn.blk g19 45 #[.int .i64 rq.kind, .int .i64 rq.deal, .int .i64 rq.prev, .int .i64 rq.next, .slice B1 rq.pages.length d1, .int .i64 rq.und.kind, .int .i64 rq.und.tree, .string (ofL rq.und.key), .string (ofL rq.und.val), .slice B2 rq.opn.length d2, .slice B3 rq.dty.length d3] * (aLists rq (.slice B1 rq.pages.length d1, .slice B2 rq.opn.length d2, .slice B3 rq.dty.length d3) * (aLg g gr m K v (recsOf M) safe held * (Asn.blk gx 47 #[.int .i64 kd, .int .i64 nn, .int .i64 rd.kind, .int .i64 rd.deal, .int .i64 rd.prev, .int .i64 rd.next, .slice A1 rd.pages.length n1, .int .i64 rd.und.kind, .int .i64 rd.und.tree, .string (ofL rd.und.key), .string (ofL rd.und.val), .slice A2 rd.opn.length n2, .slice A3 rd.dty.length n3] * (Aq * (aUl gu (.slice (some ⟨gl, 0, none⟩) M.length cl) (.slice (some ⟨gs, 0, none⟩) M.length cs) M safe held K * Y))))))) := Lib.hid fun W h => (Same_any rq rq _ _ W (lists_at h.right.left) (hcq.keep h.bel)).mono fun e W' ⟨he, hb⟩ => ⟨by rw [he, decide_eq_true rfl], h.below hb⟩
              have HSF := Lib.hid (fun W (h : Own w No W (Asn.blk g19 45 #[.int .i64 rq.kind, .int .i64 rq.deal, .int .i64 rq.prev, .int .i64 rq.next, .slice B1 rq.pages.length d1, .int .i64 rq.und.kind, .int .i64 rq.und.tree, .string (ofL rq.und.key), .string (ofL rq.und.val), .slice B2 rq.opn.length d2, .slice B3 rq.dty.length d3] * (aLists rq (.slice B1 rq.pages.length d1, .slice B2 rq.opn.length d2, .slice B3 rq.dty.length d3) * (aLg g gr m K v (recsOf M) safe held * (Asn.blk gx 47 #[.int .i64 kd, .int .i64 nn, .int .i64 rd.kind, .int .i64 rd.deal, .int .i64 rd.prev, .int .i64 rd.next, .slice A1 rd.pages.length n1, .int .i64 rd.und.kind, .int .i64 rd.und.tree, .string (ofL rd.und.key), .string (ofL rd.und.val), .slice A2 rd.opn.length n2, .slice A3 rd.dty.length n3] * (Aq * (aUl gu (.slice (some ⟨gl, 0, none⟩) M.length cl) (.slice (some ⟨gs, 0, none⟩) M.length cs) M safe held K * Y))))))) => h.call (tIsSafe_hit g gr m K v (recsOf M) safe held q rq hrq).l.r.r)
              have HUF := Lib.hid (fun W (h : Own w No W (Asn.blk g19 45 #[.int .i64 rq.kind, .int .i64 rq.deal, .int .i64 rq.prev, .int .i64 rq.next, .slice B1 rq.pages.length d1, .int .i64 rq.und.kind, .int .i64 rq.und.tree, .string (ofL rq.und.key), .string (ofL rq.und.val), .slice B2 rq.opn.length d2, .slice B3 rq.dty.length d3] * (aLists rq (.slice B1 rq.pages.length d1, .slice B2 rq.opn.length d2, .slice B3 rq.dty.length d3) * (aLg g gr m K v (recsOf M) safe held * (Asn.blk gx 47 #[.int .i64 kd, .int .i64 nn, .int .i64 rd.kind, .int .i64 rd.deal, .int .i64 rd.prev, .int .i64 rd.next, .slice A1 rd.pages.length n1, .int .i64 rd.und.kind, .int .i64 rd.und.tree, .string (ofL rd.und.key), .string (ofL rd.und.val), .slice A2 rd.opn.length n2, .slice A3 rd.dty.length n3] * (Aq * (aUl gu (.slice (some ⟨gl, 0, none⟩) M.length cl) (.slice (some ⟨gs, 0, none⟩) M.length cs) M safe held K * Y))))))) => (h.ask (qUIsSafe_hit gu (.slice (some ⟨gl, 0, none⟩) M.length cl) (.slice (some ⟨gs, 0, none⟩) M.length cs) M safe held K (by omega) (by omega) q hlt).l.r.r.r.r.r).mono fun e W' ⟨he, k, hk⟩ => (⟨he, by rw [hk]; exact h.drewN k⟩ : _ ∧ Own w No W' (Asn.blk g19 45 #[.int .i64 rq.kind, .int .i64 rq.deal, .int .i64 rq.prev, .int .i64 rq.next, .slice B1 rq.pages.length d1, .int .i64 rq.und.kind, .int .i64 rq.und.tree, .string (ofL rq.und.key), .string (ofL rq.und.val), .slice B2 rq.opn.length d2, .slice B3 rq.dty.length d3] * (aLists rq (.slice B1 rq.pages.length d1, .slice B2 rq.opn.length d2, .slice B3 rq.dty.length d3) * (aLg g gr m K v (recsOf M) safe held * (Asn.blk gx 47 #[.int .i64 kd, .int .i64 nn, .int .i64 rd.kind, .int .i64 rd.deal, .int .i64 rd.prev, .int .i64 rd.next, .slice A1 rd.pages.length n1, .int .i64 rd.und.kind, .int .i64 rd.und.tree, .string (ofL rd.und.key), .string (ofL rd.und.val), .slice A2 rd.opn.length n2, .slice A3 rd.dty.length n3] * (Aq * (aUl gu (.slice (some ⟨gl, 0, none⟩) M.length cl) (.slice (some ⟨gs, 0, none⟩) M.length cs) M safe held K * Y))))))))
              have HLA := Lib.hid (fun W (h : Own w No W (Asn.blk g19 45 #[.int .i64 rq.kind, .int .i64 rq.deal, .int .i64 rq.prev, .int .i64 rq.next, .slice B1 rq.pages.length d1, .int .i64 rq.und.kind, .int .i64 rq.und.tree, .string (ofL rq.und.key), .string (ofL rq.und.val), .slice B2 rq.opn.length d2, .slice B3 rq.dty.length d3] * (aLists rq (.slice B1 rq.pages.length d1, .slice B2 rq.opn.length d2, .slice B3 rq.dty.length d3) * (aLg g gr m K v (recsOf M) safe held * (Asn.blk gx 47 #[.int .i64 kd, .int .i64 nn, .int .i64 rd.kind, .int .i64 rd.deal, .int .i64 rd.prev, .int .i64 rd.next, .slice A1 rd.pages.length n1, .int .i64 rd.und.kind, .int .i64 rd.und.tree, .string (ofL rd.und.key), .string (ofL rd.und.val), .slice A2 rd.opn.length n2, .slice A3 rd.dty.length n3] * (Aq * (aUl gu (.slice (some ⟨gl, 0, none⟩) M.length cl) (.slice (some ⟨gs, 0, none⟩) M.length cs) M safe held K * Y))))))) => h.call (tLast g gr m K v (recsOf M) safe held (at_ (recsOf M) (M.length - 1)) (by rw [rec_len, if_neg (by omega)])).l.r.r)
              have hus : uSafe M safe q = decide (at_ (recsOf M) q + (bytes rq).length ≤ safe + 1) := by unfold uSafe; rw [hnx]
              rw [hus] at HUF
              unfold lPtr at HSF HLA
              unfold uPtr at HUF
              clear hus
              generalize decide (at_ (recsOf M) q + (bytes rq).length ≤ safe + 1) = sb at *
              have hll : ¬ (((at_ (recsOf M) (M.length - 1) : Nat) : Int) < ((at_ (recsOf M) q : Nat) : Int)) := by omega
              generalize ((at_ (recsOf M) (M.length - 1) : Nat) : Int) = la at HLA hll
              obtain ⟨st, hst⟩ : ∃ st : Int, st = ((at_ (recsOf M) q : Nat) : Int) := ⟨_, rfl⟩
              rw [← hst] at HSF HUF hll
              have HOW : Hid (∀ W, Own w No W (Asn.blk g19 45 #[.int .i64 rq.kind, .int .i64 rq.deal, .int .i64 rq.prev, .int .i64 rq.next, .slice B1 rq.pages.length d1, .int .i64 rq.und.kind, .int .i64 rq.und.tree, .string (ofL rq.und.key), .string (ofL rq.und.val), .slice B2 rq.opn.length d2, .slice B3 rq.dty.length d3] * (aLists rq (.slice B1 rq.pages.length d1, .slice B2 rq.opn.length d2, .slice B3 rq.dty.length d3) * (aLg g gr m K v (recsOf M) safe held * (Asn.blk gx 47 #[.int .i64 kd, .int .i64 nn, .int .i64 rd.kind, .int .i64 rd.deal, .int .i64 rd.prev, .int .i64 rd.next, .slice A1 rd.pages.length n1, .int .i64 rd.und.kind, .int .i64 rd.und.tree, .string (ofL rd.und.key), .string (ofL rd.und.val), .slice A2 rd.opn.length n2, .slice A3 rd.dty.length n3] * (Aq * (aUl gu (.slice (some ⟨gl, 0, none⟩) M.length cl) (.slice (some ⟨gs, 0, none⟩) M.length cs) M safe held K * Y)))))) → (W.cell? ⟨g19, 0, none⟩ = some (.int .i64 rq.kind) ∧ W.cell? ⟨g19, 1, none⟩ = some (.int .i64 rq.deal) ∧ W.cell? ⟨g19, 2, none⟩ = some (.int .i64 rq.prev) ∧ W.cell? ⟨g19, 3, none⟩ = some (.int .i64 rq.next) ∧ W.cell? ⟨g19, 4, none⟩ = some (.slice B1 rq.pages.length d1) ∧ W.cell? ⟨g19, 5, none⟩ = some (.int .i64 rq.und.kind) ∧ W.cell? ⟨g19, 6, none⟩ = some (.int .i64 rq.und.tree) ∧ W.cell? ⟨g19, 7, none⟩ = some (.string (ofL rq.und.key)) ∧ W.cell? ⟨g19, 8, none⟩ = some (.string (ofL rq.und.val)) ∧ W.cell? ⟨g19, 9, none⟩ = some (.slice B2 rq.opn.length d2) ∧ W.cell? ⟨g19, 10, none⟩ = some (.slice B3 rq.dty.length d3)) ∧ (W.cell? ⟨gu, 0, none⟩ = some (.slice (some ⟨gl, 0, none⟩) M.length cl) ∧ W.cell? ⟨gu, 1, none⟩ = some (.slice (some ⟨gs, 0, none⟩) M.length cs)) ∧ (W.cell? ⟨gs, q, none⟩ = some (.int .i64 st)) ∧ (W.cell? ⟨gl, q * 11, none⟩ = some (.int .i64 rq.kind) ∧ W.cell? ⟨gl, q * 11 + 1, none⟩ = some (.int .i64 rq.deal) ∧ W.cell? ⟨gl, q * 11 + 2, none⟩ = some (.int .i64 rq.prev) ∧ W.cell? ⟨gl, q * 11 + 3, none⟩ = some (.int .i64 rq.next) ∧ W.cell? ⟨gl, q * 11 + 4, none⟩ = some (qv0.1) ∧ W.cell? ⟨gl, q * 11 + 5, none⟩ = some (.int .i64 rq.und.kind) ∧ W.cell? ⟨gl, q * 11 + 6, none⟩ = some (.int .i64 rq.und.tree) ∧ W.cell? ⟨gl, q * 11 + 7, none⟩ = some (.string (ofL rq.und.key)) ∧ W.cell? ⟨gl, q * 11 + 8, none⟩ = some (.string (ofL rq.und.val)) ∧ W.cell? ⟨gl, q * 11 + 9, none⟩ = some (qv0.2.1) ∧ W.cell? ⟨gl, q * 11 + 10, none⟩ = some (qv0.2.2))) := Lib.hid fun W h => by rw [hst]; exact HOW.out W h
              clear hnx hle hst
              have hbb : (sb != sb) = false := by simp
              have T1 : Hid (Own w No wz (Asn.blk g19 45 #[.int .i64 rq.kind, .int .i64 rq.deal, .int .i64 rq.prev, .int .i64 rq.next, .slice B1 rq.pages.length d1, .int .i64 rq.und.kind, .int .i64 rq.und.tree, .string (ofL rq.und.key), .string (ofL rq.und.val), .slice B2 rq.opn.length d2, .slice B3 rq.dty.length d3] * (aLists rq (.slice B1 rq.pages.length d1, .slice B2 rq.opn.length d2, .slice B3 rq.dty.length d3) * (aLg g gr m K v (recsOf M) safe held * (Asn.blk gx 47 #[.int .i64 kd, .int .i64 nn, .int .i64 rd.kind, .int .i64 rd.deal, .int .i64 rd.prev, .int .i64 rd.next, .slice A1 rd.pages.length n1, .int .i64 rd.und.kind, .int .i64 rd.und.tree, .string (ofL rd.und.key), .string (ofL rd.und.val), .slice A2 rd.opn.length n2, .slice A3 rd.dty.length n3] * (Aq * (aUl gu (.slice (some ⟨gl, 0, none⟩) M.length cl) (.slice (some ⟨gs, 0, none⟩) M.length cs) M safe held K * Y))))))) := T1
              generalize hOW : (Asn.blk g19 45 #[.int .i64 rq.kind, .int .i64 rq.deal, .int .i64 rq.prev, .int .i64 rq.next, .slice B1 rq.pages.length d1, .int .i64 rq.und.kind, .int .i64 rq.und.tree, .string (ofL rq.und.key), .string (ofL rq.und.val), .slice B2 rq.opn.length d2, .slice B3 rq.dty.length d3] * (aLists rq (.slice B1 rq.pages.length d1, .slice B2 rq.opn.length d2, .slice B3 rq.dty.length d3) * (aLg g gr m K v (recsOf M) safe held * (Asn.blk gx 47 #[.int .i64 kd, .int .i64 nn, .int .i64 rd.kind, .int .i64 rd.deal, .int .i64 rd.prev, .int .i64 rd.next, .slice A1 rd.pages.length n1, .int .i64 rd.und.kind, .int .i64 rd.und.tree, .string (ofL rd.und.key), .string (ofL rd.und.val), .slice A2 rd.opn.length n2, .slice A3 rd.dty.length n3] * (Aq * (aUl gu (.slice (some ⟨gl, 0, none⟩) M.length cl) (.slice (some ⟨gs, 0, none⟩) M.length cs) M safe held K * Y)))))) = OW at *
              have F1 : Hid (∀ W, Hid (Own w No W OW) → (W.cell? ⟨g19, 0, none⟩ = some (.int .i64 rq.kind) ∧ W.cell? ⟨g19, 1, none⟩ = some (.int .i64 rq.deal) ∧ W.cell? ⟨g19, 2, none⟩ = some (.int .i64 rq.prev) ∧ W.cell? ⟨g19, 3, none⟩ = some (.int .i64 rq.next) ∧ W.cell? ⟨g19, 4, none⟩ = some (.slice B1 rq.pages.length d1) ∧ W.cell? ⟨g19, 5, none⟩ = some (.int .i64 rq.und.kind) ∧ W.cell? ⟨g19, 6, none⟩ = some (.int .i64 rq.und.tree) ∧ W.cell? ⟨g19, 7, none⟩ = some (.string (ofL rq.und.key)) ∧ W.cell? ⟨g19, 8, none⟩ = some (.string (ofL rq.und.val)) ∧ W.cell? ⟨g19, 9, none⟩ = some (.slice B2 rq.opn.length d2) ∧ W.cell? ⟨g19, 10, none⟩ = some (.slice B3 rq.dty.length d3)) ∧ (W.cell? ⟨gu, 0, none⟩ = some (.slice (some ⟨gl, 0, none⟩) M.length cl) ∧ W.cell? ⟨gu, 1, none⟩ = some (.slice (some ⟨gs, 0, none⟩) M.length cs)) ∧ (W.cell? ⟨gs, q, none⟩ = some (.int .i64 st)) ∧ (W.cell? ⟨gl, q * 11, none⟩ = some (.int .i64 rq.kind) ∧ W.cell? ⟨gl, q * 11 + 1, none⟩ = some (.int .i64 rq.deal) ∧ W.cell? ⟨gl, q * 11 + 2, none⟩ = some (.int .i64 rq.prev) ∧ W.cell? ⟨gl, q * 11 + 3, none⟩ = some (.int .i64 rq.next) ∧ W.cell? ⟨gl, q * 11 + 4, none⟩ = some (qv0.1) ∧ W.cell? ⟨gl, q * 11 + 5, none⟩ = some (.int .i64 rq.und.kind) ∧ W.cell? ⟨gl, q * 11 + 6, none⟩ = some (.int .i64 rq.und.tree) ∧ W.cell? ⟨gl, q * 11 + 7, none⟩ = some (.string (ofL rq.und.key)) ∧ W.cell? ⟨gl, q * 11 + 8, none⟩ = some (.string (ofL rq.und.val)) ∧ W.cell? ⟨gl, q * 11 + 9, none⟩ = some (qv0.2.1) ∧ W.cell? ⟨gl, q * 11 + 10, none⟩ = some (qv0.2.2))) := Lib.hid fun W h => HOW.out W h.out
              have SD := Lib.hid T1.out.drew
              have t0 := F1.out _ SD
              clear T1 HOW
              have hij : (q : Int) < (M.length : Int) := by omega
              go_region_held3 (fun W => ((W.cell? ⟨g19, 0, none⟩ = some (.int .i64 rq.kind) ∧ W.cell? ⟨g19, 1, none⟩ = some (.int .i64 rq.deal) ∧ W.cell? ⟨g19, 2, none⟩ = some (.int .i64 rq.prev) ∧ W.cell? ⟨g19, 3, none⟩ = some (.int .i64 rq.next) ∧ W.cell? ⟨g19, 4, none⟩ = some (.slice B1 rq.pages.length d1) ∧ W.cell? ⟨g19, 5, none⟩ = some (.int .i64 rq.und.kind) ∧ W.cell? ⟨g19, 6, none⟩ = some (.int .i64 rq.und.tree) ∧ W.cell? ⟨g19, 7, none⟩ = some (.string (ofL rq.und.key)) ∧ W.cell? ⟨g19, 8, none⟩ = some (.string (ofL rq.und.val)) ∧ W.cell? ⟨g19, 9, none⟩ = some (.slice B2 rq.opn.length d2) ∧ W.cell? ⟨g19, 10, none⟩ = some (.slice B3 rq.dty.length d3)) ∧ (W.cell? ⟨gu, 0, none⟩ = some (.slice (some ⟨gl, 0, none⟩) M.length cl) ∧ W.cell? ⟨gu, 1, none⟩ = some (.slice (some ⟨gs, 0, none⟩) M.length cs)) ∧ (W.cell? ⟨gs, q, none⟩ = some (.int .i64 st)) ∧ (W.cell? ⟨gl, q * 11, none⟩ = some (.int .i64 rq.kind) ∧ W.cell? ⟨gl, q * 11 + 1, none⟩ = some (.int .i64 rq.deal) ∧ W.cell? ⟨gl, q * 11 + 2, none⟩ = some (.int .i64 rq.prev) ∧ W.cell? ⟨gl, q * 11 + 3, none⟩ = some (.int .i64 rq.next) ∧ W.cell? ⟨gl, q * 11 + 4, none⟩ = some (qv0.1) ∧ W.cell? ⟨gl, q * 11 + 5, none⟩ = some (.int .i64 rq.und.kind) ∧ W.cell? ⟨gl, q * 11 + 6, none⟩ = some (.int .i64 rq.und.tree) ∧ W.cell? ⟨gl, q * 11 + 7, none⟩ = some (.string (ofL rq.und.key)) ∧ W.cell? ⟨gl, q * 11 + 8, none⟩ = some (.string (ofL rq.und.val)) ∧ W.cell? ⟨gl, q * 11 + 9, none⟩ = some (qv0.2.1) ∧ W.cell? ⟨gl, q * 11 + 10, none⟩ = some (qv0.2.2))) ∧ Hid (Own w No W OW)) (first | exact ⟨t0, SD⟩ | exact ⟨t20, s20⟩) (first | (go_at_call 21; have sx : Hid (Own w No _ OW) := (by assumption); refine (HSM.out _ sx.out).mono ?_; rintro e w20 ⟨rfl, hb20⟩; have s20 : Hid (Own w No _ OW) := Lib.hid hb20; have t20 := F1.out _ s20) | (go_at_call 22; have sx : Hid (Own w No _ OW) := (by assumption); refine (HSF.out _ sx.out).mono ?_; rintro e w20 ⟨rfl, hb20⟩; have s20 : Hid (Own w No _ OW) := Lib.hid hb20; have t20 := F1.out _ s20) | (go_at_call 16; have sx : Hid (Own w No _ OW) := (by assumption); refine (HUF.out _ sx.out).mono ?_; rintro e w20 ⟨rfl, hb20⟩; have s20 : Hid (Own w No _ OW) := Lib.hid hb20; have t20 := F1.out _ s20) | (go_at_call 23; have sx : Hid (Own w No _ OW) := (by assumption); refine (HLA.out _ sx.out).mono ?_; rintro e w20 ⟨rfl, hb20⟩; have s20 : Hid (Own w No _ OW) := Lib.hid hb20; have t20 := F1.out _ s20))
              have SX := s20
              clear t0 t20 sx s20 SD hb20 F1 HSM HSF HUF HLA
              subst hOW
              subst hAq
              clear hij
              go_wp2_with fail
              go_roundw
              case rel => exact ⟨q + 1, hlt, by go_num, Lib.hid (own_front SX.out.right.right)⟩
              case measure => simp [intOf]; omega
          · by_cases hex : ∃ j, j < M.length ∧ (at_ (recsOf M) j : Int) = nn
            · obtain ⟨j, hj, hje⟩ := hex
              obtain ⟨⟨rj, qj⟩, hmj⟩ : ∃ y, M[j]? = some y := ⟨M[j]'hj, List.getElem?_eq_getElem _⟩
              have hrj : (recsOf M)[j]? = some rj := by unfold recsOf; rw [List.getElem?_map, hmj]; rfl
              obtain ⟨hgj, -⟩ := HC.out _ (List.mem_of_getElem? hmj)
              have HAt := Lib.hid (fun w1 C h => At_hit g gr m K v (recsOf M) safe held j rj hrj hgj w w1 C HT.out h)
              have HF2 := Lib.hid (qUFind gu (.slice AL M.length cl) (.slice AS M.length cs) M safe held K j (at_ (recsOf M) j) (Or.inr ⟨j, rfl, hj, rfl⟩))
              rw [hje] at HAt HF2
              unfold lPtr at HAt
              unfold uPtr at HF2
              clear hje hrj hmj hgj
              as_aux_lemma =>
                obtain ⟨⟨l0, l1, l2, l3, l4, l5⟩, fz0, fz1, fz2, fz3, fz4⟩ := ul_cells (X.out.has (Has.r (Has.r (Has.r (Has.l (Has.l (has_blk gu 38 (ulRow (.slice AL M.length cl) (.slice AS M.length cs) (flat (recsOf M)).length safe held K))))))))
                obtain ⟨c0, c1, c2, c3, c4, c5, c6, c7, c8, c9, c10, c11, c12⟩ := thirteen (X.out.has (Has.l (has_blk _ _ _)))
                go_wp2_with fail
                refine (HAt.out _ _ (own_front X.out)).mono ?_
                rintro e wy ⟨⟨y1, y2, y3⟩, rfl, hX⟩
                obtain ⟨B1, d1, rfl⟩ := hX.left.vec.slice
                obtain ⟨B2, d2, rfl⟩ := hX.left.right.vec.slice
                obtain ⟨B3, d3, rfl⟩ := hX.left.right.vecR.slice
                have X6 := Lib.hid ((own_front hX.right).alloc (recCells rj (.slice B1 rj.pages.length d1) (.slice B2 rj.opn.length d2) (.slice B3 rj.dty.length d3)) 45).right
                clear hX X HAt l0 l1 l2 l3 l4 l5 fz0 fz1 fz2 fz3 fz4 c0 c1 c2 c3 c4 c5 c6 c7 c8 c9 c10 c11 c12
                unfold recV recCells at *
                dsimp only at *
                go_upto_region 62 with fail
                generalize wy.alloc _ = wz at *
                obtain ⟨c0, c1, c2, c3, c4, c5, c6, c7, c8, c9, c10, c11, c12⟩ := thirteen (X6.out.has (Has.l (has_blk _ _ _)))
                go_wp2_with fail
                refine (X6.out.ask HF2.out.l.r.r.r).mono ?_
                rintro e wq ⟨rfl, k, rfl⟩
                have X7 := Lib.hid (X6.out.drewN k)
                clear X6 HF2 c0 c1 c2 c3 c4 c5 c6 c7 c8 c9 c10 c11 c12
                generalize wz.drewN k = wq at *
                go_wp2_with fail
                go_roundg (40 - (r + 1))
                case measure => omega
                case rel => exact ⟨r + 1, v, _, _, M, safe, held, by omega, by omega, rfl, by go_num, by omega, hfit, hsf, HC, Lib.hid X7.out.right⟩
            · have hx : ∀ j, j < M.length → (at_ (recsOf M) j : Int) ≠ nn := fun j hj he => hex ⟨j, hj, he⟩
              have HAt := Lib.hid (tAt_miss g gr m K v (recsOf M) safe held nn (fun k hk => hx k (by rw [rec_len] at hk; exact hk)))
              have HF2 := Lib.hid (qUFind gu (.slice AL M.length cl) (.slice AS M.length cs) M safe held K (-1) nn (Or.inl ⟨rfl, hx⟩))
              clear hex hx
              unfold lPtr at HAt
              unfold uPtr at HF2
              as_aux_lemma =>
                obtain ⟨⟨l0, l1, l2, l3, l4, l5⟩, fz0, fz1, fz2, fz3, fz4⟩ := ul_cells (X.out.has (Has.r (Has.r (Has.r (Has.l (Has.l (has_blk gu 38 (ulRow (.slice AL M.length cl) (.slice AS M.length cs) (flat (recsOf M)).length safe held K))))))))
                obtain ⟨c0, c1, c2, c3, c4, c5, c6, c7, c8, c9, c10, c11, c12⟩ := thirteen (X.out.has (Has.l (has_blk _ _ _)))
                go_wp2_with fail
                refine (X.out.call HAt.out.l.r).mono ?_
                rintro e wy ⟨rfl, hX⟩
                have X6 := Lib.hid (hX.alloc zeroCells 45).right
                clear hX X HAt l0 l1 l2 l3 l4 l5 fz0 fz1 fz2 fz3 fz4 c0 c1 c2 c3 c4 c5 c6 c7 c8 c9 c10 c11 c12
                unfold zeroCells at *
                go_upto_region 62 with fail
                generalize wy.alloc _ = wz at *
                obtain ⟨c0, c1, c2, c3, c4, c5, c6, c7, c8, c9, c10, c11, c12⟩ := thirteen (X6.out.has (Has.l (has_blk _ _ _)))
                go_wp2_with fail
                refine (X6.out.ask HF2.out.l.r.r.r).mono ?_
                rintro e wq ⟨rfl, k, rfl⟩
                have X7 := Lib.hid (X6.out.drewN k)
                clear X6 HF2 c0 c1 c2 c3 c4 c5 c6 c7 c8 c9 c10 c11 c12
                generalize wz.drewN k = wq at *
                go_wp2_with fail
                go_roundg (40 - (r + 1))
                case measure => omega
                case rel => exact ⟨r + 1, v, _, _, M, safe, held, by omega, by omega, rfl, by go_num, by omega, hfit, hsf, HC, Lib.hid X7.out.right⟩
    · have HB := Lib.hid hS.out.bel
      clear hS HC
      by_cases i1 : r < m1
      · have i2 : (40 : Int) ≤ (r : Int) := by omega
        clear hlt
        go_wp2_with fail
        go_returns
        exact ⟨rfl, HB.out⟩
      · clear hlt
        go_wp2_with fail
        go_returns
        exact ⟨rfl, HB.out⟩
end Go.Proofs.YtaacinhmgmmcaaaDoor.Nt
