/- Same. -/
import Derived.Test.YtaacinhmgmmcaaaDoorNtS
import Derived.Deep.CutBlock
namespace Go.Proofs.YtaacinhmgmmcaaaDoor.Nt
open Go.ChangeShapes Go.WideShapes Go.ChangeAt Go.RowKit Go.PlainAid Aid Cr
set_option linter.unusedVariables false
set_option linter.unusedSimpArgs false
deriving instance DecidableEq for Und
deriving instance DecidableEq for Rec
theorem take_step {α : Type} (a b : List α) (k : Nat) (x y : α) (hx : a[k]? = some x) (hy : b[k]? = some y) (h : a.take k = b.take k) (e : x = y) : a.take (k + 1) = b.take (k + 1) := by
  rw [List.take_add_one, List.take_add_one, hx, hy, h, e]
theorem take_full {α : Type} (a b : List α) (n : Nat) (ha : n = a.length) (hb : n = b.length) (h : a.take n = b.take n) : a = b := by
  rw [List.take_of_length_le (by omega), List.take_of_length_le (by omega)] at h; exact h
theorem not_at {α : Type} (a b : List α) (k : Nat) (x y : α) (hx : a[k]? = some x) (hy : b[k]? = some y) (e : ¬ x = y) : ¬ a = b := by
  intro h; rw [h, hy] at hx; exact e (Option.some.inj hx).symm
set_option maxRecDepth 100000 in
set_option maxHeartbeats 16000000 in
theorem Same_any (a b : Rec) (va vb : Value) (w : World) (hva : RecAt w va a) (hvb : RecAt w vb b) :
    Calls Tryd.prog 21 #[va, vb] w fun e w' => e = .returned (.bool (decide (a = b))) ∧ Below w.heap.size w w' := by
  obtain ⟨p, o, d, rfl, hp, ho, hd⟩ := hva
  obtain ⟨p', o', d', rfl, hp', ho', hd'⟩ := hvb
  obtain ⟨A1, m1, rfl⟩ := hp.slice
  obtain ⟨A2, m2, rfl⟩ := ho.slice
  obtain ⟨A3, m3, rfl⟩ := hd.slice
  obtain ⟨B1, n1, rfl⟩ := hp'.slice
  obtain ⟨B2, n2, rfl⟩ := ho'.slice
  obtain ⟨B3, n3, rfl⟩ := hd'.slice
  have hm1 := hp.len.2
  have hm2 := ho.len.2
  have hm3 := hd.len.2
  have hn1 := hp'.len.2
  have hn2 := ho'.len.2
  have hn3 := hd'.len.2
  unfold maxLen at hm1 hm2 hm3 hn1 hn2 hn3
  obtain ⟨ak, ad, ap, an, apg, ⟨auk, aut, aky, avl⟩, aop, ady⟩ := a
  obtain ⟨bk, bd, bp, bn, bpg, ⟨buk, but, bky, bvl⟩, bop, bdy⟩ := b
  dsimp only at *
  obtain ⟨R, hR⟩ : ∃ R : Bool, R = decide ((⟨ak, ad, ap, an, apg, ⟨auk, aut, aky, avl⟩, aop, ady⟩ : Rec) = ⟨bk, bd, bp, bn, bpg, ⟨buk, but, bky, bvl⟩, bop, bdy⟩) := ⟨_, rfl⟩
  rw [← hR]
  have h1 : R = decide (ak = bk ∧ ad = bd ∧ ap = bp ∧ an = bn ∧ apg = bpg ∧ (auk = buk ∧ aut = but ∧ aky = bky ∧ avl = bvl) ∧ aop = bop ∧ ady = bdy) := by
    rw [hR]; simp only [Rec.mk.injEq, Und.mk.injEq]
  have HR := Lib.hid h1
  have HP := Lib.hid hp; have HO := Lib.hid ho; have HD := Lib.hid hd; have HP' := Lib.hid hp'; have HO' := Lib.hid ho'; have HD' := Lib.hid hd'
  have hsz : ∀ cs T, (w.alloc (.cells cs T)).heap.size = w.heap.size + 1 := fun cs T => by simp
  have S := Lib.hid ((((Own.none w).alloc (recCells ⟨ak, ad, ap, an, apg, ⟨auk, aut, aky, avl⟩, aop, ady⟩ (.slice A1 apg.length m1) (.slice A2 aop.length m2) (.slice A3 ady.length m3)) 45).left).alloc (recCells ⟨bk, bd, bp, bn, bpg, ⟨buk, but, bky, bvl⟩, bop, bdy⟩ (.slice B1 bpg.length n1) (.slice B2 bop.length n2) (.slice B3 bdy.length n3)) 45)
  rw [hsz] at S
  clear hp ho hd hp' ho' hd' hR h1 hsz
  obtain ⟨La1, la1⟩ : ∃ n, n = apg.length := ⟨_, rfl⟩
  obtain ⟨Lb1, lb1⟩ : ∃ n, n = bpg.length := ⟨_, rfl⟩
  rw [← la1] at hm1
  rw [← lb1] at hn1
  obtain ⟨La2, la2⟩ : ∃ n, n = aop.length := ⟨_, rfl⟩
  obtain ⟨Lb2, lb2⟩ : ∃ n, n = bop.length := ⟨_, rfl⟩
  rw [← la2] at hm2
  rw [← lb2] at hn2
  obtain ⟨La3, la3⟩ : ∃ n, n = ady.length := ⟨_, rfl⟩
  obtain ⟨Lb3, lb3⟩ : ∃ n, n = bdy.length := ⟨_, rfl⟩
  rw [← la3] at hm3
  rw [← lb3] at hn3
  rw [← la1] at HP; rw [← la2] at HO; rw [← la3] at HD; rw [← lb1] at HP'; rw [← lb2] at HO'; rw [← lb3] at HD'
  rw [← la1, ← la2, ← la3, ← lb1, ← lb2, ← lb3] at S ⊢
  have LA1 := Lib.hid la1; have LA2 := Lib.hid la2; have LA3 := Lib.hid la3; have LB1 := Lib.hid lb1; have LB2 := Lib.hid lb2; have LB3 := Lib.hid lb3
  clear la1 la2 la3 lb1 lb2 lb3
  unfold recCells at *
  dsimp only at *
  have hk1 : ∀ x y : By, ¬ x = y → ((ofL x).toList == (ofL y).toList) = false := fun x y h => by rw [str_eq, decide_eq_false (fun e => h (ofL_inj e))]
  have HK := Lib.hid hk1
  clear hk1
  go_enter Tryd.func21, Tryd.ntmps21
  go_upto_region 1 with fail
  obtain ⟨g2, hg2⟩ : ∃ g, g = w.heap.size + 1 := ⟨_, rfl⟩
  rw [← hg2] at S ⊢
  obtain ⟨g1, hg1⟩ : ∃ g, g = w.heap.size := ⟨_, rfl⟩
  rw [← hg1] at S ⊢
  clear hg1 hg2
  generalize (w.alloc _).alloc _ = w1 at *
  obtain ⟨⟨c0, c1, c2, c3, c4, c5, c6, c7, c8, c9, c10⟩, -⟩ := eleven (S.out.has (Has.r (has_blk _ _ _)))
  obtain ⟨⟨e0, e1, e2, e3, e4, e5, e6, e7, e8, e9, e10⟩, -⟩ := eleven (S.out.has (Has.l (has_blk _ _ _)))
  by_cases q : ak = bk
  case neg =>
    go_wp2_with fail
    go_returns
    exact ⟨ret_bool (by rw [HR.out, decide_eq_false]; rintro ⟨h, -⟩; exact q h), S.out.bel⟩
  subst q
  by_cases q : ad = bd
  case neg =>
    go_wp2_with fail
    go_returns
    exact ⟨ret_bool (by rw [HR.out, decide_eq_false]; rintro ⟨-, h, -⟩; exact q h), S.out.bel⟩
  subst q
  by_cases q : ap = bp
  case neg =>
    go_wp2_with fail
    go_returns
    exact ⟨ret_bool (by rw [HR.out, decide_eq_false]; rintro ⟨-, -, h, -⟩; exact q h), S.out.bel⟩
  subst q
  by_cases q : an = bn
  case neg =>
    go_wp2_with fail
    go_returns
    exact ⟨ret_bool (by rw [HR.out, decide_eq_false]; rintro ⟨-, -, -, h, -⟩; exact q h), S.out.bel⟩
  subst q
  by_cases q : auk = buk
  case neg =>
    go_wp2_with fail
    go_returns
    exact ⟨ret_bool (by rw [HR.out, decide_eq_false]; rintro ⟨-, -, -, -, -, ⟨h, -⟩, -⟩; exact q h), S.out.bel⟩
  subst q
  by_cases q : aut = but
  case neg =>
    go_wp2_with fail
    go_returns
    exact ⟨ret_bool (by rw [HR.out, decide_eq_false]; rintro ⟨-, -, -, -, -, ⟨-, h, -⟩, -⟩; exact q h), S.out.bel⟩
  subst q
  by_cases q : aky = bky
  case neg =>
    have hq := HK.out _ _ q
    go_wp2_with fail
    go_returns
    exact ⟨ret_bool (by rw [HR.out, decide_eq_false]; rintro ⟨-, -, -, -, -, ⟨-, -, h, -⟩, -⟩; exact q h), S.out.bel⟩
  subst q
  by_cases q : avl = bvl
  case neg =>
    have hq := HK.out _ _ q
    go_wp2_with fail
    go_returns
    exact ⟨ret_bool (by rw [HR.out, decide_eq_false]; rintro ⟨-, -, -, -, -, ⟨-, -, -, h⟩, -⟩; exact q h), S.out.bel⟩
  subst q
  by_cases q : La1 = Lb1
  case neg =>
    go_wp2_with fail
    go_returns
    exact ⟨ret_bool (by rw [HR.out, decide_eq_false]; rintro ⟨-, -, -, -, h, -⟩; exact q (by rw [LA1.out, LB1.out, h])), S.out.bel⟩
  subst q
  by_cases q : La2 = Lb2
  case neg =>
    go_wp2_with fail
    go_returns
    exact ⟨ret_bool (by rw [HR.out, decide_eq_false]; rintro ⟨-, -, -, -, -, -, h, -⟩; exact q (by rw [LA2.out, LB2.out, h])), S.out.bel⟩
  subst q
  by_cases q : La3 = Lb3
  case neg =>
    go_wp2_with fail
    go_returns
    exact ⟨ret_bool (by rw [HR.out, decide_eq_false]; rintro ⟨-, -, -, -, -, -, -, h⟩; exact q (by rw [LA3.out, LB3.out, h])), S.out.bel⟩
  subst q
  go_wp2_with fail
  clear c0 c1 c2 c3 c4 c5 c6 c7 c8 c9 c10 e0 e1 e2 e3 e4 e5 e6 e7 e8 e9 e10
  go_loopw [5] (fun i wr => ∃ k : Nat, k ≤ La1 ∧ i = .int .i64 k ∧ Hid (apg.take k = bpg.take k) ∧ Hid (Own w No wr (Asn.blk g2 45 #[.int .i64 ak, .int .i64 ad, .int .i64 ap, .int .i64 an, .slice B1 La1 n1, .int .i64 auk, .int .i64 aut, .string (ofL aky), .string (ofL avl), .slice B2 La2 n2, .slice B3 La3 n3] * Asn.blk g1 45 #[.int .i64 ak, .int .i64 ad, .int .i64 ap, .int .i64 an, .slice A1 La1 m1, .int .i64 auk, .int .i64 aut, .string (ofL aky), .string (ofL avl), .slice A2 La2 m2, .slice A3 La3 m3]))) (fun i _ => La1 - (intOf i).toNat)
  case atStart => exact ⟨0, Nat.zero_le _, rfl, Lib.hid rfl, S⟩
  case round =>
    clear S
    obtain ⟨k, hk, rfl, hT, S⟩ := hrel
    obtain ⟨⟨-, -, -, -, c4, -, -, -, -, c9, c10⟩, -⟩ := eleven (S.out.has (Has.r (has_blk _ _ _)))
    obtain ⟨⟨-, -, -, -, e4, -, -, -, -, e9, e10⟩, -⟩ := eleven (S.out.has (Has.l (has_blk _ _ _)))
    by_cases hlt : k < La1
    · have hla := LA1.out
      have hlb := LB1.out
      obtain ⟨x, hx⟩ : ∃ x, apg[k]? = some x := ⟨apg[k]'(by omega), List.getElem?_eq_getElem _⟩
      obtain ⟨y, hy⟩ : ∃ x, bpg[k]? = some x := ⟨bpg[k]'(by omega), List.getElem?_eq_getElem _⟩
      clear hla hlb
      obtain ⟨ba, oa, rfl, hba, x0, x1⟩ := (HP.out.keep S.out.bel).at hx
      obtain ⟨bb, ob, rfl, hbb, y0, y1⟩ := (HP'.out.keep S.out.bel).at hy
      obtain ⟨xa, xb⟩ := x
      obtain ⟨ya, yb⟩ := y
      unfold fImg at x0 x1 y0 y1
      dsimp only at x0 x1 y0 y1
      have TS := Lib.hid (take_step apg bpg k _ _ hx hy hT.out)
      have NA := Lib.hid (not_at apg bpg k _ _ hx hy)
      clear hx hy hT
      by_cases q1 : xa = ya
      case neg =>
        go_wp2_with fail
        go_quiet (fail)
        have S2 := Lib.hid (S.out.drewN nq)
        clear S c4 c9 c10 e4 e9 e10 x0 x1 y0 y1
        generalize wr.drewN nq = w2 at *
        go_wp2_with fail
        go_returns
        exact ⟨ret_bool (by rw [HR.out, decide_eq_false]; rintro ⟨-, -, -, -, h, -⟩; exact NA.out (fun e => q1 (congrArg Prod.fst e)) h), S2.out.bel⟩
      subst q1
      by_cases q2 : xb = yb
      case neg =>
        have hq := HK.out _ _ q2
        go_wp2_with fail
        go_quiet (fail)
        have S2 := Lib.hid (S.out.drewN nq)
        clear S c4 c9 c10 e4 e9 e10 x0 x1 y0 y1
        generalize wr.drewN nq = w2 at *
        go_wp2_with fail
        go_returns
        exact ⟨ret_bool (by rw [HR.out, decide_eq_false]; rintro ⟨-, -, -, -, h, -⟩; exact NA.out (fun e => q2 (congrArg Prod.snd e)) h), S2.out.bel⟩
      subst q2
      have TT := Lib.hid (TS.out rfl)
      clear TS NA
      go_wp2_with fail
      go_quiet (fail)
      have S2 := Lib.hid (S.out.drewN nq)
      clear S c4 c9 c10 e4 e9 e10 x0 x1 y0 y1
      generalize wr.drewN nq = w2 at *
      go_wp2_with fail
      go_round
      case rel => exact ⟨k + 1, by omega, by go_num, TT, S2⟩
      case measure => simp [intOf]; omega
    · have hke : k = La1 := by omega
      have EQ5 := Lib.hid (take_full apg bpg k (hke.trans LA1.out) (hke.trans LB1.out) hT.out)
      clear hke
      go_wp2_with fail
      go_loopw [6] (fun i wr => ∃ k : Nat, k ≤ La2 ∧ i = .int .i64 k ∧ Hid (aop.take k = bop.take k) ∧ Hid (Own w No wr (Asn.blk g2 45 #[.int .i64 ak, .int .i64 ad, .int .i64 ap, .int .i64 an, .slice B1 La1 n1, .int .i64 auk, .int .i64 aut, .string (ofL aky), .string (ofL avl), .slice B2 La2 n2, .slice B3 La3 n3] * Asn.blk g1 45 #[.int .i64 ak, .int .i64 ad, .int .i64 ap, .int .i64 an, .slice A1 La1 m1, .int .i64 auk, .int .i64 aut, .string (ofL aky), .string (ofL avl), .slice A2 La2 m2, .slice A3 La3 m3]))) (fun i _ => La2 - (intOf i).toNat)
      case atStart => exact ⟨0, Nat.zero_le _, rfl, Lib.hid rfl, S⟩
      case round =>
        clear S
        obtain ⟨k, hk, rfl, hT, S⟩ := hrel
        obtain ⟨⟨-, -, -, -, c4, -, -, -, -, c9, c10⟩, -⟩ := eleven (S.out.has (Has.r (has_blk _ _ _)))
        obtain ⟨⟨-, -, -, -, e4, -, -, -, -, e9, e10⟩, -⟩ := eleven (S.out.has (Has.l (has_blk _ _ _)))
        by_cases hlt : k < La2
        · have hla := LA2.out
          have hlb := LB2.out
          obtain ⟨x, hx⟩ : ∃ x, aop[k]? = some x := ⟨aop[k]'(by omega), List.getElem?_eq_getElem _⟩
          obtain ⟨y, hy⟩ : ∃ x, bop[k]? = some x := ⟨bop[k]'(by omega), List.getElem?_eq_getElem _⟩
          clear hla hlb
          obtain ⟨ba, oa, rfl, hba, x0, x1⟩ := (HO.out.keep S.out.bel).at hx
          obtain ⟨bb, ob, rfl, hbb, y0, y1⟩ := (HO'.out.keep S.out.bel).at hy
          obtain ⟨xa, xb⟩ := x
          obtain ⟨ya, yb⟩ := y
          unfold fNum at x0 x1 y0 y1
          dsimp only at x0 x1 y0 y1
          have TS := Lib.hid (take_step aop bop k _ _ hx hy hT.out)
          have NA := Lib.hid (not_at aop bop k _ _ hx hy)
          clear hx hy hT
          by_cases q1 : xa = ya
          case neg =>
            go_wp2_with fail
            go_quiet (fail)
            have S2 := Lib.hid (S.out.drewN nq)
            clear S c4 c9 c10 e4 e9 e10 x0 x1 y0 y1
            generalize wr.drewN nq = w2 at *
            go_wp2_with fail
            go_returns
            exact ⟨ret_bool (by rw [HR.out, decide_eq_false]; rintro ⟨-, -, -, -, -, -, h, -⟩; exact NA.out (fun e => q1 (congrArg Prod.fst e)) h), S2.out.bel⟩
          subst q1
          by_cases q2 : xb = yb
          case neg =>
            go_wp2_with fail
            go_quiet (fail)
            have S2 := Lib.hid (S.out.drewN nq)
            clear S c4 c9 c10 e4 e9 e10 x0 x1 y0 y1
            generalize wr.drewN nq = w2 at *
            go_wp2_with fail
            go_returns
            exact ⟨ret_bool (by rw [HR.out, decide_eq_false]; rintro ⟨-, -, -, -, -, -, h, -⟩; exact NA.out (fun e => q2 (congrArg Prod.snd e)) h), S2.out.bel⟩
          subst q2
          have TT := Lib.hid (TS.out rfl)
          clear TS NA
          go_wp2_with fail
          go_quiet (fail)
          have S2 := Lib.hid (S.out.drewN nq)
          clear S c4 c9 c10 e4 e9 e10 x0 x1 y0 y1
          generalize wr.drewN nq = w2 at *
          go_wp2_with fail
          go_round
          case rel => exact ⟨k + 1, by omega, by go_num, TT, S2⟩
          case measure => simp [intOf]; omega
        · have hke : k = La2 := by omega
          have EQ6 := Lib.hid (take_full aop bop k (hke.trans LA2.out) (hke.trans LB2.out) hT.out)
          clear hke
          go_wp2_with fail
          go_loopw [7] (fun i wr => ∃ k : Nat, k ≤ La3 ∧ i = .int .i64 k ∧ Hid (ady.take k = bdy.take k) ∧ Hid (Own w No wr (Asn.blk g2 45 #[.int .i64 ak, .int .i64 ad, .int .i64 ap, .int .i64 an, .slice B1 La1 n1, .int .i64 auk, .int .i64 aut, .string (ofL aky), .string (ofL avl), .slice B2 La2 n2, .slice B3 La3 n3] * Asn.blk g1 45 #[.int .i64 ak, .int .i64 ad, .int .i64 ap, .int .i64 an, .slice A1 La1 m1, .int .i64 auk, .int .i64 aut, .string (ofL aky), .string (ofL avl), .slice A2 La2 m2, .slice A3 La3 m3]))) (fun i _ => La3 - (intOf i).toNat)
          case atStart => exact ⟨0, Nat.zero_le _, rfl, Lib.hid rfl, S⟩
          case round =>
            clear S
            obtain ⟨k, hk, rfl, hT, S⟩ := hrel
            obtain ⟨⟨-, -, -, -, c4, -, -, -, -, c9, c10⟩, -⟩ := eleven (S.out.has (Has.r (has_blk _ _ _)))
            obtain ⟨⟨-, -, -, -, e4, -, -, -, -, e9, e10⟩, -⟩ := eleven (S.out.has (Has.l (has_blk _ _ _)))
            by_cases hlt : k < La3
            · have hla := LA3.out
              have hlb := LB3.out
              obtain ⟨x, hx⟩ : ∃ x, ady[k]? = some x := ⟨ady[k]'(by omega), List.getElem?_eq_getElem _⟩
              obtain ⟨y, hy⟩ : ∃ x, bdy[k]? = some x := ⟨bdy[k]'(by omega), List.getElem?_eq_getElem _⟩
              clear hla hlb
              obtain ⟨ba, oa, rfl, hba, x0, x1⟩ := (HD.out.keep S.out.bel).at hx
              obtain ⟨bb, ob, rfl, hbb, y0, y1⟩ := (HD'.out.keep S.out.bel).at hy
              obtain ⟨xa, xb⟩ := x
              obtain ⟨ya, yb⟩ := y
              unfold fNum at x0 x1 y0 y1
              dsimp only at x0 x1 y0 y1
              have TS := Lib.hid (take_step ady bdy k _ _ hx hy hT.out)
              have NA := Lib.hid (not_at ady bdy k _ _ hx hy)
              clear hx hy hT
              by_cases q1 : xa = ya
              case neg =>
                go_wp2_with fail
                go_quiet (fail)
                have S2 := Lib.hid (S.out.drewN nq)
                clear S c4 c9 c10 e4 e9 e10 x0 x1 y0 y1
                generalize wr.drewN nq = w2 at *
                go_wp2_with fail
                go_returns
                exact ⟨ret_bool (by rw [HR.out, decide_eq_false]; rintro ⟨-, -, -, -, -, -, -, h⟩; exact NA.out (fun e => q1 (congrArg Prod.fst e)) h), S2.out.bel⟩
              subst q1
              by_cases q2 : xb = yb
              case neg =>
                go_wp2_with fail
                go_quiet (fail)
                have S2 := Lib.hid (S.out.drewN nq)
                clear S c4 c9 c10 e4 e9 e10 x0 x1 y0 y1
                generalize wr.drewN nq = w2 at *
                go_wp2_with fail
                go_returns
                exact ⟨ret_bool (by rw [HR.out, decide_eq_false]; rintro ⟨-, -, -, -, -, -, -, h⟩; exact NA.out (fun e => q2 (congrArg Prod.snd e)) h), S2.out.bel⟩
              subst q2
              have TT := Lib.hid (TS.out rfl)
              clear TS NA
              go_wp2_with fail
              go_quiet (fail)
              have S2 := Lib.hid (S.out.drewN nq)
              clear S c4 c9 c10 e4 e9 e10 x0 x1 y0 y1
              generalize wr.drewN nq = w2 at *
              go_wp2_with fail
              go_round
              case rel => exact ⟨k + 1, by omega, by go_num, TT, S2⟩
              case measure => simp [intOf]; omega
            · have hke : k = La3 := by omega
              have EQ7 := Lib.hid (take_full ady bdy k (hke.trans LA3.out) (hke.trans LB3.out) hT.out)
              clear hke
              go_wp2_with fail
              go_returns
              exact ⟨ret_bool (by rw [HR.out]; simp [EQ5.out, EQ6.out, EQ7.out]), S.out.bel⟩
end Go.Proofs.YtaacinhmgmmcaaaDoor.Nt
