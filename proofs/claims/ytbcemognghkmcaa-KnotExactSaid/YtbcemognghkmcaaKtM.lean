/- Any and Victim. -/
import Derived.Test.YtbcemognghkmcaaKtL
namespace Go.Proofs.Ytbcemognghkmcaa.Kt
open Go.ChangeShapes Go.WideShapes Go.ChangeAt Go.RowKit Go.PlainAid Aid
set_option linter.unusedVariables false
set_option linter.unusedSimpArgs false
def astep (K : Fe) (st : Int × Bool) (e : Edg) : Int × Bool := if dF K e.1 = dF K e.2 ∧ (st.2 = false ∨ e.1 < st.1) then (e.1, true) else st
def anyF (K : Fe) (es : List Edg) : Int × Bool := es.foldl (astep K) (0, false)
def anyL (es : List Edg) : Int × Bool := anyF (tiedF es) es
theorem anyF_snoc (K : Fe) (es : List Edg) (e : Edg) : anyF K (es ++ [e]) = astep K (anyF K es) e := by unfold anyF; rw [List.foldl_append]; rfl
set_option maxRecDepth 100000 in
set_option maxHeartbeats 16000000 in
theorem Any_any (A : Option Addr) (c : Nat) (es : List Edg) (w0 w : World) (C : Asn) (hS : Aid.Own w0 No w C) (hP : ∀ W X, Aid.Own w0 No W (X * C) → Prs W A es) (hn : es.length ≤ 900) (hw : Wf es) :
    Calls Try.prog 9 #[.slice A es.length c] w fun e w' => e = .returned (.tuple #[.int .i64 (anyL es).1, .bool (anyL es).2]) ∧ Aid.Own w0 No w' C := by
  obtain ⟨R, hR⟩ : ∃ R, R = anyL es := ⟨_, rfl⟩
  rw [← hR]
  have HR := Lib.hid hR
  have HP := Lib.hid hP
  have HW := Lib.hid hw
  have HS := Lib.hid hS
  clear hS hP hw hR
  go_enter Try.func9, Try.ntmps9
  go_wp2_with fail
  refine (tied_any A c es w0 w C HS.out HP.out hn HW.out).mono ?_
  rintro e w1 ⟨f, rfl, S1⟩
  have S1 := Lib.hid S1
  obtain ⟨K, hK⟩ : ∃ K, K = tiedF es := ⟨_, rfl⟩
  have HR1 : Hid (R = anyF K es) := Lib.hid (by rw [HR.out, hK]; rfl)
  rw [← hK] at S1
  clear hK HR HS
  go_wp2_with fail
  go_loopw [5, 6, 13] (fun b fo i wr => ∃ (k : Nat), k ≤ es.length ∧ i = .int .i64 k ∧ b = .int .i64 (anyF K (es.take k)).1 ∧ fo = .bool (anyF K (es.take k)).2 ∧ Hid (Aid.Own w0 No wr (aMap Try.prog 3 f (iE K) * C))) (fun _ _ i _ => es.length - (intOf i).toNat)
  case atStart => exact ⟨0, Nat.zero_le _, rfl, rfl, rfl, S1⟩
  case round =>
    clear S1
    obtain ⟨k, hk, rfl, rfl, rfl, S⟩ := hrel
    by_cases hlt : k < es.length
    · obtain ⟨x, hx⟩ : ∃ x, es[k]? = some x := ⟨es[k]'hlt, List.getElem?_eq_getElem _⟩
      have hxw := HW.out x (List.mem_of_getElem? hx)
      rcases HP.out _ _ S.out with e | ⟨b, o, hA, hb, hc⟩
      · rw [e] at hlt; simp at hlt
      subst hA
      obtain ⟨d0, d1⟩ := hc k x hx
      obtain ⟨st, hst⟩ : ∃ st, st = anyF K (es.take k) := ⟨_, rfl⟩
      have HNX : Hid (anyF K (es.take (k + 1)) = astep K st x) := Lib.hid (by rw [take_snoc es k x hx, anyF_snoc, hst])
      rw [← hst]
      have S2 := Lib.hid ((S.out.alloc #[.int .i64 x.1, .int .i64 x.2] 36))
      have S3 := Lib.hid S2.out.right
      clear hst hc hx hb S
      go_upto_region 6 with fail
      obtain ⟨ge, hgz⟩ : ∃ g, g = wr.heap.size := ⟨_, rfl⟩
      rw [← hgz] at S2 ⊢
      clear hgz d0 d1
      generalize wr.alloc _ = w2 at *
      have hbk := S2.out.has (Has.l (has_blk ge _ _))
      have d0 : w2.cell? ⟨ge, 0, none⟩ = some (.int .i64 x.1) := hbk.cell 0
      have d1 : w2.cell? ⟨ge, 1, none⟩ = some (.int .i64 x.2) := hbk.cell 1
      have l0 := look_f (S3.out.kn (At.l (at_map _ _ _ _))) x.1 hxw.1
      have l1 := look_f (S3.out.kn (At.l (at_map _ _ _ _))) x.2 hxw.2
      obtain ⟨b1, fo⟩ := st
      dsimp only
      clear hbk S2 hxw
      by_cases h1 : dF K x.1 = dF K x.2
      · have h1b : (dF K x.1 == dF K x.2) = true := by simpa using h1
        cases fo with
        | false =>
          have hs : anyF K (es.take (k + 1)) = (x.1, true) := by rw [HNX.out]; unfold astep; rw [if_pos ⟨h1, Or.inl rfl⟩]
          clear h1
          go_wp2_with fail
          go_roundw
          case rel => exact ⟨k + 1, by omega, by go_num, by rw [hs], by rw [hs], S3⟩
          case measure => simp [intOf]; omega
        | true =>
          by_cases h2 : x.1 < b1
          · have hs : anyF K (es.take (k + 1)) = (x.1, true) := by rw [HNX.out]; unfold astep; rw [if_pos ⟨h1, Or.inr h2⟩]
            clear h1
            go_wp2_with fail
            go_roundw
            case rel => exact ⟨k + 1, by omega, by go_num, by rw [hs], by rw [hs], S3⟩
            case measure => simp [intOf]; omega
          · have hs : anyF K (es.take (k + 1)) = (b1, true) := by rw [HNX.out]; unfold astep; rw [if_neg (by simp; omega)]
            clear h1
            go_wp2_with fail
            go_roundw
            case rel => exact ⟨k + 1, by omega, by go_num, by rw [hs], by rw [hs], S3⟩
            case measure => simp [intOf]; omega
      · have h1b : (dF K x.1 == dF K x.2) = false := by simpa using h1
        have hs : anyF K (es.take (k + 1)) = (b1, fo) := by rw [HNX.out]; unfold astep; rw [if_neg (fun h => h1 h.1)]
        clear h1
        go_wp2_with fail
        go_roundw
        case rel => exact ⟨k + 1, by omega, by go_num, by rw [hs], by rw [hs], S3⟩
        case measure => simp [intOf]; omega
    · obtain rfl : k = es.length := by omega
      rw [List.take_length, ← HR1.out]
      go_wp2_with fail
      go_returns
      exact ⟨rfl, S.out.right⟩
def maxI (a b : Int) : Int := if a < b then b else a
def maxL : List Int → Int
  | [] => 0
  | x :: l => l.foldl maxI x
set_option maxRecDepth 100000 in
set_option maxHeartbeats 16000000 in
theorem Max_any (A : Option Addr) (c : Nat) (l : List Int) (w : World) (hv : Vec w 3 1 (.slice A l.length c) l.length (numsK l)) (hne : 0 < l.length) (hn : l.length ≤ 4000000) :
    Calls Try.prog 17 #[.slice A l.length c] w fun e w' => e = .returned (.int .i64 (maxL l)) ∧ w' = w := by
  have HV := Lib.hid hv
  rcases hv.forms with ⟨-, hz⟩ | ⟨gr, cr, her, -⟩
  · omega
  cases her
  obtain ⟨x, m, rfl⟩ : ∃ x m, l = x :: m := by cases l with | nil => simp at hne | cons x m => exact ⟨x, m, rfl⟩
  have hc0 : w.cell? ⟨gr, 0, none⟩ = some (.int .i64 x) := hv.cell rfl
  rw [List.length_cons] at hn HV ⊢
  clear hv hne
  obtain ⟨R, hR⟩ : ∃ R, R = maxL (x :: m) := ⟨_, rfl⟩
  rw [← hR]
  go_enter Try.func17, Try.ntmps17
  go_wp2_with fail
  go_loopw [3, 4] (fun b i wr => ∃ (k : Nat), k ≤ m.length ∧ i = .int .i64 ((k : Int) + 1) ∧ b = .int .i64 ((m.take k).foldl maxI x) ∧ wr = w) (fun _ i _ => m.length + 1 - (intOf i).toNat)
  case atStart => exact ⟨0, Nat.zero_le _, rfl, rfl, rfl⟩
  case round =>
    obtain ⟨k, hk, rfl, rfl, rfl⟩ := hrel
    by_cases hlt : k < m.length
    · obtain ⟨y, hy⟩ : ∃ y, m[k]? = some y := ⟨m[k]'hlt, List.getElem?_eq_getElem _⟩
      have hcx : wr.cell? ⟨gr, k + 1, none⟩ = some (.int .i64 y) := by
        refine HV.out.cell ?_
        unfold numsK
        rw [List.getElem?_map, List.getElem?_cons_succ, hy]
        rfl
      have hs : (m.take (k + 1)).foldl maxI x = maxI ((m.take k).foldl maxI x) y := by rw [take_snoc m k y hy, List.foldl_append]; rfl
      have HSS := Lib.hid hs
      clear hs hy
      generalize (m.take k).foldl maxI x = b at *
      by_cases hb : b < y
      · go_wp2_with fail
        go_roundw
        case rel => exact ⟨k + 1, by omega, by go_num, by rw [HSS.out]; unfold maxI; rw [if_pos hb], trivial⟩
        case measure => simp [intOf]; omega
      · go_wp2_with fail
        go_roundw
        case rel => exact ⟨k + 1, by omega, by go_num, by rw [HSS.out]; unfold maxI; rw [if_neg hb], trivial⟩
        case measure => simp [intOf]; omega
    · obtain rfl : k = m.length := by omega
      rw [List.take_length]
      go_wp2_with fail
      go_returns
      exact ⟨by rw [hR]; rfl, rfl⟩
set_option maxRecDepth 100000 in
set_option maxHeartbeats 16000000 in
theorem Victim_any (A : Option Addr) (c : Nat) (l : List Int) (w : World) (hv : Vec w 3 1 (.slice A l.length c) l.length (numsK l)) (hn : l.length ≤ 4000000) :
    Calls Try.prog 10 #[.slice A l.length c] w fun e w' => e = .returned (.int .i64 (maxL l)) ∧ w' = w := by
  have HV := Lib.hid hv
  clear hv
  obtain ⟨R, hR⟩ : ∃ R, R = maxL l := ⟨_, rfl⟩
  rw [← hR]
  by_cases h0 : l = []
  · subst h0
    go_enter Try.func10, Try.ntmps10
    go_wp2_with fail
    go_returns
    exact ⟨by rw [hR]; rfl, rfl⟩
  · have hp : 0 < l.length := List.length_pos_iff.2 h0
    have hz : ((l.length : Int) == 0) = false := by simp; exact h0
    go_enter Try.func10, Try.ntmps10
    go_wp2_with fail
    refine (Max_any A c l w HV.out hp hn).mono ?_
    rintro e w1 ⟨rfl, rfl⟩
    go_wp2_with fail
    go_returns
    exact ⟨by rw [hR]; rfl, rfl⟩
end Go.Proofs.Ytbcemognghkmcaa.Kt
