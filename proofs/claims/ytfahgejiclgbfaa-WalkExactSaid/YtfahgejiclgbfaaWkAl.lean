/- The walk of WalkAll. -/
import Derived.Test.YtfahgejiclgbfaaWkPa
namespace Go.Proofs.Ytfahgejiclgbfaa.Wk
open Go.ChangeShapes Go.WideShapes Go.ChangeAt Go.RowKit Go.PlainAid Aid Nt Nd Tr Bk
open Ky (keyZ)
set_option linter.unusedVariables false
set_option linter.unusedSimpArgs false
set_option linter.unusedSectionVars false
theorem le_top' : ∀ (k : Nat) (a : By), a.length = k → le a (List.replicate k 255) = true
  | 0, [], _ => rfl
  | k + 1, x :: a, h => by
    have ih := le_top' k a (by simpa using h)
    rw [List.replicate_succ]
    apply Bk.not_lt.1
    rw [lt_cons]
    have h0 : decide ((255 : UInt8) < x) = false := decide_eq_false (by
      have := UInt8.toNat_lt x
      rw [UInt8.lt_iff_toNat_lt]
      show ¬ 255 < x.toNat
      omega)
    rw [h0, Bool.false_or]
    cases hx : (255 : UInt8) == x with
    | false => rfl
    | true => rw [Bool.true_and]; exact Bk.not_lt.2 ih
theorem le_top (a : By) (h : a.length = 9) : le a (List.replicate 9 255) = true := le_top' 9 a h
theorem top_bytes : ofL (List.replicate 9 255) = ({ data := #[255, 255, 255, 255, 255, 255, 255, 255, 255] } : ByteArray) := by decide +kernel
/-- Where one is behind j steps. -/
def kat (l : List Ent) : Nat → By
  | 0 => low
  | j + 1 => match l[j]? with
    | some e => e.key
    | none => kat l j
theorem kat_some {l : List Ent} {j : Nat} {x : Ent} (h : l[j]? = some x) : kat l (j + 1) = x.key := by
  show (match l[j]? with | some e => e.key | none => kat l j) = _
  rw [h]
theorem kat_none {l : List Ent} {j : Nat} (h : l[j]? = none) : kat l (j + 1) = kat l j := by
  show (match l[j]? with | some e => e.key | none => kat l j) = _
  rw [h]
theorem kat_low {l : List Ent} (h : ∀ e, e ∈ l → e.key.length = 9) : ∀ j, le low (kat l j) = true
  | 0 => le_refl _
  | j + 1 => by
    cases hx : l[j]? with
    | some x => rw [kat_some hx]; exact low_le _ (h x (List.mem_of_getElem? hx))
    | none => rw [kat_none hx]; exact kat_low h j
theorem find_kat {l : List Ent} (hs : Srt l) (hw : ∀ e, e ∈ l → lt low e.key = true) : ∀ j, j ≤ l.length → l.find? (aftQ (kat l j)) = l[j]?
  | 0, _ => after_none low hw
  | j + 1, h => by
    have hx : l[j]? = some (l[j]'(by omega)) := List.getElem?_eq_getElem _
    rw [kat_some hx]
    exact after_at hs j _ hx
set_option maxRecDepth 100000 in
set_option maxHeartbeats 32000000 in
theorem all_walk (HG : Grown) (A : Option Addr) (m c : Nat) (z : Nat → Int) (dr : Int) (w : World) (hm : m ≤ maxLen) (hR : IntRow w A m z) :
    Calls Try.prog 8 #[.slice A m c, .int .i64 dr] w fun e w' => e = .returned (.bool true) ∧ Below w.heap.size w w' := by
  have HR := Lib.hid hR
  have HAw := Lib.hid (awake11_any w)
  clear hR
  go_enter Try.func8, Try.ntmps8
  go_wp2_with fail
  refine HAw.out.mono ?_
  rintro e w1 ⟨rfl, hX⟩
  have S1 := Lib.hid (Own.of_below hX)
  clear hX HAw
  have HGr := Lib.hid (HG A m c z dr w1 hm (HR.out.keep S1.out.bel))
  go_wp2_with fail
  refine HGr.out.mono ?_
  rintro e w2 ⟨gs, V, S, l, top, ch, A', c', rfl, hdn, hsm, hlv, hl60, hw0, hX⟩
  have S2 := Lib.hid ((own_join S1.out hX).left.re (show _ = aSf gs S V * (Asn.vec 44 3 (.slice A' l.length c') l.length (cells3 l) * Asn.emp) by ac_rfl))
  clear hX S1 HGr HR
  have hfk : ∀ j, j ≤ l.length → firR S 3 (kat l j) (aftQ (kat l j)) = (0, l[j]?) := fun j hj => by
    rw [hdn.after (kat l j) (kat_low hdn.len j), find_kat hdn.srt hw0 j hj]
  have HAf : Hid (∀ j, j ≤ l.length → ∀ W C, Own w No W (aSf gs S V * C) → Calls Try.prog 36 #[pgs gs, .int .i64 3, .string (ofL (kat l j))] W fun r w' => r = .returned (.tuple #[.agg (entCells (fE l[j]?)), .bool l[j]?.isSome, .int .i64 0]) ∧ Own w No w' (aSf gs S V * C)) := Lib.hid (fun j hj W C h => by
    have := After_any gs S V hsm hlv 3 (kat l j) w W C h
    rw [hfk j hj] at this
    exact this)
  have hra := hdn.range low (List.replicate 9 255) (le_refl _) (low_le _ rfl)
  rw [btw_all low (List.replicate 9 255) (fun e he => le_of_lt (hw0 e he)) (fun e he => le_top _ (hdn.len e he)), gap_none (List.replicate 9 255) (fun e he => le_top _ (hdn.len e he))] at hra
  have HRa := Lib.hid (fun W C h => Range_any gs S V hsm hlv 3 low (List.replicate 9 255) w W C h)
  rw [hra] at HRa
  dsimp only at HRa
  rw [low_bytes, top_bytes] at HRa
  unfold pgs at HAf HRa
  clear hra hfk hsm hlv hdn hw0
  unfold sPtr
  go_wp2_with fail
  go_loopw [7, 8] (fun s7 i wr => ∃ j : Nat, j ≤ l.length + 1 ∧ i = .int .i64 j ∧ s7 = .string (ofL (kat l j)) ∧ Hid (Own w No wr (aSf gs S V * (Asn.vec 44 3 (.slice A' l.length c') l.length (cells3 l) * Asn.emp)))) (fun _ i _ => l.length + 1 - (intOf i).toNat)
  case atStart => exact ⟨0, by omega, rfl, by rw [show kat l 0 = low from rfl, low_bytes], S2⟩
  case round =>
    clear S2
    obtain ⟨j, hj, rfl, rfl, S1⟩ := hrel
    by_cases hjl : j ≤ l.length
    · have HAj := Lib.hid (HAf.out j hjl)
      by_cases hlt : j < l.length
      · obtain ⟨x, hx⟩ : ∃ x, l[j]? = some x := ⟨l[j]'hlt, List.getElem?_eq_getElem _⟩
        rw [hx] at HAj
        have hkx := kat_some hx
        rw [show entCells (fE (some x)) = #[.string (ofL x.key), .string (ofL x.val), .bool x.ghost] from rfl, show (some x).isSome = true from rfl] at HAj
        have HKX := Lib.hid hkx
        have HX := Lib.hid hx
        clear hkx hx
        generalize kat l j = kj at *
        go_wp2_with fail
        refine (HAj.out _ _ S1.out).mono ?_
        rintro e w3 ⟨rfl, hX⟩
        have S3 := Lib.hid (hX.alloc #[.string (ofL x.key), .string (ofL x.val), .bool x.ghost] 44)
        clear hX S1 HAj
        go_upto_region 11 with fail
        obtain ⟨g9, hgz⟩ : ∃ g, g = w3.heap.size := ⟨_, rfl⟩
        rw [← hgz] at S3 ⊢
        clear hgz
        generalize World.alloc w3 _ = w4 at *
        obtain ⟨⟨e0, e1, e2⟩, -⟩ := three_of (S3.out.has (Has.l (has_blk g9 _ _)))
        obtain ⟨b, o, rfl, hbl, a0, a1, a2⟩ := (Row3.of_vec S3.out.right.right.vec).at HX.out
        go_wp2_with fail
        go_quiet (fail)
        have S4 := Lib.hid (S3.out.drewN nq)
        clear S3 e0 e1 e2 a0 a1 a2
        generalize w4.drewN nq = w5 at *
        obtain ⟨⟨e0, e1, e2⟩, -⟩ := three_of (S4.out.has (Has.l (has_blk g9 _ _)))
        go_wp2_with fail
        go_round
        case rel => exact ⟨j + 1, by omega, by go_num, by rw [HKX.out], Lib.hid S4.out.right⟩
        case measure => simp only [intOf]; omega
      · obtain rfl : j = l.length := by omega
        have hx : l[l.length]? = none := List.getElem?_eq_none (Nat.le_refl _)
        rw [hx] at HAj
        have HKX := Lib.hid (kat_none hx)
        rw [show entCells (fE none) = #[.string ⟨#[]⟩, .string ⟨#[]⟩, .bool false] from rfl, show (none : Option Ent).isSome = false from rfl] at HAj
        clear hx
        generalize hkj : kat l l.length = kj at *
        go_wp2_with fail
        refine (HAj.out _ _ S1.out).mono ?_
        rintro e w3 ⟨rfl, hX⟩
        have S3 := Lib.hid (hX.alloc #[.string ⟨#[]⟩, .string ⟨#[]⟩, .bool false] 44)
        clear hX S1 HAj
        go_upto_region 11 with fail
        generalize World.alloc w3 _ = w4 at *
        go_wp2_with fail
        go_round
        case rel => exact ⟨l.length + 1, by omega, by go_num, by rw [HKX.out], Lib.hid S3.out.right⟩
        case measure => simp only [intOf]; omega
    · obtain rfl : j = l.length + 1 := by omega
      generalize kat l (l.length + 1) = kj at *
      clear HAf
      go_wp2_with fail
      refine (HRa.out _ _ S1.out).mono ?_
      rintro e w3 ⟨v12, rfl, hX⟩
      obtain ⟨A12, c12, rfl⟩ := hX.vec.slice
      have HSm := Lib.hid (same10_any l (.slice A12 l.length c12) (.slice A' l.length c') w3 (Row3.of_vec hX.vec) (Row3.of_vec hX.right.right.vec))
      have S3 := Lib.hid hX
      clear hX S1 HRa
      go_wp2_with fail
      refine HSm.out.mono ?_
      rintro e w4 ⟨rfl, hX⟩
      have S4 := Lib.hid (own_join S3.out hX)
      clear hX S3 HSm
      go_wp2_with fail
      go_returns
      exact ⟨by simp, S4.out.bel⟩
end Go.Proofs.Ytfahgejiclgbfaa.Wk
