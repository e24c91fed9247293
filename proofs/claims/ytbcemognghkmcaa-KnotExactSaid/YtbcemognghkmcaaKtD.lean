/- The one of some that is least far; the ways of Round. -/
import Derived.Test.YtbcemognghkmcaaKtC
namespace Go.Proofs.Ytbcemognghkmcaa.Kt
open Go.ChangeShapes Go.WideShapes Go.ChangeAt Go.RowKit Go.PlainAid Aid
set_option linter.unusedVariables false
set_option linter.unusedSimpArgs false
def nstep (F : Fe) (st : Int × Bool) (x : Int) : Int × Bool := if hasF F x = true ∧ (st.2 = false ∨ dF F x < dF F st.1 ∨ (dF F x = dF F st.1 ∧ x < st.1)) then (x, true) else st
def nearL (F : Fe) (l : List Int) : Int × Bool := l.foldl (nstep F) (0, false)
theorem nearL_snoc (F : Fe) (l : List Int) (x : Int) : nearL F (l ++ [x]) = nstep F (nearL F l) x := by unfold nearL; rw [List.foldl_append]; rfl
theorem nearL_mem (F : Fe) (l : List Int) : (nearL F l = (0, false)) ∨ ((nearL F l).2 = true ∧ (nearL F l).1 ∈ l ∧ hasF F (nearL F l).1 = true) := by
  rw [← List.reverse_reverse l]
  generalize l.reverse = m
  induction m with
  | nil => exact Or.inl rfl
  | cons x m ih =>
    rw [List.reverse_cons, nearL_snoc]
    unfold nstep
    split
    · rename_i h
      exact Or.inr ⟨rfl, by simp, h.1⟩
    · rcases ih with h | ⟨h1, h2, h3⟩
      · exact Or.inl h
      · exact Or.inr ⟨h1, List.mem_append_left _ h2, h3⟩
theorem nearL_64 (F : Fe) {l : List Int} (h : ∀ a, a ∈ l → I64w a) : I64w (nearL F l).1 := by
  rcases nearL_mem F l with e | ⟨-, e, -⟩
  · rw [e]; show I64w 0; unfold I64w; decide
  · exact h _ e
set_option maxRecDepth 100000 in
set_option maxHeartbeats 16000000 in
theorem nearest_any (A : Option Addr) (c : Nat) (l : List Int) (f : Nat) (F : Fe) (w : World) (hv : Vec w 3 1 (.slice A l.length c) l.length (numsK l)) (hf : MapIs w Try.prog 3 f (iE F)) (hl : ∀ a, a ∈ l → I64w a) (hn : l.length ≤ 1000) :
    Calls Try.prog 14 #[.slice A l.length c, .map (some f)] w fun e w' => e = .returned (.tuple #[.int .i64 (nearL F l).1, .bool (nearL F l).2]) ∧ w' = w := by
  have HL := Lib.hid hl
  have HV := Lib.hid hv
  have HF := Lib.hid hf
  clear hl hv hf
  go_enter Try.func14, Try.ntmps14
  go_wp2_with fail
  go_loopw [6, 7, 14] (fun b fo i wr => ∃ (k : Nat), k ≤ l.length ∧ i = .int .i64 k ∧ b = .int .i64 (nearL F (l.take k)).1 ∧ fo = .bool (nearL F (l.take k)).2 ∧ wr = w) (fun _ _ i _ => l.length - (intOf i).toNat)
  case atStart => exact ⟨0, Nat.zero_le _, rfl, rfl, rfl, rfl⟩
  case round =>
    obtain ⟨k, hk, rfl, rfl, rfl, rfl⟩ := hrel
    by_cases hlt : k < l.length
    · obtain ⟨x, hx⟩ : ∃ x, l[k]? = some x := ⟨l[k]'hlt, List.getElem?_eq_getElem _⟩
      have hxw := HL.out x (List.mem_of_getElem? hx)
      have hbw := nearL_64 F (l := l.take k) (fun a ha => HL.out a (List.mem_of_mem_take ha))
      obtain ⟨st, hst⟩ : ∃ st, st = nearL F (l.take k) := ⟨_, rfl⟩
      have hnx : nearL F (l.take (k + 1)) = nstep F st x := by rw [take_snoc l k x hx, nearL_snoc, hst]
      have HNX := Lib.hid hnx
      rcases HV.out.forms with ⟨-, hz⟩ | ⟨gr, cr, her, -⟩
      · omega
      cases her
      have hcx : wr.cell? ⟨gr, k, none⟩ = some (.int .i64 x) := HV.out.cell (by unfold numsK; rw [List.getElem?_map, hx]; rfl)
      have hlk := look_f2 HF.out x hxw
      have hlb := look_f HF.out _ hbw
      rw [← hst] at hlb ⊢
      clear hst hnx hxw hbw hx
      obtain ⟨b, fo⟩ := st
      dsimp only at hlb ⊢
      cases hh : hasF F x with
      | false =>
        rw [hh] at hlk
        have hs : nearL F (l.take (k + 1)) = (b, fo) := by rw [HNX.out]; unfold nstep; rw [if_neg (by simp [hh])]
        go_wp2_with fail
        go_roundw
        case rel => exact ⟨k + 1, by omega, by go_num, by rw [hs], by rw [hs], trivial⟩
        case measure => simp [intOf]; omega
      | true =>
        rw [hh] at hlk
        cases fo with
        | false =>
          have hs : nearL F (l.take (k + 1)) = (x, true) := by rw [HNX.out]; unfold nstep; rw [if_pos ⟨hh, Or.inl rfl⟩]
          go_wp2_with fail
          go_roundw
          case rel => exact ⟨k + 1, by omega, by go_num, by rw [hs], by rw [hs], trivial⟩
          case measure => simp [intOf]; omega
        | true =>
          rcases Int.lt_trichotomy (dF F x) (dF F b) with h1 | h1 | h1
          · have hs : nearL F (l.take (k + 1)) = (x, true) := by rw [HNX.out]; unfold nstep; rw [if_pos ⟨hh, Or.inr (Or.inl h1)⟩]
            go_wp2_with fail
            go_roundw
            case rel => exact ⟨k + 1, by omega, by go_num, by rw [hs], by rw [hs], trivial⟩
            case measure => simp [intOf]; omega
          · have h2 : ¬ dF F x < dF F b := by omega
            have h3 : (dF F x == dF F b) = true := by simpa using h1
            by_cases h4 : x < b
            · have hs : nearL F (l.take (k + 1)) = (x, true) := by rw [HNX.out]; unfold nstep; rw [if_pos ⟨hh, Or.inr (Or.inr ⟨h1, h4⟩)⟩]
              go_wp2_with fail
              go_roundw
              case rel => exact ⟨k + 1, by omega, by go_num, by rw [hs], by rw [hs], trivial⟩
              case measure => simp [intOf]; omega
            · have hs : nearL F (l.take (k + 1)) = (b, true) := by rw [HNX.out]; unfold nstep; rw [if_neg (by simp [hh]; omega)]
              go_wp2_with fail
              go_roundw
              case rel => exact ⟨k + 1, by omega, by go_num, by rw [hs], by rw [hs], trivial⟩
              case measure => simp [intOf]; omega
          · have h2 : ¬ dF F x < dF F b := by omega
            have h3 : (dF F x == dF F b) = false := by simp; omega
            have h5 : ¬ dF F x = dF F b := by omega
            have hs : nearL F (l.take (k + 1)) = (b, true) := by rw [HNX.out]; unfold nstep; rw [if_neg (by simp [hh]; omega)]
            go_wp2_with fail
            go_roundw
            case rel => exact ⟨k + 1, by omega, by go_num, by rw [hs], by rw [hs], trivial⟩
            case measure => simp [intOf]; omega
    · obtain rfl : k = l.length := by omega
      rw [List.take_length]
      go_wp2_with fail
      go_returns
      exact ⟨rfl, rfl⟩
end Go.Proofs.Ytbcemognghkmcaa.Kt
