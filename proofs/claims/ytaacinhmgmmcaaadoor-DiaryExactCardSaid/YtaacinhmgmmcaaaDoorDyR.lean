/- The document's log: its parts that only read. -/
import Derived.Test.YtaacinhmgmmcaaaDoorDyF
import Derived.Test.YtaacinhmgmmcaaaDoorDyT
namespace Go.Proofs.YtaacinhmgmmcaaaDoor.Nt
open Go.ChangeShapes Go.WideShapes Go.ChangeAt Go.RowKit Go.PlainAid Aid Cr
set_option linter.unusedVariables false
set_option linter.unusedSimpArgs false
/-- The stamps, one behind the other. -/
def sts : Nat → List Rec → List Value
  | _, [] => []
  | n, r :: t => .int .i64 ((n + 1 : Nat) : Int) :: sts (n + (bytes r).length) t
theorem sts_len (n : Nat) (L : List Rec) : (sts n L).length = L.length := by
  induction L generalizing n with
  | nil => rfl
  | cons r t ih => simp [sts, ih]
theorem sts_at (n : Nat) (L : List Rec) (k : Nat) (h : k < L.length) : (sts n L)[k]? = some (.int .i64 ((n + at_ L k : Nat) : Int)) := by
  induction L generalizing n k with
  | nil => cases h
  | cons x t ih =>
    cases k with
    | zero => rfl
    | succ k =>
      have := ih (n + (bytes x).length) k (by simpa using h)
      rw [at_succ, show n + ((bytes x).length + at_ t k) = n + (bytes x).length + at_ t k by omega]
      exact this
theorem sts_snoc (n : Nat) (L : List Rec) (r : Rec) : sts n (L ++ [r]) = sts n L ++ [.int .i64 ((n + (flat L).length + 1 : Nat) : Int)] := by
  induction L generalizing n with
  | nil => rfl
  | cons x t ih =>
    simp only [List.cons_append, sts, ih, flat_cons, List.length_append]
    rw [show n + (bytes x).length + (flat t).length + 1 = n + ((bytes x).length + (flat t).length) + 1 by omega]
def recs11 (M : List (Rec × Q3)) : List Value := M.flatMap fun x => (recCells x.1 x.2.1 x.2.2.1 x.2.2.2).toList
theorem recs11_snoc (M : List (Rec × Q3)) (r : Rec) (q : Q3) : recs11 (M ++ [(r, q)]) = recs11 M ++ (recCells r q.1 q.2.1 q.2.2).toList := by simp [recs11]
def ulRow (vl vs : Value) (bytes safe held size : Nat) : Array Value := #[vl, vs, .int .i64 bytes, .int .i64 safe, .int .i64 held, .int .i64 size]
/-- The document's log. -/
def aUl (gu : Nat) (vl vs : Value) (M : List (Rec × Q3)) (safe held size : Nat) : Asn :=
  Asn.blk gu 38 (ulRow vl vs (flat (recsOf M)).length safe held size) * (Asn.vec 45 11 vl M.length (recs11 M) * Asn.vec 3 1 vs M.length (sts 0 (recsOf M)))
def uPtr (gu : Nat) : Value := .pointer (some ⟨gu, 0, none⟩)
theorem ul_cells {w : World} {gu : Nat} {T : TypeId} {a0 a1 a2 a3 a4 a5 : Value} (h : Blk w gu T #[a0, a1, a2, a3, a4, a5]) :
    (w.cell? ⟨gu, 0, none⟩ = some a0 ∧ w.cell? ⟨gu, 1, none⟩ = some a1 ∧ w.cell? ⟨gu, 2, none⟩ = some a2 ∧ w.cell? ⟨gu, 3, none⟩ = some a3 ∧ w.cell? ⟨gu, 4, none⟩ = some a4 ∧ w.cell? ⟨gu, 5, none⟩ = some a5) ∧
    w.frozen? ⟨gu, 0, none⟩ = false ∧ w.frozen? ⟨gu, 1, none⟩ = false ∧ w.frozen? ⟨gu, 2, none⟩ = false ∧ w.frozen? ⟨gu, 3, none⟩ = false ∧ w.frozen? ⟨gu, 4, none⟩ = false :=
  ⟨⟨h.cell 0, h.cell 1, h.cell 2, h.cell 3, h.cell 4, h.cell 5⟩, h.free 0, h.free 1, h.free 2, h.free 3, h.free 4⟩
section
variable (gu : Nat) (vl vs : Value) (M : List (Rec × Q3)) (safe held size : Nat)
theorem rec_len : (recsOf M).length = M.length := by simp [recsOf]
set_option maxHeartbeats 1000000 in
theorem qURoom (hb : (flat (recsOf M)).length ≤ 262144) (hh : held ≤ 262144) (hs : size ≤ 262144) :
    Qt Tryd.prog 12 #[uPtr gu] (aUl gu vl vs M safe held size) (.int .i64 ((size : Int) - (flat (recsOf M)).length - held)) := by
  intro w O hA
  have S := Lib.hid (Own.start hA)
  obtain ⟨⟨c0, c1, c2, c3, c4, c5⟩, -⟩ := ul_cells (S.out.has (Has.l (has_blk _ _ _)))
  have h1 : IntKind.i64.wrap ((size : Int) - (flat (recsOf M)).length) = (size : Int) - (flat (recsOf M)).length := by rw [IntKind.wrap_i64]; omega
  have h2 : IntKind.i64.wrap ((size : Int) - (flat (recsOf M)).length - held) = (size : Int) - (flat (recsOf M)).length - held := by rw [IntKind.wrap_i64]; omega
  generalize (flat (recsOf M)).length = n at *
  clear hA
  unfold uPtr
  go_enter Tryd.func12, Tryd.ntmps12
  go_wp2_with fail
  go_quiet (fail)
  go_wp2_with fail
  go_returns
  exact ⟨rfl, nq, rfl⟩
set_option maxHeartbeats 2000000 in
theorem qUFind (k : Int) (x : Int) (hk : (k = -1 ∧ ∀ j, j < M.length → (at_ (recsOf M) j : Int) ≠ x) ∨ (∃ j : Nat, k = j ∧ j < M.length ∧ (at_ (recsOf M) j : Int) = x)) :
    Qt Tryd.prog 15 #[uPtr gu, .int .i64 x] (aUl gu vl vs M safe held size) (.int .i64 k) := by
  intro w O hA
  have S := Lib.hid (Own.start hA)
  obtain ⟨A, c, rfl⟩ := S.out.right.vecR.slice
  have hlen := S.out.right.vecR.forms
  have hml : M.length ≤ maxLen := by
    rcases hlen with ⟨h, h2⟩ | ⟨g, cap, -, -, h, h2⟩
    · rw [h2]; exact Nat.zero_le _
    · omega
  unfold maxLen at hml
  clear hA hlen
  unfold uPtr
  go_enter Tryd.func15, Tryd.ntmps15
  go_wp2_with fail
  go_loopw [5] (fun i wr => ∃ j : Nat, j ≤ M.length ∧ i = .int .i64 j ∧ (∃ n, wr = w.drewN n) ∧ ∀ q, q < j → (at_ (recsOf M) q : Int) ≠ x) (fun i _ => M.length - (intOf i).toNat)
  case atStart => exact ⟨0, Nat.zero_le _, rfl, ⟨0, rfl⟩, fun q hq => by omega⟩
  case round =>
    obtain ⟨j, hj, rfl, ⟨n, rfl⟩, hq⟩ := hrel
    have X := Lib.hid (S.out.drewN n)
    have HQ := Lib.hid hq
    obtain ⟨⟨c0, c1, c2, c3, c4, c5⟩, -⟩ := ul_cells (X.out.has (Has.l (has_blk _ _ _)))
    clear hq
    by_cases hlt : j < M.length
    · rcases X.out.right.vecR.forms with ⟨-, h2⟩ | ⟨g, cap, he, -, h, h2⟩
      · omega
      simp only [Value.slice.injEq, true_and] at he
      obtain ⟨rfl, rfl⟩ := he
      have d := X.out.right.vecR.cell (sts_at 0 (recsOf M) j (by rw [rec_len]; exact hlt))
      rw [Nat.zero_add] at d
      by_cases hx : (at_ (recsOf M) j : Int) = x
      · have hkj : k = j := by
          rcases hk with ⟨-, h⟩ | ⟨j', rfl, h1, h2⟩
          · exact absurd hx (h j hlt)
          · have := at_inj (recsOf M) (k := j) (j := j') (by rw [rec_len]; exact hlt) (by rw [rec_len]; exact h1) (by omega)
            omega
        have HK := Lib.hid hkj
        clear hkj hk HQ
        generalize (at_ (recsOf M) j : Int) = a at *
        subst hx
        go_wp2_with fail
        go_returns
        exact ⟨ret_int HK.out.symm, _, rfl⟩
      · have hx' : ((at_ (recsOf M) j : Nat) : Int) ≠ x := hx
        have HX := Lib.hid hx
        have hbx : (((at_ (recsOf M) j : Nat) : Int) == x) = false := by simpa using hx
        clear hx hx' hk
        go_wp2_with fail
        go_roundw
        case rel => exact ⟨j + 1, by omega, by go_num, ⟨_, rfl⟩, fun q hq => by
          by_cases h : q = j
          · subst h; exact HX.out
          · exact HQ.out q (by omega)⟩
        case measure => simp [intOf]; omega
    · obtain rfl : j = M.length := by omega
      have hkj : k = -1 := by
        rcases hk with ⟨h, -⟩ | ⟨j', -, h1, h2⟩
        · exact h
        · exact absurd h2 (HQ.out j' h1)
      have HK := Lib.hid hkj
      clear hkj hk
      go_wp2_with fail
      go_returns
      exact ⟨ret_int HK.out.symm, _, rfl⟩
/-- How many bytes are safe behind a stamp. -/
def uSafe (M : List (Rec × Q3)) (safe : Nat) (k : Nat) : Bool := decide (at_ (recsOf M) (k + 1) ≤ safe + 1)
set_option maxHeartbeats 2000000 in
theorem qUIsSafe_miss (x : Int) (hx : ∀ j, j < M.length → (at_ (recsOf M) j : Int) ≠ x) :
    Qt Tryd.prog 16 #[uPtr gu, .int .i64 x] (aUl gu vl vs M safe held size) (.bool false) := by
  intro w O hA
  have S := Lib.hid (Own.start hA)
  have HF := Lib.hid (qUFind gu vl vs M safe held size (-1) x (Or.inl ⟨rfl, hx⟩))
  clear hA hx
  unfold uPtr at *
  go_enter Tryd.func16, Tryd.ntmps16
  go_wp2_with fail
  refine (S.out.ask HF.out).mono ?_
  rintro e w' ⟨rfl, n, rfl⟩
  go_wp2_with fail
  go_returns
  exact ⟨rfl, n, rfl⟩
set_option maxHeartbeats 2000000 in
theorem qUIsSafe_hit (hb : (flat (recsOf M)).length ≤ 262144) (hs : safe ≤ 262144) (k : Nat) (hk : k < M.length) :
    Qt Tryd.prog 16 #[uPtr gu, .int .i64 (at_ (recsOf M) k)] (aUl gu vl vs M safe held size) (.bool (uSafe M safe k)) := by
  intro w O hA
  have S := Lib.hid (Own.start hA)
  have HF := Lib.hid (qUFind gu vl vs M safe held size k (at_ (recsOf M) k) (Or.inr ⟨k, rfl, hk, rfl⟩))
  obtain ⟨A, c, rfl⟩ := S.out.right.vecR.slice
  have hml : M.length ≤ maxLen := by
    rcases S.out.right.vecR.forms with ⟨h, h2⟩ | ⟨g, cap, -, -, h, h2⟩
    · rw [h2]; exact Nat.zero_le _
    · omega
  unfold maxLen at hml
  have hfull := at_full (recsOf M)
  rw [rec_len] at hfull
  clear hA
  unfold uPtr uSafe at *
  go_enter Tryd.func16, Tryd.ntmps16
  go_wp2_with fail
  refine (S.out.ask HF.out).mono ?_
  rintro e w' ⟨rfl, n, rfl⟩
  have X := Lib.hid (S.out.drewN n)
  have HN : Hid (∃ q, w.drewN n = w.drewN q) := Lib.hid ⟨n, rfl⟩
  clear S HF
  generalize w.drewN n = w1 at *
  obtain ⟨⟨c0, c1, c2, c3, c4, c5⟩, -⟩ := ul_cells (X.out.has (Has.l (has_blk _ _ _)))
  by_cases hl : k + 1 < M.length
  · rcases X.out.right.vecR.forms with ⟨-, h2⟩ | ⟨g, cap, he, -, h, h2⟩
    · omega
    simp only [Value.slice.injEq, true_and] at he
    obtain ⟨rfl, rfl⟩ := he
    have d := X.out.right.vecR.cell (sts_at 0 (recsOf M) (k + 1) (by rw [rec_len]; exact hl))
    rw [Nat.zero_add] at d
    have hlt := at_le (recsOf M) (show k + 1 ≤ (recsOf M).length by rw [rec_len]; omega) (Nat.le_refl _)
    rw [rec_len, hfull] at hlt
    have hpos : 1 ≤ at_ (recsOf M) (k + 1) := by unfold at_; omega
    have hres : decide (at_ (recsOf M) (k + 1) ≤ safe + 1) = decide (((at_ (recsOf M) (k + 1) : Nat) : Int) - 1 ≤ (safe : Int)) := decide_eq_decide.2 (by omega)
    have HR := Lib.hid hres
    clear hres hfull
    go_wp2_with fail
    go_returns
    exact ⟨ret_bool HR.out.symm, HN.out⟩
  · have hk1 : k + 1 = M.length := by omega
    have hres : decide (at_ (recsOf M) (k + 1) ≤ safe + 1) = decide ((flat (recsOf M)).length ≤ safe) := by
      rw [hk1, hfull]; exact decide_eq_decide.2 (by omega)
    have HR := Lib.hid hres
    clear hres hfull
    go_wp2_with fail
    go_returns
    exact ⟨ret_bool HR.out.symm, HN.out⟩
end
end Go.Proofs.YtaacinhmgmmcaaaDoor.Nt
