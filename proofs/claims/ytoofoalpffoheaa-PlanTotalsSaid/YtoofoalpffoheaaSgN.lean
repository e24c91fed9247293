import Derived.Test.YtoofoalpffoheaaSgM
namespace Go.Proofs.Ytoofoalpffoheaa.Sg
open Go.RowKit Go.PlainAid
set_option linter.unusedVariables false

/-- The order of values. -/
def cmpV (k1 n1 : Int) (s1 : ByteArray) (k2 n2 : Int) (s2 : ByteArray) : Int :=
  if Lib.compareInt k1 k2 ≠ 0 then Lib.compareInt k1 k2 else if Lib.compareInt n1 n2 ≠ 0 then Lib.compareInt n1 n2 else Lib.compareBytes s1.data.toList s2.data.toList

/-- Lists of numbers, one by one. -/
def lexI : List Int → List Int → Int
  | [], [] => 0
  | [], _ :: _ => -1
  | _ :: _, [] => 1
  | a :: ar, b :: br => if a < b then -1 else if b < a then 1 else lexI ar br
theorem lexI_refl (l : List Int) : lexI l l = 0 := by induction l <;> simp [lexI, *]
theorem compareBytes_map (a b : List UInt8) : Lib.compareBytes a b = lexI (a.map fun x => (x.toNat : Int)) (b.map fun x => (x.toNat : Int)) := by
  induction a generalizing b with
  | nil => cases b <;> rfl
  | cons x a ih =>
    cases b with
    | nil => rfl
    | cons y b =>
      simp only [Lib.compareBytes, List.map_cons, lexI, ih, UInt8.lt_iff_toNat_lt, Int.ofNat_lt]
theorem compareBytes_nums (xs ys : List Int) (hx : ∀ x ∈ xs, 0 ≤ x ∧ x ≤ 255) (hy : ∀ y ∈ ys, 0 ≤ y ∧ y ≤ 255) : Lib.compareBytes (strOfNums xs).data.toList (strOfNums ys).data.toList = lexI xs ys := by
  have h : ∀ zs : List Int, (∀ x ∈ zs, 0 ≤ x ∧ x ≤ 255) → ((strOfNums zs).data.toList.map fun x => (x.toNat : Int)) = zs := by
    intro zs hz
    show (zs.map fun n => UInt8.ofNat n.toNat).map _ = zs
    rw [List.map_map]
    conv => rhs; rw [← List.map_id zs]
    exact List.map_congr_left fun x hx => byte_back x (hz x hx).1 (hz x hx).2
  rw [compareBytes_map, h xs hx, h ys hy]

def codeL (k n : Int) (s : ByteArray) : List Int := [cdv k n s 0, cdv k n s 1, cdv k n s 2, cdv k n s 3, cdv k n s 4, cdv k n s 5, cdv k n s 6, cdv k n s 7, cdv k n s 8]
theorem codeL_bd (k n : Int) (s : ByteArray) (hg : goodB k n s = true) : ∀ x ∈ codeL k n s, 0 ≤ x ∧ x ≤ 255 := by
  intro x hx
  simp only [codeL, List.mem_cons, List.not_mem_nil, or_false] at hx
  have hb := fun j => cdv_bd k n s j hg
  rcases hx with h | h | h | h | h | h | h | h | h <;> (rw [h]; exact hb _)

/-- Eight digits, the highest first: their numbers stand as they do. -/
theorem lex8 (a1 a2 a3 a4 a5 a6 a7 a8 b1 b2 b3 b4 b5 b6 b7 b8 u v : Int)
    (hu : u = ((((((a1 * 256 + a2) * 256 + a3) * 256 + a4) * 256 + a5) * 256 + a6) * 256 + a7) * 256 + a8)
    (hv : v = ((((((b1 * 256 + b2) * 256 + b3) * 256 + b4) * 256 + b5) * 256 + b6) * 256 + b7) * 256 + b8)
    (g2 : 0 ≤ a2 ∧ a2 ≤ 255) (g3 : 0 ≤ a3 ∧ a3 ≤ 255) (g4 : 0 ≤ a4 ∧ a4 ≤ 255) (g5 : 0 ≤ a5 ∧ a5 ≤ 255) (g6 : 0 ≤ a6 ∧ a6 ≤ 255) (g7 : 0 ≤ a7 ∧ a7 ≤ 255) (g8 : 0 ≤ a8 ∧ a8 ≤ 255)
    (k2 : 0 ≤ b2 ∧ b2 ≤ 255) (k3 : 0 ≤ b3 ∧ b3 ≤ 255) (k4 : 0 ≤ b4 ∧ b4 ≤ 255) (k5 : 0 ≤ b5 ∧ b5 ≤ 255) (k6 : 0 ≤ b6 ∧ b6 ≤ 255) (k7 : 0 ≤ b7 ∧ b7 ≤ 255) (k8 : 0 ≤ b8 ∧ b8 ≤ 255) :
    lexI [a1, a2, a3, a4, a5, a6, a7, a8] [b1, b2, b3, b4, b5, b6, b7, b8] = Lib.compareInt u v := by
  unfold Lib.compareInt
  simp only [lexI]
  by_cases h1 : a1 < b1
  · rw [if_pos h1, if_pos (by omega)]
  rw [if_neg h1]
  by_cases h1' : b1 < a1
  · rw [if_pos h1', if_neg (by omega), if_pos (by omega)]
  rw [if_neg h1']
  by_cases h2 : a2 < b2
  · rw [if_pos h2, if_pos (by omega)]
  rw [if_neg h2]
  by_cases h2' : b2 < a2
  · rw [if_pos h2', if_neg (by omega), if_pos (by omega)]
  rw [if_neg h2']
  by_cases h3 : a3 < b3
  · rw [if_pos h3, if_pos (by omega)]
  rw [if_neg h3]
  by_cases h3' : b3 < a3
  · rw [if_pos h3', if_neg (by omega), if_pos (by omega)]
  rw [if_neg h3']
  by_cases h4 : a4 < b4
  · rw [if_pos h4, if_pos (by omega)]
  rw [if_neg h4]
  by_cases h4' : b4 < a4
  · rw [if_pos h4', if_neg (by omega), if_pos (by omega)]
  rw [if_neg h4']
  by_cases h5 : a5 < b5
  · rw [if_pos h5, if_pos (by omega)]
  rw [if_neg h5]
  by_cases h5' : b5 < a5
  · rw [if_pos h5', if_neg (by omega), if_pos (by omega)]
  rw [if_neg h5']
  by_cases h6 : a6 < b6
  · rw [if_pos h6, if_pos (by omega)]
  rw [if_neg h6]
  by_cases h6' : b6 < a6
  · rw [if_pos h6', if_neg (by omega), if_pos (by omega)]
  rw [if_neg h6']
  by_cases h7 : a7 < b7
  · rw [if_pos h7, if_pos (by omega)]
  rw [if_neg h7]
  by_cases h7' : b7 < a7
  · rw [if_pos h7', if_neg (by omega), if_pos (by omega)]
  rw [if_neg h7']
  by_cases h8 : a8 < b8
  · rw [if_pos h8, if_pos (by omega)]
  rw [if_neg h8]
  by_cases h8' : b8 < a8
  · rw [if_pos h8', if_neg (by omega), if_pos (by omega)]
  rw [if_neg h8', if_neg (by omega), if_neg (by omega)]

/-- A text with zeros up to m, then a number. -/
def padL : Nat → List Int → Int → List Int
  | 0, _, x => [x]
  | m + 1, [], x => 0 :: padL m [] x
  | m + 1, a :: l, x => a :: padL m l x
theorem lex_nil (m : Nat) (b : List Int) (x y : Int) (hb : ∀ c ∈ b, 0 ≤ c) (h : x < y) : lexI (padL m [] x) (padL m b y) = -1 := by
  induction m generalizing b with
  | zero => simp only [padL, lexI, if_pos h]
  | succ m ih =>
    cases b with
    | nil => simp only [padL, lexI]; rw [if_neg (by omega), if_neg (by omega)]; exact ih [] (by simp)
    | cons c b =>
      have h0 := hb c (by simp)
      simp only [padL, lexI]
      by_cases hc : 0 < c
      · rw [if_pos hc]
      · rw [if_neg hc, if_neg (by omega)]; exact ih b (fun d hd => hb d (by simp [hd]))
theorem lex_nil' (m : Nat) (b : List Int) (x y : Int) (hb : ∀ c ∈ b, 0 ≤ c) (h : x < y) : lexI (padL m b y) (padL m [] x) = 1 := by
  induction m generalizing b with
  | zero => simp only [padL, lexI, if_neg (by omega : ¬ y < x), if_pos h]
  | succ m ih =>
    cases b with
    | nil => simp only [padL, lexI]; rw [if_neg (by omega), if_neg (by omega)]; exact ih [] (by simp)
    | cons c b =>
      have h0 := hb c (by simp)
      simp only [padL, lexI]
      by_cases hc : 0 < c
      · rw [if_neg (by omega), if_pos hc]
      · rw [if_neg (by omega), if_neg (by omega)]; exact ih b (fun d hd => hb d (by simp [hd]))
theorem lex_pad (m : Nat) (a b : List Int) (j : Int) (ha : ∀ c ∈ a, 0 ≤ c) (hb : ∀ c ∈ b, 0 ≤ c) (la : a.length ≤ m) (lb : b.length ≤ m) :
    lexI (padL m a (j + a.length)) (padL m b (j + b.length)) = lexI a b := by
  induction m generalizing a b j with
  | zero =>
    obtain rfl : a = [] := List.eq_nil_of_length_eq_zero (by omega)
    obtain rfl : b = [] := List.eq_nil_of_length_eq_zero (by omega)
    rw [lexI_refl]; rfl
  | succ m ih =>
    cases a with
    | nil =>
      cases b with
      | nil => rw [lexI_refl]; rfl
      | cons c b => exact lex_nil (m + 1) (c :: b) _ _ hb (by simp only [List.length_nil, List.length_cons]; omega)
    | cons d a =>
      cases b with
      | nil => exact lex_nil' (m + 1) (d :: a) _ _ ha (by simp only [List.length_nil, List.length_cons]; omega)
      | cons c b =>
        simp only [padL, lexI]
        have := ih a b (j + 1) (fun x hx => ha x (by simp [hx])) (fun x hx => hb x (by simp [hx])) (by simp at la; omega) (by simp at lb; omega)
        rw [show j + ((d :: a).length : Int) = j + 1 + (a.length : Int) from by simp only [List.length_cons]; omega, show j + ((c :: b).length : Int) = j + 1 + (b.length : Int) from by simp only [List.length_cons]; omega, this]
theorem pad_text (s : ByteArray) (hs : s.size ≤ 7) : [bt s 0, bt s 1, bt s 2, bt s 3, bt s 4, bt s 5, bt s 6, (s.size : Int)] = padL 7 (s.data.toList.map fun x => (x.toNat : Int)) (0 + ((s.data.toList.map fun x => (x.toNat : Int)).length : Int)) := by
  obtain ⟨⟨l⟩⟩ := s
  have hl : l.length ≤ 7 := hs
  match l, hl with
  | [], _ => rfl
  | [a], _ => rfl
  | [a, b], _ => rfl
  | [a, b, c], _ => rfl
  | [a, b, c, d], _ => rfl
  | [a, b, c, d, e], _ => rfl
  | [a, b, c, d, e, f], _ => rfl
  | [a, b, c, d, e, f, g], _ => rfl
  | _ :: _ :: _ :: _ :: _ :: _ :: _ :: _ :: _, h => simp at h

set_option maxHeartbeats 1000000 in
theorem num_digits (n : Int) (s : ByteArray) (r : -9223372036854775808 ≤ n ∧ n ≤ 9223372036854775807) :
    n + 9223372036854775808 = ((((((cdv 1 n s 1 * 256 + cdv 1 n s 2) * 256 + cdv 1 n s 3) * 256 + cdv 1 n s 4) * 256 + cdv 1 n s 5) * 256 + cdv 1 n s 6) * 256 + cdv 1 n s 7) * 256 + cdv 1 n s 8 := by
  rw [cdv_num _ _ _ (by decide), cdv_num _ _ _ (by decide), cdv_num _ _ _ (by decide), cdv_num _ _ _ (by decide), cdv_num _ _ _ (by decide), cdv_num _ _ _ (by decide), cdv_num _ _ _ (by decide), cdv_num _ _ _ (by decide)]; simp only [Nat.reduceSub, Int.reducePow]; omega
set_option maxHeartbeats 1000000 in
theorem code_order (k1 n1 : Int) (s1 : ByteArray) (k2 n2 : Int) (s2 : ByteArray) (h1 : goodB k1 n1 s1 = true) (h2 : goodB k2 n2 s2 = true)
    (r1 : -9223372036854775808 ≤ n1 ∧ n1 ≤ 9223372036854775807) (r2 : -9223372036854775808 ≤ n2 ∧ n2 ≤ 9223372036854775807) :
    Lib.compareBytes (codeS k1 n1 s1).data.toList (codeS k2 n2 s2).data.toList = cmpV k1 n1 s1 k2 n2 s2 := by
  have e : Lib.compareBytes (codeS k1 n1 s1).data.toList (codeS k2 n2 s2).data.toList = lexI (codeL k1 n1 s1) (codeL k2 n2 s2) :=
    compareBytes_nums _ _ (codeL_bd _ _ _ h1) (codeL_bd _ _ _ h2)
  have b1 := fun j => cdv_bd k1 n1 s1 j h1
  have b2 := fun j => cdv_bd k2 n2 s2 j h2
  rw [e]
  have g1 := of_decide_eq_true h1
  have g2 := of_decide_eq_true h2
  unfold codeL cmpV
  rw [lexI, cdv_zero, cdv_zero]
  by_cases hk : k1 < k2
  · have : Lib.compareInt k1 k2 = -1 := by unfold Lib.compareInt; rw [if_pos hk]
    rw [if_pos hk, this, if_pos (by decide)]
  rw [if_neg hk]
  by_cases hk' : k2 < k1
  · have : Lib.compareInt k1 k2 = 1 := by unfold Lib.compareInt; rw [if_neg hk, if_pos hk']
    rw [if_pos hk', this, if_pos (by decide)]
  obtain rfl : k1 = k2 := by omega
  rw [if_neg hk, show Lib.compareInt k1 k1 = 0 from by unfold Lib.compareInt; simp, if_neg (by decide)]
  by_cases ht : k1 = 1
  · subst ht
    have l8 := lex8 (cdv 1 n1 s1 1) (cdv 1 n1 s1 2) (cdv 1 n1 s1 3) (cdv 1 n1 s1 4) (cdv 1 n1 s1 5) (cdv 1 n1 s1 6) (cdv 1 n1 s1 7) (cdv 1 n1 s1 8)
      (cdv 1 n2 s2 1) (cdv 1 n2 s2 2) (cdv 1 n2 s2 3) (cdv 1 n2 s2 4) (cdv 1 n2 s2 5) (cdv 1 n2 s2 6) (cdv 1 n2 s2 7) (cdv 1 n2 s2 8) (n1 + 9223372036854775808) (n2 + 9223372036854775808)
      (num_digits n1 s1 r1)
      (num_digits n2 s2 r2)
      (b1 _) (b1 _) (b1 _) (b1 _) (b1 _) (b1 _) (b1 _) (b2 _) (b2 _) (b2 _) (b2 _) (b2 _) (b2 _) (b2 _)
    rw [l8]
    obtain rfl : s1 = ⟨#[]⟩ := size_zero (by omega)
    obtain rfl : s2 = ⟨#[]⟩ := size_zero (by omega)
    have : Lib.compareInt (n1 + 9223372036854775808) (n2 + 9223372036854775808) = Lib.compareInt n1 n2 := by
      unfold Lib.compareInt
      by_cases a : n1 < n2
      · rw [if_pos a, if_pos (by omega)]
      · by_cases b : n2 < n1
        · rw [if_neg a, if_neg (by omega), if_pos b, if_pos (by omega)]
        · rw [if_neg a, if_neg (by omega), if_neg b, if_neg (by omega)]
    rw [this]
    by_cases a : Lib.compareInt n1 n2 = 0
    · rw [if_neg (by simpa using a), a]; rfl
    · rw [if_pos a]
  · obtain ⟨rfl, rfl, z1⟩ : k1 = 2 ∧ n1 = 0 ∧ s1.size ≤ 7 := by omega
    obtain ⟨-, rfl, z2⟩ : (2 : Int) = 2 ∧ n2 = 0 ∧ s2.size ≤ 7 := by omega
    have p1 : [cdv 2 0 s1 1, cdv 2 0 s1 2, cdv 2 0 s1 3, cdv 2 0 s1 4, cdv 2 0 s1 5, cdv 2 0 s1 6, cdv 2 0 s1 7, cdv 2 0 s1 8] = _ := pad_text s1 z1
    have p2 : [cdv 2 0 s2 1, cdv 2 0 s2 2, cdv 2 0 s2 3, cdv 2 0 s2 4, cdv 2 0 s2 5, cdv 2 0 s2 6, cdv 2 0 s2 7, cdv 2 0 s2 8] = _ := pad_text s2 z2
    rw [p1, p2, lex_pad 7 _ _ 0 (by simp) (by simp) (by rw [List.length_map, ← Lib.size_eq]; exact z1) (by rw [List.length_map, ← Lib.size_eq]; exact z2),
      show Lib.compareInt 0 0 = 0 from rfl, if_neg (by decide), compareBytes_map]

theorem cb_range (a b : List UInt8) : -1 ≤ Lib.compareBytes a b ∧ Lib.compareBytes a b ≤ 1 := by
  induction a generalizing b with
  | nil => cases b <;> simp [Lib.compareBytes]
  | cons x a ih =>
    cases b with
    | nil => simp [Lib.compareBytes]
    | cons y b => simp only [Lib.compareBytes]; split <;> (try split) <;> first | omega | exact ih b
theorem cb_neg (a b : List UInt8) : Lib.compareBytes b a = - Lib.compareBytes a b := by
  induction a generalizing b with
  | nil => cases b <;> simp [Lib.compareBytes]
  | cons x a ih =>
    cases b with
    | nil => simp [Lib.compareBytes]
    | cons y b =>
      simp only [Lib.compareBytes, UInt8.lt_iff_toNat_lt]
      by_cases h : x.toNat < y.toNat
      · rw [if_neg (by omega), if_pos h, if_pos h]; rfl
      · by_cases h' : y.toNat < x.toNat
        · rw [if_pos h', if_neg h, if_pos h']
        · rw [if_neg h', if_neg h, if_neg h, if_neg h']; exact ih b
theorem cb_zero (a b : List UInt8) : Lib.compareBytes a b = 0 ↔ a = b := by
  induction a generalizing b with
  | nil => cases b <;> simp [Lib.compareBytes]
  | cons x a ih =>
    cases b with
    | nil => simp [Lib.compareBytes]
    | cons y b =>
      simp only [Lib.compareBytes, UInt8.lt_iff_toNat_lt, List.cons.injEq]
      by_cases h : x.toNat < y.toNat
      · rw [if_pos h]
        constructor
        · intro e; omega
        · rintro ⟨rfl, -⟩; omega
      · by_cases h' : y.toNat < x.toNat
        · rw [if_neg h, if_pos h']
          constructor
          · intro e; omega
          · rintro ⟨rfl, -⟩; omega
        · rw [if_neg h, if_neg h', ih b]
          have : x = y := UInt8.toNat_inj.1 (by omega)
          constructor
          · intro e; exact ⟨this, e⟩
          · intro e; exact e.2
theorem ci_range (a b : Int) : -1 ≤ Lib.compareInt a b ∧ Lib.compareInt a b ≤ 1 := by unfold Lib.compareInt; split <;> (try split) <;> omega
theorem ci_neg (a b : Int) : Lib.compareInt b a = - Lib.compareInt a b := by
  unfold Lib.compareInt
  split <;> split <;> (try split) <;> (try split) <;> omega
theorem ci_zero (a b : Int) : Lib.compareInt a b = 0 ↔ a = b := by unfold Lib.compareInt; split <;> (try split) <;> constructor <;> omega
theorem cmpV_range (k1 n1 : Int) (s1 : ByteArray) (k2 n2 : Int) (s2 : ByteArray) : -1 ≤ cmpV k1 n1 s1 k2 n2 s2 ∧ cmpV k1 n1 s1 k2 n2 s2 ≤ 1 := by
  unfold cmpV; split
  · exact ci_range _ _
  · split
    · exact ci_range _ _
    · exact cb_range _ _
theorem cmpV_neg (k1 n1 : Int) (s1 : ByteArray) (k2 n2 : Int) (s2 : ByteArray) : cmpV k2 n2 s2 k1 n1 s1 = - cmpV k1 n1 s1 k2 n2 s2 := by
  unfold cmpV
  rw [ci_neg k1 k2, ci_neg n1 n2, cb_neg s1.data.toList s2.data.toList]
  generalize Lib.compareInt k1 k2 = A
  generalize Lib.compareInt n1 n2 = B
  generalize Lib.compareBytes s1.data.toList s2.data.toList = C
  by_cases h : A = 0
  · subst h
    by_cases h' : B = 0
    · subst h'; simp
    · simp [h']
  · simp [h]
theorem cmpV_zero (k1 n1 : Int) (s1 : ByteArray) (k2 n2 : Int) (s2 : ByteArray) : cmpV k1 n1 s1 k2 n2 s2 = 0 ↔ k1 = k2 ∧ n1 = n2 ∧ s1 = s2 := by
  unfold cmpV
  by_cases h : Lib.compareInt k1 k2 = 0
  · rw [if_neg (by omega)]
    have hk := (ci_zero _ _).1 h
    by_cases h' : Lib.compareInt n1 n2 = 0
    · have hn := (ci_zero _ _).1 h'
      rw [if_neg (by omega), cb_zero]
      constructor
      · intro e; exact ⟨hk, hn, ByteArray.ext (Array.toList_inj.1 e)⟩
      · rintro ⟨-, -, rfl⟩; rfl
    · rw [if_pos h']
      have := mt (ci_zero n1 n2).2 h'
      constructor
      · intro e; exact absurd e h'
      · rintro ⟨-, e, -⟩; exact absurd e this
  · rw [if_pos h]
    have := mt (ci_zero k1 k2).2 h
    constructor
    · intro e; exact absurd e h
    · rintro ⟨e, -, -⟩; exact absurd e this
end Go.Proofs.Ytoofoalpffoheaa.Sg
