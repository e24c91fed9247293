import Derived.Test.YtalaipmhihokjaaSlE
namespace Go.Proofs.Ytalaipmhihokjaa.Sl
open Go.ChangeShapes Go.WideShapes Go.ChangeAt Go.RowKit Go.PlainAid Aid Mn
set_option linter.unusedVariables false
set_option linter.unusedSimpArgs false

def zeroS (k : Nat) : ByteArray := ofL (List.replicate k 0)
theorem zeroS_size (k : Nat) : (zeroS k).size = k := by unfold zeroS; rw [ofL_size, List.length_replicate]
theorem zeros_conv (k : Nat) (w : World) : (convert 54 9 (.slice (some ⟨w.heap.size, 0, Option.none⟩) k k)).run Try.prog (w.alloc (.cells (madeCells #[.int .u8 0] k) 5)) = .ok (.string (zeroS k)) (w.alloc (.cells (madeCells #[.int .u8 0] k) 5)) := by
  have hT := (Tab.made w #[.int .u8 0] k 5)
  exact conv_row (P := Try.prog) (src := 54) (e := 5) (dst := 9) Try.underlying54 Try.underlying5 Try.underlying9 w.heap.size 0 k (List.replicate k 0) (fun i x hx => by
    have hi := (List.getElem?_eq_some_iff.1 hx).1
    rw [List.length_replicate] at hi
    rw [Nat.zero_add, hT.cell hi]
    rw [List.getElem?_replicate, if_pos hi] at hx
    obtain rfl := Option.some.inj hx
    simp [Nat.mod_one]) k (by rw [List.length_replicate])
set_option maxRecDepth 100000 in
set_option maxHeartbeats 1000000 in
theorem sizes_any (n at_ size : Int) (w : World) :
    Calls Try.prog 5 #[.int .i64 n, .int .i64 at_, .int .i64 size] w fun e w' => e = .returned (.bool true) ∧ Below w.heap.size w w' := by
  obtain ⟨K, hK, hK1⟩ := mod_u size 600 (by decide) (by decide)
  have e2 : max 0 (min n 256) = (near n : Int) := by unfold near; omega
  have hmk := make_rows (P := Try.prog) 54 5 (.int .u8 0) 1 1 Try.underlying54 (by kernel_rfl) .i64 .i64 K (by omega) (by omega)
  have hcv := zeros_conv K
  have HN := Lib.hid (near_le n)
  have HD := fun m q w h => New_any m n q w h
  generalize near n = k at *
  have HD := Lib.hid HD
  go_enter Try.func5, Try.ntmps5
  go_wp2_with fail
  refine (awake_any _).mono ?_
  rintro e w0 ⟨rfl, hb⟩
  have B0 := Lib.hid (hb)
  clear hb 
  go_wp2_with fail
  rw [hK]
  clear hK
  refine (Mn.New_any _).mono ?_
  rintro e w1 ⟨rfl, hm1, hb1⟩
  go_wp2_with fail
  refine (HD.out _ _ _ hm1).mono ?_
  rintro e w2 ⟨rfl, hd2, hb2⟩
  have B2 := Lib.hid (bl B0.out (bl hb1 hb2))
  have D2 := Lib.hid hd2
  have h0 := B0.out.size
  have h1 := hb1.size
  have HS := Lib.hid (ds_base h0 (Nat.le_trans h0 h1))
  have HM := Lib.hid h0
  clear hm1 hb1 hb2 hd2 h0 h1 B0 HD
  generalize w1.heap.size + 1 = g at *
  generalize w1.heap.size = b at *
  generalize w0.heap.size = m at *
  go_wp2_with fail
  refine (Len_any _ _ _ _ _ _ _ D2.out).mono ?_
  rintro e w' ⟨rfl, rfl⟩
  go_wp2_with fail
  refine (Fuse_dk D2.out 0 (by decide) (by decide)).mono ?_
  rintro e w3 ⟨rfl, hX, hb⟩
  have D3 := Lib.hid hX
  have B3 := Lib.hid (bl1 B2.out hb B2.out.size HM.out)
  clear hX hb D2 B2
  have D4 := Lib.hid (D3.out.below (blA (Below.refl _ _) (.cells (madeCells #[.int .u8 0] (K * 1)) 5)))
  have B4 := Lib.hid (blA B3.out (.cells (madeCells #[.int .u8 0] (K * 1)) 5))
  rw [Nat.mul_one] at D4 B4
  simp only [Nat.mul_one] at hmk
  by_cases hw : wrongW k at_ (zeroS K)
  · have HW := Lib.hid hw
    clear hw
    go_wp2_with fail
    refine (Write_arg _ _ _ _ _ _ _ _ _ D4.out HW.out).mono ?_
    rintro e w' ⟨rfl, rfl⟩
    by_cases hK : K = 256
    · subst hK
      have hx : at_ < 0 ∨ (k : Int) ≤ at_ := by
        rcases HW.out with h | h | h
        · exact Or.inl h
        · exact Or.inr h
        · exact absurd (zeroS_size 256) h
      by_cases hx0 : at_ < 0
      · clear hx
        go_wp2_with fail
        refine (IsOn_any _ _ _ D4.out.power).mono ?_
        rintro e w' ⟨rfl, rfl⟩
        go_wp2_with fail
        go_returns
        exact ⟨rfl, B4.out⟩
      · have hx1 : (k : Int) ≤ at_ := by omega
        have hx2 : decide (at_ < 0) = false := by simpa using hx0
        clear hx hx0
        go_wp2_with fail
        refine (IsOn_any _ _ _ D4.out.power).mono ?_
        rintro e w' ⟨rfl, rfl⟩
        go_wp2_with fail
        go_returns
        exact ⟨rfl, B4.out⟩
    · have hK2 : ((K : Int) == 256) = false := by simpa using (by omega : ¬ (K : Int) = 256)
      have hK3 : ((K : Int) != 256) = true := by rw [bne, hK2]; rfl
      have hK4 : ¬ (K : Int) = 256 := by omega
      clear hK
      go_wp2_with fail
      refine (IsOn_any _ _ _ D4.out.power).mono ?_
      rintro e w' ⟨rfl, rfl⟩
      go_wp2_with fail
      go_returns
      exact ⟨rfl, B4.out⟩
  · have hx : 0 ≤ at_ ∧ at_ < (k : Int) ∧ K = 256 := by
      unfold wrongW at hw
      rw [zeroS_size] at hw
      omega
    obtain ⟨hx0, hx1, hK⟩ := hx
    have HK := Lib.hid hK
    clear hK
    obtain ⟨i, rfl⟩ : ∃ i : Nat, at_ = i := ⟨at_.toNat, by omega⟩
    have hx3 : decide ((k : Int) ≤ (i : Int)) = false := by simpa using hx1
    clear hw hx0
    go_wp2_with fail
    refine (Write_down _ _ _ _ _ _ i _ _ D4.out (by omega) (by rw [zeroS_size]; exact HK.out) rfl).mono ?_
    rintro e w5 ⟨rfl, hX, hb⟩
    have D5 := Lib.hid hX
    have B5 := Lib.hid (blS B4.out hb B4.out.size (HS.out _))
    clear hX hb D4 B4
    have hK := HK.out
    clear HK hmk hcv
    subst hK
    go_wp2_with fail
    refine (IsOn_any _ _ _ D5.out.power).mono ?_
    rintro e w' ⟨rfl, rfl⟩
    go_wp2_with fail
    go_returns
    exact ⟨rfl, B5.out⟩
end Go.Proofs.Ytalaipmhihokjaa.Sl
