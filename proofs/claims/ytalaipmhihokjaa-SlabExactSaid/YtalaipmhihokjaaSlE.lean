import Derived.Test.YtalaipmhihokjaaSlD
namespace Go.Proofs.Ytalaipmhihokjaa.Sl
open Go.ChangeShapes Go.WideShapes Go.ChangeAt Go.RowKit Go.PlainAid Aid Mn
set_option linter.unusedVariables false
set_option linter.unusedSimpArgs false

theorem Write_nil (i : Int) (s : ByteArray) (w : World) : Calls Try.prog 10 #[.pointer Option.none, .int .i64 i, .string s] w fun e w' => e = .returned (.int .i64 2) ∧ w = w' := by
  go_enter Try.func10, Try.ntmps10
  go_wp2_with fail
  go_returns
  exact ⟨rfl, rfl⟩
theorem Sync_nil (w : World) : Calls Try.prog 13 #[.pointer Option.none] w fun e w' => e = .returned (.int .i64 2) ∧ w = w' := by
  go_enter Try.func13, Try.ntmps13
  go_wp2_with fail
  go_returns
  exact ⟨rfl, rfl⟩
theorem Read_nil (i : Int) (w : World) : Calls Try.prog 20 #[.pointer Option.none, .int .i64 i] w fun e w' => e = .returned (.tuple #[.string ⟨#[]⟩, .int .i64 2]) ∧ w = w' := by
  go_enter Try.func20, Try.ntmps20
  go_wp2_with fail
  go_returns
  exact ⟨rfl, rfl⟩
theorem Settle_nil (i : Int) (w : World) : Calls Try.prog 15 #[.pointer Option.none, .int .i64 i] w fun e w' => e = .returned (.int .i64 2) ∧ w = w' := by
  go_enter Try.func15, Try.ntmps15
  go_wp2_with fail
  go_returns
  exact ⟨rfl, rfl⟩
theorem Fresh_nil (w : World) : Calls Try.prog 21 #[.pointer Option.none] w fun e w' => e = .returned (.slice Option.none 0 0) ∧ w = w' := by
  go_enter Try.func21, Try.ntmps21
  go_wp2_with fail
  go_returns
  exact ⟨rfl, rfl⟩
theorem Len_nil (w : World) : Calls Try.prog 22 #[.pointer Option.none] w fun e w' => e = .returned (.int .i64 0) ∧ w = w' := by
  go_enter Try.func22, Try.ntmps22
  go_wp2_with fail
  go_returns
  exact ⟨rfl, rfl⟩

/-- A page's bytes, all of one. -/
def pageS (n : Int) : ByteArray := ofL (List.replicate 256 (UInt8.ofNat (n % 256).toNat))
theorem pageS_size (n : Int) : (pageS n).size = 256 := by unfold pageS; rw [ofL_size, List.length_replicate]
theorem u8_ofNat (n : Int) : ((UInt8.ofNat (n % 256).toNat).toNat : Int) = n % 256 := by
  rw [UInt8.toNat_ofNat']
  omega
set_option maxRecDepth 100000 in
set_option maxHeartbeats 400000 in
theorem page_any (n : Int) (w : World) :
    Calls Try.prog 11 #[.int .i64 n] w fun e w' => e = .returned (.string (pageS n)) ∧ Below w.heap.size w w' := by
  have hmk : ∀ w : World, (Instr.makeSlice 54 (.int .i64 256) (.int .i64 256)).run Try.prog w = .ok (.slice (some ⟨w.heap.size, 0, Option.none⟩) 256 256) (w.alloc (.cells (madeCells #[.int .u8 0] 256) 5)) :=
    make_rows (P := Try.prog) 54 5 (.int .u8 0) 1 1 Try.underlying54 (by kernel_rfl) .i64 .i64 256 (by omega) (by omega)
  have HX := Lib.hid (show IntKind.u8.wrap n = n % 256 by rw [IntKind.wrap_u8])
  go_enter Try.func11, Try.ntmps11
  go_wp2_with fail
  go_loopw [4] (fun i wr => ∃ k : Nat, k ≤ 256 ∧ i = .int .i64 k ∧ Hid (Tab wr w.heap.size 5 256 (fun j => if j < k then .int .u8 (n % 256) else .int .u8 0)) ∧ Hid (Below w.heap.size w wr)) (fun i _ => 256 - (intOf i).toNat)
  case atStart => exact ⟨0, Nat.zero_le _, rfl, (Tab.made w #[.int .u8 0] 256 _).congr (fun k hk => by rw [if_neg (by omega)]; simp [Nat.mod_one]), blA (Below.refl _ _) _⟩
  case round =>
    clear hmk
    obtain ⟨k, hk, rfl, hT, hB⟩ := hrel
    by_cases hlt : k < 256
    · have f0 := hT.out.free k
      have c0 : wr.cell? ⟨w.heap.size, k, Option.none⟩ = some (.int .u8 0) := by rw [hT.out.cell hlt, if_neg (by omega)]
      go_wp2_with fail
      go_roundw
      case rel => exact ⟨k + 1, by omega, by go_num, hT.out.set' _ _ (fun j hj => by
        by_cases h1 : j = k
        · rw [if_pos h1, if_pos (by omega)]
        · rw [if_neg h1]
          by_cases h2 : j < k
          · rw [if_pos h2, if_pos (by omega)]
          · rw [if_neg h2, if_neg (by omega)]), blC hB.out (Nat.le_refl _) _⟩
      case measure => simp [intOf]; omega
    · obtain rfl : 256 = k := by omega
      have hcv := conv_row (P := Try.prog) (w := wr) (src := 54) (e := 5) (dst := 9) Try.underlying54 Try.underlying5 Try.underlying9 w.heap.size 0 256 (List.replicate 256 (UInt8.ofNat (n % 256).toNat)) (fun i x hx => by
        have hi := (List.getElem?_eq_some_iff.1 hx).1
        rw [List.length_replicate] at hi
        rw [Nat.zero_add, hT.out.cell hi, if_pos hi]
        rw [List.getElem?_replicate, if_pos hi] at hx
        obtain rfl := Option.some.inj hx
        rw [u8_ofNat]) 256 (by rw [List.length_replicate])
      change (convert _ _ _).run _ _ = .ok (.string (pageS n)) _ at hcv
      go_wp2_with fail
      go_returns
      exact ⟨rfl, hB.out⟩

section
variable {g m b n : Nat} {P : Nat → Pg} {q : Pw} {w : World}
theorem Off_dk (h : Dk w g m b n P q) : Calls Try.prog 17 #[.pointer (some ⟨m, 0, Option.none⟩)] w fun e w' => e = .returned (.tuple #[]) ∧ Dk w' g m b n P q.off ∧ Chg (· = m) w w' :=
  (Off_any _ _ _ h.power).mono fun _ _ ⟨he, hm, hb⟩ => ⟨he, h.pow hm hb, hb⟩
theorem On_dk (h : Dk w g m b n P q) : Calls Try.prog 18 #[.pointer (some ⟨m, 0, Option.none⟩)] w fun e w' => e = .returned (.tuple #[]) ∧ Dk w' g m b n P q.come ∧ Chg (· = m) w w' :=
  (On_any _ _ _ h.power).mono fun _ _ ⟨he, hm, hb⟩ => ⟨he, h.pow hm hb, hb⟩
theorem Fuse_dk (h : Dk w g m b n P q) (k : Int) (h0 : -9223372036854775808 ≤ k) (h1 : k ≤ 9223372036854775807) : Calls Try.prog 19 #[.pointer (some ⟨m, 0, Option.none⟩), .int .i64 k] w fun e w' => e = .returned (.tuple #[]) ∧ Dk w' g m b n P (q.lay k) ∧ Chg (· = m) w w' :=
  (Fuse_any _ _ _ _ h.power h0 h1).mono fun _ _ ⟨he, hm, hb⟩ => ⟨he, h.pow hm hb, hb⟩
theorem Read_dk (h : Dk w g m b n P q) (i : Nat) (hi : i < n) (hq : q.on = true) (s : ByteArray) (hs : (P i).now = s) :
    Calls Try.prog 20 #[.pointer (some ⟨g, 0, Option.none⟩), .int .i64 i] w fun e w' => e = .returned (.tuple #[.string s, .int .i64 0]) ∧ w = w' := by
  have := Read_yes g m b n P q i w h hi
  unfold readV at this
  rw [if_pos hq, hs] at this
  exact this
theorem Dk.congr {Q : Nat → Pg} (h : Dk w g m b n P q) (e : ∀ i, i < n → P i = Q i) : Dk w g m b n Q q := ⟨h.disk, h.pages.congr e, h.power, h.small, h.gm, h.gb, h.mb⟩
end
theorem near_of (n : Nat) (h : n ≤ 256) : near n = n := by unfold near; omega
theorem ds_base {B m b : Nat} (hm : B ≤ m) (hb : B ≤ b) (W : World) : ∀ i, i < W.heap.size → DS m b i → B ≤ i := fun i _ e => by
  rcases e with rfl | rfl
  · exact hm
  · exact hb
theorem pageS_ne (n m : Int) (h : n % 256 ≠ m % 256) : pageS n ≠ pageS m := by
  intro e
  have h1 := congrArg (fun s : ByteArray => bt s 0) e
  simp only [bt_list, pageS, ofL_list] at h1
  simp only [List.getD, List.getElem?_replicate] at h1
  simp only [Nat.zero_lt_succ, if_true, Option.getD_some, u8_ofNat, Nat.reduceLT] at h1
  exact h h1
set_option maxHeartbeats 1000000 in
theorem awake_any (w : World) :
    Calls Try.prog 6 #[] w fun e w' => e = .returned (.bool true) ∧ Below w.heap.size w w' := by
  go_enter Try.func6, Try.ntmps6
  go_wp2_with fail
  refine (Mn.New_any _).mono ?_
  rintro e w1 ⟨rfl, hm1, hb1⟩
  go_wp2_with fail
  refine (New_any _ 2 _ _ hm1).mono ?_
  rintro e w2 ⟨rfl, hd2, hb2⟩
  have B2 := Lib.hid (bl hb1 hb2)
  have HS := Lib.hid (ds_base (Nat.le_refl w.heap.size) hb1.size)
  have HB := Lib.hid (show w.heap.size ≤ w1.heap.size from hb1.size)
  rw [show near 2 = 2 by decide] at hd2
  have D2 := Lib.hid hd2
  clear hm1 hb1 hb2 hd2
  generalize w1.heap.size + 1 = g at *
  generalize w1.heap.size = b at *
  go_wp2_with fail
  refine (Len_any _ _ _ _ _ _ _ D2.out).mono ?_
  rintro e w' ⟨rfl, rfl⟩
  go_wp2_with fail
  refine (page_any 1 _).mono ?_
  rintro e w3 ⟨rfl, hb⟩
  have B3 := Lib.hid (bl B2.out hb)
  have D3 := Lib.hid (D2.out.below hb)
  clear hb B2 D2
  go_wp2_with fail
  refine (Write_ok _ _ _ _ _ _ 0 _ _ D3.out (by decide) (pageS_size _) rfl).mono ?_
  rintro e w4 ⟨rfl, hX, hb⟩
  have D4 := Lib.hid hX
  have B4 := Lib.hid (blS B3.out hb B3.out.size (HS.out _))
  clear hX hb D3 B3
  go_wp2_with fail
  refine (page_any 2 _).mono ?_
  rintro e w5 ⟨rfl, hb⟩
  have B5 := Lib.hid (bl B4.out hb)
  have D5 := Lib.hid (D4.out.below hb)
  clear hb B4 D4
  go_wp2_with fail
  refine (Write_ok _ _ _ _ _ _ 1 _ _ D5.out (by decide) (pageS_size _) rfl).mono ?_
  rintro e w6 ⟨rfl, hX, hb⟩
  have D6 := Lib.hid hX
  have B6 := Lib.hid (blS B5.out hb B5.out.size (HS.out _))
  clear hX hb D5 B5
  go_wp2_with fail
  refine (Off_dk D6.out).mono ?_
  rintro e w7 ⟨rfl, hX, hb⟩
  have D7 := Lib.hid hX
  have B7 := Lib.hid (bl1 B6.out hb B6.out.size (Nat.le_refl _))
  clear hX hb D6 B6
  go_wp2_with fail
  refine (Settle_off _ _ _ _ _ _ 2 _ D7.out rfl).mono ?_
  rintro e w8 ⟨rfl, hX, hb⟩
  have D8 := Lib.hid hX
  have B8 := Lib.hid (bl1 B7.out hb B7.out.size HB.out)
  clear hX hb D7 B7
  go_wp2_with fail
  refine (On_dk D8.out).mono ?_
  rintro e w9 ⟨rfl, hX, hb⟩
  have D9 := Lib.hid hX
  have B9 := Lib.hid (bl1 B8.out hb B8.out.size (Nat.le_refl _))
  clear hX hb D8 B8
  go_wp2_with fail
  refine (Read_dk D9.out 0 (by decide) rfl ⟨#[]⟩ (by simp [settled, upd, freshL, Pg.settle, Pg.write, bitK, Pg.none])).mono ?_
  rintro e w' ⟨rfl, rfl⟩
  go_wp2_with fail
  refine (Read_dk D9.out 1 (by decide) rfl (pageS 2) (by simp [settled, upd, freshL, Pg.settle, Pg.write, bitK, Pg.none, Pg.secure])).mono ?_
  rintro e w' ⟨rfl, rfl⟩
  go_wp2_with fail
  refine (page_any 2 _).mono ?_
  rintro e w10 ⟨rfl, hb⟩
  have B10 := Lib.hid (bl B9.out hb)
  clear hb B9
  go_wp2_with fail
  go_returns
  exact ⟨rfl, B10.out⟩
end Go.Proofs.Ytalaipmhihokjaa.Sl
