/- NodeLeads, walked. -/
import Derived.Test.YtmibcodobicmnaaDoorNdK
namespace Go.Proofs.YtmibcodobicmnaaDoor.Nd
open Go.ChangeShapes Go.WideShapes Go.ChangeAt Go.RowKit Go.PlainAid Aid Cr Nt
set_option linter.unusedVariables false
set_option linter.unusedSimpArgs false
theorem numZ2 (page : Int) : (childL (numZ 2 page) : Int) = page % 65536 := by
  have h1 : 0 ≤ page % 256 := by omega
  have h2 : 0 ≤ page / 256 % 256 := by omega
  unfold childL
  rw [if_pos (numZ_length 2 page)]
  simp only [numZ, unnum]
  have e1 : (UInt8.ofNat (page % 256).toNat).toNat = (page % 256).toNat := by simp; omega
  have e2 : (UInt8.ofNat (page / 256 % 256).toNat).toNat = (page / 256 % 256).toNat := by simp; omega
  rw [e1, e2]
  omega
theorem mod65536 (page : Int) : wrap64 ((IntKind.u64.wrap page).tmod 65536) = (childL (numZ 2 page) : Int) := by
  obtain ⟨K, hK, hk⟩ := mod_u page 65536 (by decide) (by decide)
  rw [numZ2]
  have hu : IntKind.u64.wrap page = page % 18446744073709551616 := by rw [IntKind.wrap_u64]
  rw [hK]
  have : wrap64 ((IntKind.u64.wrap page).tmod 65536) = page % 65536 := by
    rw [hu, Int.tmod_eq_emod_of_nonneg (by omega)]
    have : page % 18446744073709551616 % 65536 = page % 65536 := by omega
    rw [this]
    unfold wrap64
    omega
  omega
set_option maxRecDepth 100000 in
set_option maxHeartbeats 8000000 in
theorem leads_any (k : ByteArray) (page : Int) (e : Ent) (w : World) (ht : Tab w) :
    Calls Tryd.prog 8 #[.string k, .int .i64 page, .agg (entCells e)] w fun r w' => r = .returned (.bool true) ∧ Below w.heap.size w w' := by
  have HT := Lib.hid ht
  have HA := Lib.hid (fun w ht => awake_any w ht)
  have E1 := Lib.hid (fun w => Lead_any k page w)
  have E2 := Lib.hid (fun w => Child_any ⟨k.data.toList, numZ 2 page, false⟩ w)
  have E3 := Lib.hid (fun w => Child_any e w)
  have hz : (ofL (numZ 2 page)).size = 2 := numZ_length 2 page
  have hm := mod65536 page
  have hkk : (k.toList == k.toList) = true := by rw [str_eq, decide_eq_true rfl]
  have hev : (ofL e.val).size = e.val.length := rfl
  have S := Lib.hid ((Own.none w).alloc (entCells e) 78).left
  unfold entCells at *
  dsimp only at E2
  rw [ofL_back] at E2
  have hch : Hid (¬ (ofL e.val).size = 2 → childL e.val = 0) := Lib.hid fun h => by unfold childL; rw [if_neg (by rw [← hev]; exact h)]
  generalize childL (numZ 2 page) = c1 at *
  generalize childL e.val = c2 at *
  generalize ofL (numZ 2 page) = x at *
  generalize ofL e.val = ev at *
  generalize ofL e.key = ek at *
  generalize e.ghost = eg at *
  clear ht hev
  go_enter Tryd.func8, Tryd.ntmps8
  go_wp2_with fail
  obtain ⟨g, hgz⟩ : ∃ g, g = w.heap.size := ⟨_, rfl⟩
  rw [← hgz] at S ⊢
  clear hgz
  generalize w.alloc _ = w1 at *
  refine (HA.out _ (Tab.own HT.out S.out)).mono ?_
  rintro e w2 ⟨rfl, hX⟩
  have S1 := Lib.hid (S.out.below hX)
  clear hX S
  obtain ⟨d0, d1, d2⟩ := ent_cells (S1.out.has (has_blk _ _ _))
  by_cases h1 : 100 < k.size
  · go_wp2_with fail
    go_returns
    exact ⟨rfl, S1.out.bel⟩
  by_cases h2 : 100 < ev.size
  · go_wp2_with fail
    go_returns
    exact ⟨rfl, S1.out.bel⟩
  go_wp2_with fail
  refine (E1.out _).mono ?_
  rintro e w3 ⟨rfl, hX⟩
  have S2 := Lib.hid ((S1.out.below hX).alloc #[.string k, .string x, .bool false] 78)
  clear hX S1 d0 d1 d2
  go_upto_region 6 with fail
  obtain ⟨g7, hgz⟩ : ∃ g, g = w3.heap.size := ⟨_, rfl⟩
  rw [← hgz] at S2 ⊢
  clear hgz
  generalize w3.alloc _ = w4 at *
  obtain ⟨c0, c1', c2'⟩ := ent_cells (S2.out.has (Has.l (has_blk _ _ _)))
  go_wp2_with fail
  refine (E2.out _).mono ?_
  rintro e w5 ⟨rfl, hX⟩
  have S3 := Lib.hid (S2.out.below hX)
  clear hX S2 c0 c1' c2'
  obtain ⟨d0, d1, d2⟩ := ent_cells (S3.out.has (Has.r (has_blk _ _ _)))
  by_cases h3 : ev.size = 2
  · go_wp2_with fail
    go_returns
    exact ⟨ret_bool (by simp [hm, h3]), S3.out.bel⟩
  · have h4 := hch.out h3
    go_wp2_with fail
    refine (E3.out _).mono ?_
    rintro e w6 ⟨rfl, hX⟩
    have S4 := Lib.hid (S3.out.below hX)
    clear hX S3 d0 d1 d2
    go_wp2_with fail
    go_returns
    exact ⟨ret_bool (by simp [hm, h4]), S4.out.bel⟩
end Go.Proofs.YtmibcodobicmnaaDoor.Nd
