/- Texts of ours, joined. -/
import Derived.Test.YtmnfoafpjmlbfaaGreatDoorSlD
import Derived.Test.YtmnfoafpjmlbfaaGreatDoorRlD
import Derived.Test.YtmnfoafpjmlbfaaGreatDoorTrT
import Derived.Test.YtmnfoafpjmlbfaaGreatDoorDyC
import Derived.Test.YtmnfoafpjmlbfaaGreatDoorNdY

-- joined
section
namespace Go.Proofs.YtmnfoafpjmlbfaaGreatDoor.Sl
open Go.ChangeShapes Go.WideShapes Go.ChangeAt Go.RowKit Go.PlainAid Aid Mn
set_option linter.unusedVariables false
set_option linter.unusedSimpArgs false

theorem Write_nil (i : Int) (s : ByteArray) (w : World) : Calls Tryz.prog 90 #[.pointer Option.none, .int .i64 i, .string s] w fun e w' => e = .returned (.int .i64 2) ∧ w = w' := by
  go_enter Tryz.func90, Tryz.ntmps90
  go_wp2_with fail
  go_returns
  exact ⟨rfl, rfl⟩
theorem Sync_nil (w : World) : Calls Tryz.prog 48 #[.pointer Option.none] w fun e w' => e = .returned (.int .i64 2) ∧ w = w' := by
  go_enter Tryz.func48, Tryz.ntmps48
  go_wp2_with fail
  go_returns
  exact ⟨rfl, rfl⟩
theorem Read_nil (i : Int) (w : World) : Calls Tryz.prog 56 #[.pointer Option.none, .int .i64 i] w fun e w' => e = .returned (.tuple #[.string ⟨#[]⟩, .int .i64 2]) ∧ w = w' := by
  go_enter Tryz.func56, Tryz.ntmps56
  go_wp2_with fail
  go_returns
  exact ⟨rfl, rfl⟩
theorem Settle_nil (i : Int) (w : World) : Calls Tryz.prog 24 #[.pointer Option.none, .int .i64 i] w fun e w' => e = .returned (.int .i64 2) ∧ w = w' := by
  go_enter Tryz.func24, Tryz.ntmps24
  go_wp2_with fail
  go_returns
  exact ⟨rfl, rfl⟩
theorem Fresh_nil (w : World) : Calls Tryz.prog 61 #[.pointer Option.none] w fun e w' => e = .returned (.slice Option.none 0 0) ∧ w = w' := by
  go_enter Tryz.func61, Tryz.ntmps61
  go_wp2_with fail
  go_returns
  exact ⟨rfl, rfl⟩
theorem Len_nil (w : World) : Calls Tryz.prog 80 #[.pointer Option.none] w fun e w' => e = .returned (.int .i64 0) ∧ w = w' := by
  go_enter Tryz.func80, Tryz.ntmps80
  go_wp2_with fail
  go_returns
  exact ⟨rfl, rfl⟩

/-- A page's bytes, all of one. -/
def pageS (n : Int) : ByteArray := ofL (List.replicate 256 (UInt8.ofNat (n % 256).toNat))
theorem pageS_size (n : Int) : (pageS n).size = 256 := by unfold pageS; rw [ofL_size, List.length_replicate]
theorem u8_ofNat (n : Int) : ((UInt8.ofNat (n % 256).toNat).toNat : Int) = n % 256 := by
  rw [UInt8.toNat_ofNat']
  omega
section
variable {g m b n : Nat} {P : Nat → Pg} {q : Pw} {w : World}
theorem Off_dk (h : Dk w g m b n P q) : Calls Tryz.prog 23 #[.pointer (some ⟨m, 0, Option.none⟩)] w fun e w' => e = .returned (.tuple #[]) ∧ Dk w' g m b n P q.off ∧ Chg (· = m) w w' :=
  (Off_any _ _ _ h.power).mono fun _ _ ⟨he, hm, hb⟩ => ⟨he, h.pow hm hb, hb⟩
theorem On_dk (h : Dk w g m b n P q) : Calls Tryz.prog 25 #[.pointer (some ⟨m, 0, Option.none⟩)] w fun e w' => e = .returned (.tuple #[]) ∧ Dk w' g m b n P q.come ∧ Chg (· = m) w w' :=
  (On_any _ _ _ h.power).mono fun _ _ ⟨he, hm, hb⟩ => ⟨he, h.pow hm hb, hb⟩
theorem Read_dk (h : Dk w g m b n P q) (i : Nat) (hi : i < n) (hq : q.on = true) (s : ByteArray) (hs : (P i).now = s) :
    Calls Tryz.prog 56 #[.pointer (some ⟨g, 0, Option.none⟩), .int .i64 i] w fun e w' => e = .returned (.tuple #[.string s, .int .i64 0]) ∧ w = w' := by
  have := Read_yes g m b n P q i w h hi
  unfold readV at this
  rw [if_pos hq, hs] at this
  exact this
theorem Dk.congr {Q : Nat → Pg} (h : Dk w g m b n P q) (e : ∀ i, i < n → P i = Q i) : Dk w g m b n Q q := ⟨h.disk, h.pages.congr e, h.power, h.small, h.gm, h.gb, h.mb⟩
end
theorem near_of (n : Nat) (h : n ≤ 256) : near n = n := by unfold near; omega
theorem ds_base {B m b : Nat} (hm : B ≤ m) (hb : B ≤ b) (W : World) : ∀ i, i < W.heap.size → DS m b i → B ≤ i := fun i _ e => by
  rcases e with rfl | rfl
  · exact hm
  · exact hb
theorem pageS_ne (n m : Int) (h : n % 256 ≠ m % 256) : pageS n ≠ pageS m := by
  intro e
  have h1 := congrArg (fun s : ByteArray => bt s 0) e
  simp only [bt_list, pageS, ofL_list] at h1
  simp only [List.getD, List.getElem?_replicate] at h1
  simp only [Nat.zero_lt_succ, if_true, Option.getD_some, u8_ofNat, Nat.reduceLT] at h1
  exact h h1
end Go.Proofs.YtmnfoafpjmlbfaaGreatDoor.Sl
end

-- joined
section
namespace Go.Proofs.YtmnfoafpjmlbfaaGreatDoor.Sl
open Go.ChangeShapes Go.WideShapes Go.ChangeAt Go.RowKit Go.PlainAid Aid Mn
set_option linter.unusedVariables false
set_option linter.unusedSimpArgs false
/-- A disk in block g, its pages in block b; its power, in block m, is no part of it. -/
def aDk (g m b n : Nat) (P : Nat → Pg) : Asn :=
  ⟨fun w O => (Blk w g 132 #[.pointer (some ⟨m, 0, none⟩), .slice (some ⟨b, 0, none⟩) n n] ∧ Pgs w b n P ∧ n ≤ 256 ∧ g ≠ b) ∧ ∀ k, O k ↔ k = g ∨ k = b,
   fun w O h k hk => by
     rcases (h.2 k).1 hk with rfl | rfl
     · exact h.1.1.lt
     · exact h.1.2.1.lt,
   fun w w' O S h hc hS => ⟨⟨h.1.1.keep hc (hS g ((h.2 g).2 (Or.inl rfl))), h.1.2.1.keep hc (hS b ((h.2 b).2 (Or.inr rfl))), h.1.2.2⟩, h.2⟩⟩
section
variable (g m b n : Nat) (P : Nat → Pg) (q : Pw)
variable {g m b n P q}
theorem dk_of {w : World} {X Y : Nat → Prop} (h : (aDk g m b n P).P w X) (hm : (aMn m q).P w Y) (hd : ∀ k, X k → ¬ Y k) : Dk w g m b n P q :=
  ⟨h.1.1, h.1.2.1, hm.1, h.1.2.2.1, fun e => hd g ((h.2 g).2 (Or.inl rfl)) ((hm.2 g).2 e), h.1.2.2.2, fun e => hd b ((h.2 b).2 (Or.inr rfl)) ((hm.2 b).2 e.symm)⟩
theorem dkOwn {w w' : World} {O X Y : Nat → Prop} {P' : Nat → Pg} {q' : Pw} (h : (aDk g m b n P).P w X) (hm : (aMn m q).P w Y) (hd : ∀ k, X k → ¬ Y k) (hO : ∀ k, O k ↔ X k ∨ Y k)
    (hD : Dk w' g m b n P' q') (hc : Chg (DS m b) w w') : Own w O w' (aDk g m b n P' * aMn m q') :=
  ⟨⟨O, ⟨X, Y, ⟨⟨hD.disk, hD.pages, hD.small, hD.gb⟩, h.2⟩, ⟨hD.power, hm.2⟩, hd, hO⟩, Fresh.refl _ _⟩, hc.mono (fun i _ e => (hO i).2 (e.elim (fun e => Or.inr ((hm.2 i).2 e)) (fun e => Or.inl ((h.2 i).2 (Or.inr e)))))⟩
end
section
variable (g m b n : Nat) (P : Nat → Pg) (q : Pw)
theorem tNew (k : Int) : TrE Tryz.prog 30 #[.pointer (some ⟨m, 0, none⟩), .int .i64 k] (aMn m q) (fun x : Nat × Nat => .pointer (some ⟨x.1, 0, none⟩)) (fun x => aDk x.1 m x.2 (near k) (fun _ => Pg.none) * aMn m q) := fun w O h =>
  (New_any m k q w h.1).mono fun e w' ⟨he, hD, hb⟩ => ⟨(w.heap.size + 1, w.heap.size), he,
    ⟨⟨fun k => (k = w.heap.size + 1 ∨ k = w.heap.size) ∨ k = m, ⟨fun k => k = w.heap.size + 1 ∨ k = w.heap.size, (· = m), ⟨⟨hD.disk, hD.pages, hD.small, hD.gb⟩, fun _ => Iff.rfl⟩, ⟨hD.power, fun _ => Iff.rfl⟩, fun k h1 h2 => by
      have := h.1.lt
      rcases h1 with h1 | h1 <;> omega, fun _ => Iff.rfl⟩, fun k hk => by
      rcases hk with (hk | hk) | hk
      · exact Or.inr (by omega)
      · exact Or.inr (by omega)
      · exact Or.inl ((h.2 k).2 hk)⟩, Chg.of_below hb⟩⟩
theorem qLen : Qt Tryz.prog 80 #[.pointer (some ⟨g, 0, none⟩)] (aDk g m b n P * aMn m q) (.int .i64 n) := fun w O ⟨X, Y, h, hm, hd, hO⟩ =>
  (Len_any g m b n P q w (dk_of h hm hd)).mono fun e w' ⟨he, hw⟩ => ⟨he, 0, hw.symm⟩
theorem qRead_no (i : Int) (hi : i < 0 ∨ (n : Int) ≤ i) : Qt Tryz.prog 56 #[.pointer (some ⟨g, 0, none⟩), .int .i64 i] (aDk g m b n P * aMn m q) (.tuple #[.string ⟨#[]⟩, .int .i64 1]) := fun w O ⟨X, Y, h, hm, hd, hO⟩ =>
  (Read_no g m b n P q i w (dk_of h hm hd) hi).mono fun e w' ⟨he, hw⟩ => ⟨he, 0, hw.symm⟩
theorem qRead_on (i : Nat) (hi : i < n) (hq : q.on = true) : Qt Tryz.prog 56 #[.pointer (some ⟨g, 0, none⟩), .int .i64 i] (aDk g m b n P * aMn m q) (.tuple #[.string (P i).now, .int .i64 0]) := fun w O ⟨X, Y, h, hm, hd, hO⟩ =>
  (Read_yes g m b n P q i w (dk_of h hm hd) hi).mono fun e w' ⟨he, hw⟩ => ⟨by rw [he]; unfold readV; rw [if_pos hq], 0, hw.symm⟩
theorem tWrite_ok (i : Nat) (s : ByteArray) (hi : i < n) (hs : s.size = 256) (hq : q.ans = 0) :
    Tr Tryz.prog 90 #[.pointer (some ⟨g, 0, none⟩), .int .i64 i, .string s] (aDk g m b n P * aMn m q) (.int .i64 0) (aDk g m b n (upd P i ((P i).write s)) * aMn m q.use) := fun w O ⟨X, Y, h, hm, hd, hO⟩ =>
  (Write_ok g m b n P q i s w (dk_of h hm hd) hi hs hq).mono fun e w' ⟨he, hD, hc⟩ => ⟨he, dkOwn h hm hd hO hD hc⟩
theorem tSync_ok (hq : q.ans = 0) :
    Tr Tryz.prog 48 #[.pointer (some ⟨g, 0, none⟩)] (aDk g m b n P * aMn m q) (.int .i64 0) (aDk g m b n (fun i => (P i).secure) * aMn m q.use) := fun w O ⟨X, Y, h, hm, hd, hO⟩ =>
  (Sync_ok g m b n P q w (dk_of h hm hd) hq).mono fun e w' ⟨he, hD, hc⟩ => ⟨he, dkOwn h hm hd hO hD hc⟩
theorem tSettle_off (keep : Int) (hq : q.on = false) :
    Tr Tryz.prog 24 #[.pointer (some ⟨g, 0, none⟩), .int .i64 keep] (aDk g m b n P * aMn m q) (.int .i64 0) (aDk g m b n (settled P keep n) * aMn m q) := fun w O ⟨X, Y, h, hm, hd, hO⟩ =>
  (Settle_off g m b n P q keep w (dk_of h hm hd) hq).mono fun e w' ⟨he, hD, hc⟩ => ⟨he, dkOwn h hm hd hO hD (hc.mono (fun i _ e => Or.inr e))⟩
end
end Go.Proofs.YtmnfoafpjmlbfaaGreatDoor.Sl
end

-- joined
section
namespace Go.Proofs.YtmnfoafpjmlbfaaGreatDoor.Rl
open Go.ChangeShapes Go.WideShapes Go.ChangeAt Go.RowKit Go.PlainAid Aid Mn
set_option linter.unusedVariables false
set_option linter.unusedSimpArgs false

def idle : Pw := ⟨true, -1, 1⟩
theorem idle_use : idle.use = idle := rfl
end Go.Proofs.YtmnfoafpjmlbfaaGreatDoor.Rl
end

-- joined
section
namespace Go.Proofs.YtmnfoafpjmlbfaaGreatDoor.Tr
open Go.ChangeShapes Go.WideShapes Go.ChangeAt Go.RowKit Go.PlainAid Aid Nt Nd Cr
set_option linter.unusedVariables false
set_option linter.unusedSimpArgs false
/-- How far the log is safe behind a Force. -/
def forced (L : List Rec) (k safe : Nat) : Nat := match L[k]? with
  | some r => if at_ L k + (Nt.bytes r).length ≤ safe + 1 then safe else (flat L).length
  | none => safe
theorem tForce_any (g gr m size : Nat) (v : Value) (L : List Rec) (safe held k : Nat) (hk : k < L.length) :
    Tr Tryz.prog 88 #[lPtr g, .int .i64 (at_ L k)] (aLg g gr m size v L safe held * Mn.aMn m Rl.idle) (.int .i64 0) (aLg g gr m size v L (forced L k safe) held * Mn.aMn m Rl.idle) := by
  have hr : L[k]? = some (L[k]'hk) := List.getElem?_eq_getElem _
  unfold forced
  rw [hr]
  dsimp only
  split
  · rename_i h; exact (tForce_safe g gr m size v L safe held k _ hr h).l
  · rename_i h; exact tForce_sync g gr m size v L safe held Rl.idle rfl k _ hr h
section
variable (X T D M G C : Asn)
theorem wr_f : X * (T * (D * (M * (G * C)))) = (G * M) * (X * (T * (D * C))) := by ac_rfl
theorem wr_d : X * (T * (D * (M * (G * C)))) = (D * M) * (X * (T * (G * C))) := by ac_rfl
theorem dropX (A B C D E F : Asn) : A * (B * (C * (D * (E * F)))) = E * (A * (B * (C * (D * F)))) := by ac_rfl
variable (g gd gl : Nat) (hv ov : Value) (H : List Sh) (E : List Db)
theorem wr_o : X * (aTr g gd gl hv ov H E * C) = Asn.vec 115 3 ov E.length (dbs E) * (Asn.blk g 110 (trRow gd gl hv ov) * (Asn.vec 99 8 hv H.length (shs H) * (aNs H * (X * C)))) := by unfold aTr; ac_rfl
end
section
variable (n g gd gl : Nat) (hn : n ≤ 256) (hv ov : Value) (h : Nat → Option Sh) (d : Nat → Option Db) (ho : OkD d) (p : Nat) (hp : p < n) (nd : Nod) (v : Value)
include hn ho hp
set_option maxRecDepth 100000 in
set_option maxHeartbeats 2000000 in
theorem write_no (hd : ∀ y, d p = some y → y.un = 0) (w0 w : World) (C : Asn) (hvs : ∃ A m c, v = .slice A m c) (hS : Own w0 No w (aTr g gd gl hv ov (lst h n) (lst d n) * C)) :
    Calls Tryz.prog 46 #[tPtr g, .agg (shV p nd v)] w fun e w' => e = .returned (.int .i64 0) ∧ Own w0 No w' (aTr g gd gl hv ov (lst h n) (lst d n) * C) := by
  obtain ⟨A0, m0, c0, rfl⟩ := hvs
  have S := Lib.hid (hS.alloc (shV p nd (.slice A0 m0 c0)) 99)
  obtain ⟨AO, cO, rfl⟩ := hS.left.right.right.vec.slice
  have HP := Lib.hid (fun w hw => place_d ho hn p hp (.slice AO (lst d n).length cO) w hw)
  unfold shV num_debt tPtr at *
  clear hS
  generalize ofL nd.high = zh at *
  go_enter Tryz.func46, Tryz.ntmps46
  go_upto_region 1 with fail
  obtain ⟨g3, hgz⟩ : ∃ g, g = w.heap.size := ⟨_, rfl⟩
  rw [← hgz] at S ⊢
  clear hgz
  generalize w.alloc _ = w1 at *
  generalize HXA : Asn.blk g3 99 #[.int .i64 p, .int .i64 nd.tree, .int .i64 nd.level, .int .i64 nd.stamp, .bool nd.has, .string zh, .int .i64 nd.right, .slice A0 m0 c0] = XA at *
  have F : Hid (∀ W, Hid (Own w0 No W (XA * (aTr g gd gl hv (.slice AO (lst d n).length cO) (lst h n) (lst d n) * C))) → W.cell? ⟨g, 3, none⟩ = some (.slice AO (lst d n).length cO) ∧ W.cell? ⟨g3, 0, none⟩ = some (.int .i64 p)) :=
    Lib.hid fun W h => ⟨(tr_cells (h.out.has (Has.r (Has.l (Has.l (has_blk _ _ _)))))).2.2.2.1, by subst HXA; exact (eight8 (h.out.has (Has.l (has_blk _ _ _)))).1.1⟩
  have SD := Lib.hid S.out.drew
  have t0 := F.out _ SD
  go_region_held3 (fun W => (W.cell? ⟨g, 3, none⟩ = some (.slice AO (lst d n).length cO) ∧ W.cell? ⟨g3, 0, none⟩ = some (.int .i64 p)) ∧ Hid (Own w0 No W (XA * (aTr g gd gl hv (.slice AO (lst d n).length cO) (lst h n) (lst d n) * C)))) (first | exact ⟨t0, SD⟩ | exact ⟨t4, S4⟩) (first | (go_at_call 86; have sx : Hid (Own w0 No _ (XA * (aTr g gd gl hv (.slice AO (lst d n).length cO) (lst h n) (lst d n) * C))) := (by assumption); refine (HP.out _ sx.out.right.left.right.right.vec).mono ?_; rintro e w4 ⟨rfl, hX⟩; have S4 := Lib.hid (sx.out.below hX); have t4 := F.out _ S4))
  clear sx SD t0 F S HP hX
  cases hdp : d p with
  | none =>
    go_wp2_with fail
    go_returns
    exact ⟨rfl, S4.out.right⟩
  | some y =>
    have hlt : (lst d p).length < (lst d n).length := lst_lt d p n hp y hdp
    obtain ⟨b, rfl⟩ : ∃ b, AO = some ⟨b, 0, none⟩ := by
      rcases S4.out.right.left.right.right.vec.forms with ⟨-, hz⟩ | ⟨g, cap, he, -⟩
      · omega
      · cases he; exact ⟨_, rfl⟩
    have d2 : w4.cell? ⟨b, (lst d p).length * 3 + 2, none⟩ = some (.int .i64 y.un) := S4.out.right.left.right.right.vec.cell (by rw [dbs_at _ _ y (lst_get d p n hp y hdp) 2 (by decide)]; rfl)
    rw [hd y hdp] at d2
    obtain ⟨c3, -⟩ := t4
    go_wp2_with fail
    go_returns
    exact ⟨rfl, S4.out.right⟩
set_option maxRecDepth 100000 in
set_option maxHeartbeats 4000000 in
theorem write_yes (m b size gr : Nat) (P : Nat → Sl.Pg) (lv : Value) (L : List Rec) (safe held k : Nat) (hk : k < L.length) (y : Db) (hdp : d p = some y) (hu : y.un ≠ 0) (hx : (⟨p, nd, v⟩ : Sh) ∈ lst h n) (hf : fitsB nd = true) (hst : nd.stamp = (at_ L k : Nat))
    (w0 w : World) (C : Asn) (ht : Tab w0) (hS : Own w0 No w (aTr g gd gl hv ov (lst h n) (lst d n) * (Sl.aDk gd m b n P * (Mn.aMn m Rl.idle * (aLg gl gr m size lv L safe held * C))))) :
    Calls Tryz.prog 46 #[tPtr g, .agg (shV p nd v)] w fun e w' => e = .returned (.int .i64 0) ∧
      Own w0 No w' (aTr g gd gl hv ov (lst h n) (lst (put d p (some ⟨p, y.first, 0⟩)) n) * (Sl.aDk gd m b n (Sl.upd P p ((P p).write (ofL (Nd.bytes nd)))) * (Mn.aMn m Rl.idle * (aLg gl gr m size lv L (forced L k safe) held * C)))) := by
  obtain ⟨A0, c0, hvs⟩ := (ns_at (show Own w0 No w (aNs (lst h n) * C) from by
    have h' := hS
    rw [tr_b] at h'
    exact (h'.right.right.right).re (by ac_rfl : _ = (aNs (lst h n) * C) * (Sl.aDk gd m b n P * (Mn.aMn m Rl.idle * aLg gl gr m size lv L safe held))) |>.left) hx).slice
  dsimp only at hvs
  subst hvs
  have S := Lib.hid (hS.alloc (shV p nd (.slice A0 nd.list.length c0)) 99)
  obtain ⟨AO, cO, rfl⟩ := hS.left.right.right.vec.slice
  have HP := Lib.hid (fun w hw => place_d ho hn p hp (.slice AO (lst d n).length cO) w hw)
  simp only [hdp, Option.isSome_some] at HP
  have HF := Lib.hid (tForce_any gl gr m size lv L safe held k hk)
  have HB := Lib.hid (fun w hv ht => Bytes_fits nd (.agg (nodCells nd (.slice A0 nd.list.length c0))) w hv hf ht)
  have HT := Lib.hid ht
  have HX := Lib.hid hx
  have HW := Lib.hid (Sl.tWrite_ok gd m b n P Rl.idle p (ofL (Nd.bytes nd)) hp (by rw [Nd.ofL_sz]; exact bytes_fits hf) rfl)
  rw [show Rl.idle.use = Rl.idle from rfl] at HW
  rw [← hst] at HF
  have HST := Lib.hid hst
  unfold shV num_debt tPtr lPtr nodCells at *
  clear hS hx hst ht
  obtain ⟨zh, hzh⟩ : ∃ z, z = ofL nd.high := ⟨_, rfl⟩
  rw [← hzh] at S HB ⊢
  have HZH := Lib.hid hzh
  clear hzh
  generalize hY : ofL (Nd.bytes nd) = yb at *
  have HY := Lib.hid hY
  clear hY
  go_enter Tryz.func46, Tryz.ntmps46
  go_upto_region 1 with fail
  obtain ⟨g3, hgz⟩ : ∃ g, g = w.heap.size := ⟨_, rfl⟩
  rw [← hgz] at S ⊢
  clear hgz
  generalize w.alloc _ = w1 at *
  generalize HXA : Asn.blk g3 99 #[.int .i64 p, .int .i64 nd.tree, .int .i64 nd.level, .int .i64 nd.stamp, .bool nd.has, .string zh, .int .i64 nd.right, .slice A0 nd.list.length c0] = XA at *
  have F : Hid (∀ W, Hid (Own w0 No W (XA * (aTr g gd gl hv (.slice AO (lst d n).length cO) (lst h n) (lst d n) * (Sl.aDk gd m b n P * (Mn.aMn m Rl.idle * (aLg gl gr m size lv L safe held * C)))))) → W.cell? ⟨g, 3, none⟩ = some (.slice AO (lst d n).length cO) ∧ W.cell? ⟨g3, 0, none⟩ = some (.int .i64 p)) :=
    Lib.hid fun W h => ⟨(tr_cells (h.out.has (Has.r (Has.l (Has.l (has_blk _ _ _)))))).2.2.2.1, by subst HXA; exact (eight8 (h.out.has (Has.l (has_blk _ _ _)))).1.1⟩
  have SD := Lib.hid S.out.drew
  have t0 := F.out _ SD
  go_region_held3 (fun W => (W.cell? ⟨g, 3, none⟩ = some (.slice AO (lst d n).length cO) ∧ W.cell? ⟨g3, 0, none⟩ = some (.int .i64 p)) ∧ Hid (Own w0 No W (XA * (aTr g gd gl hv (.slice AO (lst d n).length cO) (lst h n) (lst d n) * (Sl.aDk gd m b n P * (Mn.aMn m Rl.idle * (aLg gl gr m size lv L safe held * C))))))) (first | exact ⟨t0, SD⟩ | exact ⟨t4, S4⟩) (first | (go_at_call 86; have sx : Hid (Own w0 No _ (XA * (aTr g gd gl hv (.slice AO (lst d n).length cO) (lst h n) (lst d n) * (Sl.aDk gd m b n P * (Mn.aMn m Rl.idle * (aLg gl gr m size lv L safe held * C)))))) := (by assumption); refine (HP.out _ sx.out.right.left.right.right.vec).mono ?_; rintro e w4 ⟨rfl, hX⟩; have S4 := Lib.hid (sx.out.below hX); have t4 := F.out _ S4))
  clear sx SD t0 F S HP hX
  obtain ⟨c3, -⟩ := t4
  have hlt : (lst d p).length < (lst d n).length := lst_lt d p n hp y hdp
  obtain ⟨b0, rfl⟩ : ∃ b, AO = some ⟨b, 0, none⟩ := by
    rcases S4.out.right.left.right.right.vec.forms with ⟨-, hz⟩ | ⟨g, cap, he, -⟩
    · omega
    · cases he; exact ⟨_, rfl⟩
  have hcu : (dbs (lst d n))[(lst d p).length * 3 + 2]? = some (.int .i64 y.un) := by rw [dbs_at _ _ y (lst_get d p n hp y hdp) 2 (by decide)]; rfl
  have d2 := S4.out.right.left.right.right.vec.cell hcu
  have HCU := Lib.hid hcu
  have hub : ((y.un : Int) == 0) = false := by simpa using hu
  have hui : ¬ ((y.un : Int) = 0) := by omega
  go_upto_region 4 with fail
  have S5 := S4.out.drew
  rw [wr_f] at S5
  have SF := Lib.hid S5
  clear S5
  have G4 : (w4.drew.cell? ⟨g, 1, none⟩ = some (.pointer (some ⟨gl, 0, none⟩)) ∧ w4.drew.cell? ⟨g3, 3, none⟩ = some (.int .i64 nd.stamp)) := ⟨(tr_cells (S4.out.drew.has (Has.r (Has.l (Has.l (has_blk _ _ _)))))).2.1, by subst HXA; exact (eight8 (S4.out.drew.has (Has.l (has_blk _ _ _)))).1.2.2.2.1⟩
  go_region_held3 (fun W => (W.cell? ⟨g, 1, none⟩ = some (.pointer (some ⟨gl, 0, none⟩)) ∧ W.cell? ⟨g3, 3, none⟩ = some (.int .i64 nd.stamp))) (first | exact G4 | exact G5) (first | (go_at_call 88; refine (SF.out.call HF.out.l).mono ?_; rintro e w5 ⟨rfl, hX⟩; rw [← wr_f] at hX; have S5 := Lib.hid hX; have G5 : (w5.cell? ⟨g, 1, none⟩ = some (.pointer (some ⟨gl, 0, none⟩)) ∧ w5.cell? ⟨g3, 3, none⟩ = some (.int .i64 nd.stamp)) := ⟨(tr_cells (S5.out.has (Has.r (Has.l (Has.l (has_blk _ _ _)))))).2.1, by subst HXA; exact (eight8 (S5.out.has (Has.l (has_blk _ _ _)))).1.2.2.2.1⟩))
  clear SF G4 G5 hX S4 c3 d2 HF
  have hrow := ns_at (show Own w0 No w5 (aNs (lst h n) * (XA * (Sl.aDk gd m b n P * (Mn.aMn m Rl.idle * (aLg gl gr m size lv L (forced L k safe) held * C))))) from by
    have h' := S5.out
    rw [wr_o] at h'
    exact h'.right.right.right) HX.out
  have HB2 := Lib.hid (HB.out w5 ⟨.slice A0 nd.list.length c0, by rw [HZH.out]; rfl, hrow⟩ (Tab.own HT.out S5.out))
  clear hrow HB
  obtain ⟨⟨k0, k1, k2, k3, k4, k5, k6, k7⟩, -⟩ : _ ∧ True := ⟨(eight8 (S5.out.has (by subst HXA; exact Has.l (has_blk _ _ _)))).1, trivial⟩
  go_wp2_with fail
  refine HB2.out.mono ?_
  rintro e w6 ⟨rfl, hX⟩
  have S6 := S5.out.below hX
  rw [wr_d] at S6
  have S7 := Lib.hid S6
  clear S6 hX S5 HB2 k0 k1 k2 k3 k4 k5 k6 k7
  go_upto_region 8 with fail
  have SW := Lib.hid S7.out.drew
  have G6 : (w6.drew.cell? ⟨g, 0, none⟩ = some (.pointer (some ⟨gd, 0, none⟩)) ∧ w6.drew.cell? ⟨g3, 0, none⟩ = some (.int .i64 p)) := ⟨(tr_cells (S7.out.drew.has (Has.r (Has.r (Has.l (Has.l (has_blk _ _ _))))))).1, by subst HXA; exact (eight8 (S7.out.drew.has (Has.r (Has.l (has_blk _ _ _))))).1.1⟩
  go_region_held3 (fun W => (W.cell? ⟨g, 0, none⟩ = some (.pointer (some ⟨gd, 0, none⟩)) ∧ W.cell? ⟨g3, 0, none⟩ = some (.int .i64 p))) (first | exact G6 | exact G7) (first | (go_at_call 90; refine (SW.out.call HW.out.l).mono ?_; rintro e w7 ⟨rfl, hX⟩; have S8 := Lib.hid hX; have G7 : (w7.cell? ⟨g, 0, none⟩ = some (.pointer (some ⟨gd, 0, none⟩)) ∧ w7.cell? ⟨g3, 0, none⟩ = some (.int .i64 p)) := ⟨(tr_cells (S8.out.has (Has.r (Has.r (Has.l (Has.l (has_blk _ _ _))))))).1, by subst HXA; exact (eight8 (S8.out.has (Has.r (Has.l (has_blk _ _ _))))).1.1⟩))
  rw [← wr_d, wr_o] at hX
  have S9 := Lib.hid hX
  clear SW G6 G7 S7 S8 hX HW
  have d2 := S9.out.vec.cell HCU.out
  have f2 := S9.out.vec.free ((lst d p).length * 3 + 2)
  obtain ⟨-, -, -, c3, -, f3⟩ := tr_cells (S9.out.has (Has.r (Has.l (has_blk _ _ _))))
  have HE : Hid (dbs (lst (put d p (some ⟨p, y.first, 0⟩)) n) = (dbs (lst d n)).set ((lst d p).length * 3 + 2) (.int .i64 0)) := Lib.hid (by
    have hyp := ho p y hdp
    rw [put_some hp, lst_some hp hdp, dbs_set _ _ y 2 (by decide), dbs_app]
    subst hyp
    rfl)
  have HL : Hid ((lst (put d p (some ⟨p, y.first, 0⟩)) n).length = (lst d n).length) := Lib.hid (by rw [put_some hp, lst_some hp hdp]; simp)
  have S10 := S9.out.set (Sets.l (sets_vec _ _ _ _ _ _ _ (by omega : (lst d p).length * 3 + 2 < (lst d n).length * 3) (.int .i64 0)))
  have S11 := Lib.hid S10
  clear S10
  go_wp2_with fail
  go_returns
  refine ⟨rfl, ?_⟩
  rw [tr_d, HE.out, HL.out]
  exact (S11.out.re (dropX ..)).right
end
end Go.Proofs.YtmnfoafpjmlbfaaGreatDoor.Tr
end
