/- tied, walked. -/
import Derived.Test.YtbcemognghkmcaaKtK
namespace Go.Proofs.Ytbcemognghkmcaa.Kt
open Go.ChangeShapes Go.WideShapes Go.ChangeAt Go.RowKit Go.PlainAid Aid
open Go.Shelf
set_option linter.unusedVariables false
set_option linter.unusedSimpArgs false
attribute [local go_sem] Oper.semAt_some
theorem own_joinK {w0 w w' : World} {O0 : Nat → Prop} {A B : Asn} (h : Aid.Own w0 O0 w A) (k : Aid.Own w No w' B) : Aid.Own w0 O0 w' (B * A) :=
  h.then fun O hO => k.frame hO (fun _ h => h.elim) (fun _ => ⟨Or.inr, fun h => h.elim (fun x => x.elim) _root_.id⟩)
set_option maxRecDepth 100000 in
set_option maxHeartbeats 4000000 in
theorem Backward_any (w : World) (A : Option Addr) (m c : Nat) :
    Calls Try.prog 19 #[.slice A m c] w fun e w' => ∃ gs, e = .returned (.func (.func 23) #[] #[.pointer (some ⟨gs, 0, none⟩)]) ∧ Aid.Own w No w' (Asn.blk gs 26 #[.slice A m c] * Asn.emp) := by
  have S := Lib.hid ((Aid.Own.none w).alloc #[.slice A m c] 26)
  have hmf : ∀ (fn : Fn) (first cap : Array Value) (w : World), (Instr.makeFunc fn first cap).run Try.prog w = .ok (.func fn first cap) w := fun _ _ _ _ => rfl
  go_enter Try.func19, Try.ntmps19
  go_wp2_with fail
  go_returns
  exact ⟨_, rfl, S.out⟩
theorem back_stops (n : Nat) (hn : 3 ≤ n) (w : World) (gs : Nat) (v : Value) (l : List Int) (hl : l.length ≤ 4000000)
    (hb : Blk w gs 26 #[v]) (hv : Vec w 3 1 v l.length (numsK l)) (hgs : ∀ k, VB v k → k ≠ gs) :
    SeqStopsK Fence.wide n Try.prog 23 #[.pointer (some ⟨gs, 0, none⟩)] (fun x : Bw l => #[.int .i64 x.1.1, .int .i64 x.1.2]) (VKp gs v) (fun xs => xs = bwA l) (fun _ => True) (bwA l).length w :=
  fun ly J Jx W1 hW hJ hJx hY h0 => back_walk n hn ly w gs v l hl hb hv hgs J Jx W1 hW hJ hJx hY h0
set_option maxRecDepth 100000 in
set_option maxHeartbeats 16000000 in
theorem tied_any (A : Option Addr) (c : Nat) (es : List Edg) (w0 w : World) (C : Asn) (hS : Aid.Own w0 No w C) (hP : ∀ W X, Aid.Own w0 No W (X * C) → Prs W A es) (hn : es.length ≤ 900) (hw : Wf es) :
    Calls Try.prog 16 #[.slice A es.length c] w fun e w' => ∃ f, e = .returned (.map (some f)) ∧ Aid.Own w0 No w' (aMap Try.prog 3 f (iE (tiedF es)) * C) := by
  refine (callsIn_wide (n := 6)).1 ?_
  have HP := Lib.hid hP
  have HW := Lib.hid hw
  have HS := Lib.hid hS
  have hmm := @run_makeMap Try.prog
  clear hS hP hw
  refine callsIn_of_wp_marks Try.func16 rfl trivial ?_ rfl
  simp only [Try.ntmps16, List.size_toArray, List.length_cons, List.length_nil, Nat.reduceAdd, Nat.reduceSub, Array.replicate_succ, Array.replicate_zero, List.push_toArray, List.append_toArray, List.nil_append, List.cons_append]
  gi_wp2
  refine ⟨trivial, ?_⟩
  refine (callsIn_wide.2 (back_any A c es w0 w C HS.out HP.out (by omega) HW.out)).mono ?_
  rintro e w1 ⟨g2, G2, rfl, hGl2, hG2, S1⟩
  have HG2 := Lib.hid hG2
  have S1 := Lib.hid S1
  clear hG2 HS hGl2
  gi_wp2
  have S2 := ((S1.out.mapNew Try.prog 3).alloc #[.map (some g2)] 38).alloc #[.map (some w1.heap.size)] 40
  simp only [World.size_alloc] at S2
  have S2 := Lib.hid S2
  obtain ⟨f, hf⟩ : ∃ f, f = w1.heap.size := ⟨_, rfl⟩
  obtain ⟨b3, hb3⟩ : ∃ b, b = f + 1 := ⟨_, rfl⟩
  obtain ⟨b4, hb4⟩ : ∃ b, b = f + 1 + 1 := ⟨_, rfl⟩
  rw [← hf] at S2 ⊢
  rw [← hb4, ← hb3] at S2 ⊢
  generalize ((w1.alloc _).alloc _).alloc _ = w3 at S2 ⊢
  clear S1 hf hb3 hb4 hmm
  refine ⟨trivial, ?_⟩
  obtain ⟨CC, hCC⟩ : ∃ CC, CC = Asn.blk b4 40 #[.map (some f)] * (Asn.blk b3 38 #[.map (some g2)] * (aMap Try.prog 3 f [] * (aGm g2 G2 * C))) := ⟨_, rfl⟩
  have HCC := Lib.hid hCC
  rw [← hCC] at S2
  clear hCC
  have HPC : Hid (∀ W X, Aid.Own w0 No W (X * CC) → Prs W A es) := Lib.hid (fun W X h => HP.out W (X * (Asn.blk b4 40 #[.map (some f)] * (Asn.blk b3 38 #[.map (some g2)] * (aMap Try.prog 3 f [] * aGm g2 G2)))) (h.re (by rw [HCC.out]; ac_rfl)))
  refine (callsIn_wide.2 (forth_any A c es w0 w3 CC S2.out HPC.out (by omega) HW.out)).mono ?_
  rintro e w4 ⟨g1, G1, rfl, hGl1, hG1, S3⟩
  have HG1 := Lib.hid hG1
  have S3 := Lib.hid S3
  have HLF := left_any g1 G1 A c es (nmE es) w0 w4 CC S3.out HPC.out hn (fun e he => (nmE_mem (b := e.2) he).1) (fun a b h => by rw [HG1.out] at h; exact (nmE_mem (mem_toL.1 h)).2) (nmE_64 HW.out) (by rw [nmE_len]; omega) (fun a => by rw [HG1.out]; exact Nat.le_trans (toL_len es a) (by omega))
  rw [show gl G1 = toL es from funext HG1.out] at HLF
  have HLF := Lib.hid HLF
  clear hG1 S2 S3 hGl1 HG1
  gi_wp2
  refine ⟨trivial, ?_⟩
  refine (callsIn_wide.2 HLF.out).mono ?_
  rintro e w5 ⟨v, rfl, S4⟩
  have S4 : Aid.Own w0 No w5 (Asn.vec 3 1 v (ordE es).length (numsK (ordE es)) * (aGm g1 G1 * CC)) := S4
  have S5 := Lib.hid ((S4.re (show _ = aGm g1 G1 * (Asn.vec 3 1 v (ordE es).length (numsK (ordE es)) * CC) by ac_rfl)).right)
  obtain ⟨A5, c5, he⟩ := S5.out.vec.slice
  subst he
  clear S4 HLF
  gi_wp2
  refine ⟨trivial, ?_⟩
  refine (callsIn_wide.2 (Backward_any _ _ _ _)).mono ?_
  rintro e w6 ⟨gs, rfl, hX⟩
  have S6 := Lib.hid (own_joinK S5.out hX)
  clear S5 hX
  obtain ⟨L, hL⟩ : ∃ L, L = ordE es := ⟨_, rfl⟩
  have HL := Lib.hid hL
  have hLm : Hid (∀ p, p ∈ bwd L → p.2 ∈ nmE es) := Lib.hid (fun p hp => (ordE_ok es hn).1 _ (by have := bwd_mem hp; rw [hL] at this; exact this))
  have hLl : L.length ≤ 4000000 := by rw [hL]; have := (ordE_ok es hn).2; omega
  rw [← hL] at S6 ⊢
  clear hL
  have S7 := S6.out.re (show _ = (aMap Try.prog 3 f (iE (tiesF es [] [])) * aGm g2 G2) * (Asn.blk gs 26 #[.slice A5 L.length c5] * (Asn.vec 3 1 (.slice A5 L.length c5) L.length (numsK L) * (Asn.blk b3 38 #[.map (some g2)] * (Asn.blk b4 40 #[.map (some f)] * (C * Asn.emp))))) by
    rw [HCC.out]
    show _ = (aMap Try.prog 3 f [] * aGm g2 G2) * _
    ac_rfl)
  obtain ⟨⟨O, ⟨X, Y, hA, hR, hd, hO⟩, hfr⟩, hch⟩ := S7
  have hXB : ∀ k, X k → k < w6.heap.size := fun k hk => Asn.lt _ _ _ hA k hk
  have hYB : ∀ k, Y k → k < w6.heap.size := fun k hk => Asn.lt _ _ _ hR k hk
  have sR := Own.start hR
  have hbs : Blk w6 gs 26 #[.slice A5 L.length c5] := sR.has (Has.l (has_blk _ _ _))
  have hvec : Vec w6 3 1 (.slice A5 L.length c5) L.length (numsK L) := (sR.right).vec
  have hYgs : Y gs := by
    obtain ⟨X1, Y1, h1, h2, h3, h4⟩ := hR
    exact (h4 gs).2 (Or.inl ((h1.2 gs).2 rfl))
  have hYv : ∀ k, VB (.slice A5 L.length c5) k → Y k ∧ k ≠ gs := by
    obtain ⟨X1, Y1, h1, ⟨X2, Y2, h2, h5, h6, h7⟩, h3, h4⟩ := hR
    intro k hk
    have hk2 : Y1 k := (h7 k).2 (Or.inl ((h2.2 k).2 hk))
    exact ⟨(h4 k).2 (Or.inr hk2), fun e => h3 gs ((h1.2 gs).2 rfl) (e ▸ hk2)⟩
  have HNS2 : Hid (∀ a b, b ∈ gl G2 a → b ∈ nmE es) := Lib.hid (fun a b h => by rw [HG2.out] at h; exact (nmE_mem (mem_swp.1 h)).1)
  have HL2 : Hid (∀ a, (gl G2 a).length ≤ 1000) := Lib.hid (fun a => by
    rw [HG2.out]
    have := toL_len (es.map swp) a
    rw [List.length_map] at this
    omega)
  have HEG : Hid (gl G2 = toL (es.map swp)) := Lib.hid (funext HG2.out)
  have hstep : ∀ (W W' : World) (row : Option Nat) (E : List En), (aMap Try.prog 3 f E * aGm g2 G2).P W X → Chg X w6 W → W.grownBy W' row → (∀ r, row = some r → w6.heap.size ≤ r) → (aMap Try.prog 3 f E * aGm g2 G2).P W' X ∧ Chg X w6 W' := by
    intro W W' row E h1 h2 hg hr
    refine ⟨Asn.keep _ W W' X (fun k => row = some k) h1 ⟨hg.os, hg.tape, hg.output, hg.size, fun k hk hS => hg.block k hk (fun e => hS e.symm)⟩ (fun k hk e => by have := hr k e; have := hXB k hk; omega), ?_⟩
    exact ⟨hg.os.trans h2.os, hg.tape.trans h2.tape, hg.output.trans h2.output, Nat.le_trans h2.size hg.size, fun k hk hS => (hg.block k (Nat.lt_of_lt_of_le hk h2.size) (fun e => by have := hr k e.symm; omega)).trans (h2.block k hk hS)⟩
  have HST := Lib.hid hstep
  have HR := Lib.hid hR
  have HYV := Lib.hid hYv
  clear S6 hstep hR hYv sR
  gi_wp2
  refine wpIn_rangeFunc_ownG rfl (by decide) rfl trivial (enters_of Try.func23 (by kernel_rfl) rfl)
    (back_stops 5 (by omega) w6 gs (.slice A5 L.length c5) L hLl hbs hvec (fun k hk => (HYV.out k hk).2)) ?hKt ?hKb (Below.refl _ _) (fun _ => rfl)
    (fun (pre : List (Bw L)) W => (aMap Try.prog 3 f (iE (tiesF es [] (pre.map (·.1)))) * aGm g2 G2).P W X ∧ Chg X w6 W)
    (fun _ (pre : List (Bw L)) W => False)
    (fun s W W' row hs hg hr => HST.out W W' row _ hs.1 hs.2 hg (fun r e => (hr r e).1)) (fun c s W W' row hs => hs.elim)
    ⟨hA, Chg.refl _ _⟩
    (fun (x : Bw L) => { tmps := #[.slice A es.length c, undef, .map none, .pointer (some ⟨b3, 0, none⟩), .pointer (some ⟨b4, 0, none⟩), undef, .int .i64 x.1.2, .slice A es.length c, .map (some g2), .map (some f), .slice A es.length c, .map (some g1), .slice A es.length c, .slice A5 L.length c5, .func (.func 23) #[] #[.pointer (some ⟨gs, 0, none⟩)], .int .i64 x.1.1, .int .i64 x.1.2, undef, undef, undef, undef, undef], defers := [] }) ?assign ?body ?done ?stop
  case hKt => exact fun h k => ⟨Nat.le_trans h.1 k.1, k.2.1.trans h.2.1, fun i hi => (k.2.2 i hi).trans (h.2.2 i hi)⟩
  case hKb =>
    intro W l o o' hl ho h1 h2
    have hlt := (Array.getElem?_eq_some_iff.1 ho).1
    refine ⟨(grownBy_putObj' W l o').size, World.putObj_heap_other (by have := hYB gs hYgs; omega), fun k hk => World.putObj_heap_other (by have := hYB k (HYV.out k hk).1; omega)⟩
  case assign =>
    intro l x W K hK
    gi_wp2
    simpa using hK
  case body =>
    rintro l pre x W ⟨hP, hc⟩ hlen
    have hRW := Asn.keep _ w6 W Y X HR.out hc (fun k hk hx => hd k hx hk)
    have sRW := Own.start hRW
    have c3 : W.cell? ⟨b3, 0, none⟩ = some (.map (some g2)) := (sRW.right.right.has (Has.l (has_blk _ _ _))).cell 0
    have c4 : W.cell? ⟨b4, 0, none⟩ = some (.map (some f)) := (sRW.right.right.right.has (Has.l (has_blk _ _ _))).cell 0
    have hxN : x.1.2 ∈ nmE es := hLm.out _ x.2
    have htk := ties_ok es (pre.map (·.1)) (fun p hp => by
      obtain ⟨y, -, rfl⟩ := List.mem_map.1 hp
      exact hLm.out _ y.2)
    have HT := tie_any g2 G2 (nmE es) x.1.2 f (tiesF es [] (pre.map (·.1))) W W X Asn.emp ((Own.start hP).addEmp.re (Asn.assoc _ _ _)) (nmE_64 HW.out _ hxN) HNS2.out hxN htk (nmE_64 HW.out) (by rw [nmE_len]; omega) HL2.out
    rw [HEG.out] at HT
    have HT := Lib.hid HT
    clear hRW sRW hxN htk
    gi_wp2
    refine ⟨trivial, ?_⟩
    refine (callsIn_wide.2 HT.out).mono ?_
    rintro e W2 ⟨rfl, hX⟩
    have hX2 := (hX.re (show _ = (aMap Try.prog 3 f (iE (tieF (toL (es.map swp)) x.1.2 (nmE es).length (tiesF es [] (pre.map (·.1))))) * aGm g2 G2) * Asn.emp by ac_rfl)).left
    obtain ⟨⟨O2, hP2, -⟩, hc2⟩ := hX2
    have hOX : O2 = X := funext fun k => propext ((det_mul (det_map _ _ _) (det_gm _ _)) _ _ _ _ hP2 hP k)
    rw [hOX] at hP2
    have hsz : w6.heap.size ≤ W.heap.size := hc.size
    gi_wp2
    refine ⟨⟨hc2.size, fun k o hk ho _ => (hc2.block k (Array.getElem?_eq_some_iff.1 ho).1 (fun hx => by have := hXB k hx; omega)).trans ho⟩, ⟨hc2.size, hc2.block gs (by have := hYB gs hYgs; omega) (fun hx => hd gs hx hYgs), fun k hk => hc2.block k (by have := hYB k (HYV.out k hk).1; omega) (fun hx => hd k hx (HYV.out k hk).1)⟩, ?_, hc.trans hc2 (fun _ _ h => h)⟩
    rw [List.map_append, List.map_singleton, ties_snoc]
    exact hP2
  case done =>
    rintro D ys W' hD rfl ⟨hP, hc⟩ hK
    have hRW := Asn.keep _ w6 W' Y X HR.out hc (fun k hk hx => hd k hx hk)
    have sRW := Own.start hRW
    have bk4 := (sRW.right.right.right.has (Has.l (has_blk _ _ _)))
    have c4 : W'.cell? ⟨b4, 0, none⟩ = some (.map (some f)) := bk4.cell 0
    rw [bwA_val] at hP
    have hfin := HST.out W' (W'.putObj D (.deferred none)) (some D) _ hP hc (grownBy_putObj' W' D (.deferred none)) (fun r e => by cases e; exact hD)
    have hO2 : Aid.Own w0 No (W'.putObj D (.deferred none)) (aMap Try.prog 3 f (iE (tiedF es)) * C) := by
      have h1 : Aid.Own w6 X (W'.putObj D (.deferred none)) (aMap Try.prog 3 f (iE (tiesF es [] (bwd L))) * aGm g2 G2) := ⟨⟨X, hfin.1, Fresh.refl _ _⟩, hfin.2⟩
      have h2 := h1.frame HR.out hd hO
      obtain ⟨⟨O', hB, hf'⟩, hc'⟩ := h2
      have h3 : Aid.Own w0 No (W'.putObj D (.deferred none)) _ := ⟨⟨O', hB, fun k hk => by
        rcases hf' k hk with h' | h'
        · exact hfr k h'
        · exact Or.inr (by have := hch.size; omega)⟩, hch.trans hc' (fun i hi hO => (hfr i hO).elim id (fun x => by omega))⟩
      have h4 := h3.re (show _ = (aGm g2 G2 * (Asn.blk gs 26 #[.slice A5 L.length c5] * (Asn.vec 3 1 (.slice A5 L.length c5) L.length (numsK L) * (Asn.blk b3 38 #[.map (some g2)] * (Asn.blk b4 40 #[.map (some f)] * Asn.emp))))) * (aMap Try.prog 3 f (iE (tiesF es [] (bwd L))) * C) by ac_rfl)
      have h5 := h4.right
      rw [HL.out] at h5
      exact h5
    have HO2 := Lib.hid hO2
    clear hO2 hfin hRW sRW hP
    gi_wp2
    refine ⟨by simp, .inl ⟨_, _, rfl, run_takeDeferred hK, ?_⟩⟩
    exact ⟨.map (some f), by simp [results, Try.f16, go_sem], f, rfl, HO2.out⟩
  case stop =>
    rintro D c pre W' hD - hx
    exact hx.elim
end Go.Proofs.Ytbcemognghkmcaa.Kt
