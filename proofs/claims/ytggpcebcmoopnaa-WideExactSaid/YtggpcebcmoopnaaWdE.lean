/- Whole numbers of 128 bits: WideLaws' walk. -/
import Derived.Test.YtggpcebcmoopnaaWdD
namespace Go.Proofs.Ytggpcebcmoopnaa.Wd
open Go.ChangeShapes Go.WideShapes Go.ChangeAt Go.RowKit Go.PlainAid Aid
set_option linter.unusedVariables false
set_option linter.unusedSimpArgs false
theorem keep6 {w0 W W' : World} {g1 g2 g3 : Nat} {a b c d e f : Value} (hX : Below W.heap.size W W') (hB : Hid (Below w0.heap.size w0 W)) (h0 : W.cell? ⟨g1, 0, none⟩ = some a) (h1 : W.cell? ⟨g1, 1, none⟩ = some b)
    (h2 : W.cell? ⟨g2, 0, none⟩ = some c) (h3 : W.cell? ⟨g2, 1, none⟩ = some d) (h4 : W.cell? ⟨g3, 0, none⟩ = some e) (h5 : W.cell? ⟨g3, 1, none⟩ = some f) :
    Hid (Below w0.heap.size w0 W') ∧ W'.cell? ⟨g1, 0, none⟩ = some a ∧ W'.cell? ⟨g1, 1, none⟩ = some b ∧ W'.cell? ⟨g2, 0, none⟩ = some c ∧ W'.cell? ⟨g2, 1, none⟩ = some d ∧ W'.cell? ⟨g3, 0, none⟩ = some e ∧ W'.cell? ⟨g3, 1, none⟩ = some f :=
  ⟨Lib.hid (bl hB.out hX), keepc hX h0, keepc hX h1, keepc hX h2, keepc hX h3, keepc hX h4, keepc hX h5⟩
/-- A call that gives a number, for letters. -/
abbrev Gv (f : Nat) (args : Array Value) (v : Value) : Prop := ∀ w, Calls Try.prog f args w fun e w' => e = .returned v ∧ Below w.heap.size w w'
set_option maxHeartbeats 16000000 in
set_option maxRecDepth 100000 in
theorem laws_walk (ah al bh bl ch cl sh sl uh ul th tl oh ol ph pl qh ql rh rl kh kl ih il jh jl dh dl fh fl m n D : Int) (cs : ByteArray) (w : World)
    (A1 : Gv 7 #[.agg #[.int .i64 ah, .int .u64 al], .agg #[.int .i64 bh, .int .u64 bl]] (.agg #[.int .i64 sh, .int .u64 sl]))
    (A2 : Gv 7 #[.agg #[.int .i64 bh, .int .u64 bl], .agg #[.int .i64 ah, .int .u64 al]] (.agg #[.int .i64 sh, .int .u64 sl]))
    (A3 : Gv 7 #[.agg #[.int .i64 sh, .int .u64 sl], .agg #[.int .i64 ch, .int .u64 cl]] (.agg #[.int .i64 uh, .int .u64 ul]))
    (A4 : Gv 7 #[.agg #[.int .i64 bh, .int .u64 bl], .agg #[.int .i64 ch, .int .u64 cl]] (.agg #[.int .i64 th, .int .u64 tl]))
    (A5 : Gv 7 #[.agg #[.int .i64 ah, .int .u64 al], .agg #[.int .i64 th, .int .u64 tl]] (.agg #[.int .i64 uh, .int .u64 ul]))
    (A6 : Gv 10 #[.agg #[.int .i64 sh, .int .u64 sl], .agg #[.int .i64 bh, .int .u64 bl]] (.agg #[.int .i64 ah, .int .u64 al]))
    (A7 : Gv 19 #[.int .i64 0] (.agg #[.int .i64 oh, .int .u64 ol]))
    (A8 : Gv 7 #[.agg #[.int .i64 ah, .int .u64 al], .agg #[.int .i64 oh, .int .u64 ol]] (.agg #[.int .i64 ah, .int .u64 al]))
    (B1 : Gv 14 #[.agg #[.int .i64 sh, .int .u64 sl], .int .i64 n] (.agg #[.int .i64 ph, .int .u64 pl]))
    (B2 : Gv 14 #[.agg #[.int .i64 ah, .int .u64 al], .int .i64 n] (.agg #[.int .i64 qh, .int .u64 ql]))
    (B3 : Gv 14 #[.agg #[.int .i64 bh, .int .u64 bl], .int .i64 n] (.agg #[.int .i64 rh, .int .u64 rl]))
    (B4 : Gv 7 #[.agg #[.int .i64 qh, .int .u64 ql], .agg #[.int .i64 rh, .int .u64 rl]] (.agg #[.int .i64 ph, .int .u64 pl]))
    (B5 : Gv 14 #[.agg #[.int .i64 ah, .int .u64 al], .int .i64 1] (.agg #[.int .i64 ah, .int .u64 al]))
    (B6 : Gv 14 #[.agg #[.int .i64 ah, .int .u64 al], .int .i64 (-1)] (.agg #[.int .i64 kh, .int .u64 kl]))
    (B7 : Gv 10 #[.agg #[.int .i64 oh, .int .u64 ol], .agg #[.int .i64 ah, .int .u64 al]] (.agg #[.int .i64 kh, .int .u64 kl]))
    (C1 : Gv 19 #[.int .i64 m] (.agg #[.int .i64 ih, .int .u64 il]))
    (C2 : Gv 19 #[.int .i64 n] (.agg #[.int .i64 jh, .int .u64 jl]))
    (C3 : Gv 10 #[.agg #[.int .i64 ih, .int .u64 il], .agg #[.int .i64 jh, .int .u64 jl]] (.agg #[.int .i64 dh, .int .u64 dl]))
    (C4 : Gv 12 #[.agg #[.int .i64 dh, .int .u64 dl], .agg #[.int .i64 oh, .int .u64 ol]] (.int .i64 D))
    (C5 : Gv 12 #[.agg #[.int .i64 ih, .int .u64 il], .agg #[.int .i64 jh, .int .u64 jl]] (.int .i64 D))
    (C6 : Gv 14 #[.agg #[.int .i64 ih, .int .u64 il], .int .i64 n] (.agg #[.int .i64 fh, .int .u64 fl]))
    (C7 : Gv 14 #[.agg #[.int .i64 jh, .int .u64 jl], .int .i64 m] (.agg #[.int .i64 fh, .int .u64 fl]))
    (E1 : Gv 16 #[.agg #[.int .i64 ah, .int .u64 al]] (.string cs))
    (E2 : Gv 20 #[.string cs] (.tuple #[.agg #[.int .i64 ah, .int .u64 al], .int .i64 0]))
    (hD : (m < n ∧ D = -1) ∨ (m = n ∧ D = 0) ∨ (n < m ∧ D = 1)) :
    Calls Try.prog 4 #[.agg #[.int .i64 ah, .int .u64 al], .agg #[.int .i64 bh, .int .u64 bl], .agg #[.int .i64 ch, .int .u64 cl], .int .i64 m, .int .i64 n] w fun e w' => e = .returned (.bool true) ∧ Below w.heap.size w w' := by
  have S0 := Lib.hid ((((Own.none w).alloc #[.int .i64 ah, .int .u64 al] 24).alloc #[.int .i64 bh, .int .u64 bl] 24).alloc #[.int .i64 ch, .int .u64 cl] 24)
  go_enter Try.func4, Try.ntmps4
  simp only [World.size_alloc] at S0
  go_upto_region 1 with fail
  obtain ⟨g5, hgz⟩ : ∃ g, g = w.heap.size := ⟨_, rfl⟩
  rw [← hgz] at S0 ⊢
  clear hgz
  generalize World.alloc (World.alloc (World.alloc w _) _) _ = w1 at *
  generalize g5 + 1 + 1 = g7 at *
  generalize g5 + 1 = g6 at *
  go_wp2_with fail
  refine (awake_any _).mono ?_
  rintro e w2 ⟨rfl, hX⟩
  have S1 := Lib.hid (S0.out.below hX)
  clear hX S0 
  go_upto_region 3 with fail
  obtain ⟨⟨qc0, qc1⟩, -⟩ := two_of (S1.out.has (Has.l (has_blk g7 _ _)))
  obtain ⟨⟨qb0, qb1⟩, -⟩ := two_of (S1.out.has (Has.r (Has.l (has_blk g6 _ _))))
  obtain ⟨⟨qa0, qa1⟩, -⟩ := two_of (S1.out.has (Has.r (Has.r (Has.l (has_blk g5 _ _)))))
  have S9 := Lib.hid S1.out.drew
  clear S1
  have S1 := S9
  clear S9
  go_region_held3 (fun W : World => Hid (Own w No W (Asn.blk g7 24 #[.int .i64 ch, .int .u64 cl] * (Asn.blk g6 24 #[.int .i64 bh, .int .u64 bl] * (Asn.blk g5 24 #[.int .i64 ah, .int .u64 al] * (Asn.emp))))) ∧ W.cell? ⟨g7, 0, none⟩ = some (.int .i64 ch) ∧ W.cell? ⟨g7, 1, none⟩ = some (.int .u64 cl) ∧ W.cell? ⟨g6, 0, none⟩ = some (.int .i64 bh) ∧ W.cell? ⟨g6, 1, none⟩ = some (.int .u64 bl) ∧ W.cell? ⟨g5, 0, none⟩ = some (.int .i64 ah) ∧ W.cell? ⟨g5, 1, none⟩ = some (.int .u64 al)) (first | exact ⟨S1, qc0, qc1, qb0, qb1, qa0, qa1⟩) (first | (go_at_call 7; with_reducible (refine (A1 _).mono ?_); rintro e w' ⟨rfl, hX⟩; have S9 := Lib.hid (S1.out.below hX); clear S1 hX qc0 qc1 qb0 qb1 qa0 qa1; have S1 := S9; clear S9; obtain ⟨⟨qc0, qc1⟩, -⟩ := two_of (S1.out.has (Has.l (has_blk g7 _ _))); obtain ⟨⟨qb0, qb1⟩, -⟩ := two_of (S1.out.has (Has.r (Has.l (has_blk g6 _ _)))); obtain ⟨⟨qa0, qa1⟩, -⟩ := two_of (S1.out.has (Has.r (Has.r (Has.l (has_blk g5 _ _)))))) | (go_at_call 7; with_reducible (refine (A2 _).mono ?_); rintro e w' ⟨rfl, hX⟩; have S9 := Lib.hid (S1.out.below hX); clear S1 hX qc0 qc1 qb0 qb1 qa0 qa1; have S1 := S9; clear S9; obtain ⟨⟨qc0, qc1⟩, -⟩ := two_of (S1.out.has (Has.l (has_blk g7 _ _))); obtain ⟨⟨qb0, qb1⟩, -⟩ := two_of (S1.out.has (Has.r (Has.l (has_blk g6 _ _)))); obtain ⟨⟨qa0, qa1⟩, -⟩ := two_of (S1.out.has (Has.r (Has.r (Has.l (has_blk g5 _ _)))))) | (go_at_call 7; with_reducible (refine (A3 _).mono ?_); rintro e w' ⟨rfl, hX⟩; have S9 := Lib.hid (S1.out.below hX); clear S1 hX qc0 qc1 qb0 qb1 qa0 qa1; have S1 := S9; clear S9; obtain ⟨⟨qc0, qc1⟩, -⟩ := two_of (S1.out.has (Has.l (has_blk g7 _ _))); obtain ⟨⟨qb0, qb1⟩, -⟩ := two_of (S1.out.has (Has.r (Has.l (has_blk g6 _ _)))); obtain ⟨⟨qa0, qa1⟩, -⟩ := two_of (S1.out.has (Has.r (Has.r (Has.l (has_blk g5 _ _)))))) | (go_at_call 7; with_reducible (refine (A4 _).mono ?_); rintro e w' ⟨rfl, hX⟩; have S9 := Lib.hid (S1.out.below hX); clear S1 hX qc0 qc1 qb0 qb1 qa0 qa1; have S1 := S9; clear S9; obtain ⟨⟨qc0, qc1⟩, -⟩ := two_of (S1.out.has (Has.l (has_blk g7 _ _))); obtain ⟨⟨qb0, qb1⟩, -⟩ := two_of (S1.out.has (Has.r (Has.l (has_blk g6 _ _)))); obtain ⟨⟨qa0, qa1⟩, -⟩ := two_of (S1.out.has (Has.r (Has.r (Has.l (has_blk g5 _ _)))))) | (go_at_call 7; with_reducible (refine (A5 _).mono ?_); rintro e w' ⟨rfl, hX⟩; have S9 := Lib.hid (S1.out.below hX); clear S1 hX qc0 qc1 qb0 qb1 qa0 qa1; have S1 := S9; clear S9; obtain ⟨⟨qc0, qc1⟩, -⟩ := two_of (S1.out.has (Has.l (has_blk g7 _ _))); obtain ⟨⟨qb0, qb1⟩, -⟩ := two_of (S1.out.has (Has.r (Has.l (has_blk g6 _ _)))); obtain ⟨⟨qa0, qa1⟩, -⟩ := two_of (S1.out.has (Has.r (Has.r (Has.l (has_blk g5 _ _)))))) | (go_at_call 10; with_reducible (refine (A6 _).mono ?_); rintro e w' ⟨rfl, hX⟩; have S9 := Lib.hid (S1.out.below hX); clear S1 hX qc0 qc1 qb0 qb1 qa0 qa1; have S1 := S9; clear S9; obtain ⟨⟨qc0, qc1⟩, -⟩ := two_of (S1.out.has (Has.l (has_blk g7 _ _))); obtain ⟨⟨qb0, qb1⟩, -⟩ := two_of (S1.out.has (Has.r (Has.l (has_blk g6 _ _)))); obtain ⟨⟨qa0, qa1⟩, -⟩ := two_of (S1.out.has (Has.r (Has.r (Has.l (has_blk g5 _ _)))))) | (go_at_call 19; with_reducible (refine (A7 _).mono ?_); rintro e w' ⟨rfl, hX⟩; have S9 := Lib.hid (S1.out.below hX); clear S1 hX qc0 qc1 qb0 qb1 qa0 qa1; have S1 := S9; clear S9; obtain ⟨⟨qc0, qc1⟩, -⟩ := two_of (S1.out.has (Has.l (has_blk g7 _ _))); obtain ⟨⟨qb0, qb1⟩, -⟩ := two_of (S1.out.has (Has.r (Has.l (has_blk g6 _ _)))); obtain ⟨⟨qa0, qa1⟩, -⟩ := two_of (S1.out.has (Has.r (Has.r (Has.l (has_blk g5 _ _)))))) | (go_at_call 7; with_reducible (refine (A8 _).mono ?_); rintro e w' ⟨rfl, hX⟩; have S9 := Lib.hid (S1.out.below hX); clear S1 hX qc0 qc1 qb0 qb1 qa0 qa1; have S1 := S9; clear S9; obtain ⟨⟨qc0, qc1⟩, -⟩ := two_of (S1.out.has (Has.l (has_blk g7 _ _))); obtain ⟨⟨qb0, qb1⟩, -⟩ := two_of (S1.out.has (Has.r (Has.l (has_blk g6 _ _)))); obtain ⟨⟨qa0, qa1⟩, -⟩ := two_of (S1.out.has (Has.r (Has.r (Has.l (has_blk g5 _ _)))))))
  go_upto_region 5 with fail
  clear A2 A3 A4 A5 A6 A8
  have S9 := Lib.hid S1.out.drew
  clear S1
  have S1 := S9
  clear S9
  go_region_held3 (fun W : World => Hid (Own w No W (Asn.blk g7 24 #[.int .i64 ch, .int .u64 cl] * (Asn.blk g6 24 #[.int .i64 bh, .int .u64 bl] * (Asn.blk g5 24 #[.int .i64 ah, .int .u64 al] * (Asn.emp))))) ∧ W.cell? ⟨g7, 0, none⟩ = some (.int .i64 ch) ∧ W.cell? ⟨g7, 1, none⟩ = some (.int .u64 cl) ∧ W.cell? ⟨g6, 0, none⟩ = some (.int .i64 bh) ∧ W.cell? ⟨g6, 1, none⟩ = some (.int .u64 bl) ∧ W.cell? ⟨g5, 0, none⟩ = some (.int .i64 ah) ∧ W.cell? ⟨g5, 1, none⟩ = some (.int .u64 al)) (first | exact ⟨S1, qc0, qc1, qb0, qb1, qa0, qa1⟩) (first | (go_at_call 7; with_reducible (refine (A1 _).mono ?_); rintro e w' ⟨rfl, hX⟩; have S9 := Lib.hid (S1.out.below hX); clear S1 hX qc0 qc1 qb0 qb1 qa0 qa1; have S1 := S9; clear S9; obtain ⟨⟨qc0, qc1⟩, -⟩ := two_of (S1.out.has (Has.l (has_blk g7 _ _))); obtain ⟨⟨qb0, qb1⟩, -⟩ := two_of (S1.out.has (Has.r (Has.l (has_blk g6 _ _)))); obtain ⟨⟨qa0, qa1⟩, -⟩ := two_of (S1.out.has (Has.r (Has.r (Has.l (has_blk g5 _ _)))))) | (go_at_call 14; with_reducible (refine (B1 _).mono ?_); rintro e w' ⟨rfl, hX⟩; have S9 := Lib.hid (S1.out.below hX); clear S1 hX qc0 qc1 qb0 qb1 qa0 qa1; have S1 := S9; clear S9; obtain ⟨⟨qc0, qc1⟩, -⟩ := two_of (S1.out.has (Has.l (has_blk g7 _ _))); obtain ⟨⟨qb0, qb1⟩, -⟩ := two_of (S1.out.has (Has.r (Has.l (has_blk g6 _ _)))); obtain ⟨⟨qa0, qa1⟩, -⟩ := two_of (S1.out.has (Has.r (Has.r (Has.l (has_blk g5 _ _)))))) | (go_at_call 14; with_reducible (refine (B2 _).mono ?_); rintro e w' ⟨rfl, hX⟩; have S9 := Lib.hid (S1.out.below hX); clear S1 hX qc0 qc1 qb0 qb1 qa0 qa1; have S1 := S9; clear S9; obtain ⟨⟨qc0, qc1⟩, -⟩ := two_of (S1.out.has (Has.l (has_blk g7 _ _))); obtain ⟨⟨qb0, qb1⟩, -⟩ := two_of (S1.out.has (Has.r (Has.l (has_blk g6 _ _)))); obtain ⟨⟨qa0, qa1⟩, -⟩ := two_of (S1.out.has (Has.r (Has.r (Has.l (has_blk g5 _ _)))))) | (go_at_call 14; with_reducible (refine (B3 _).mono ?_); rintro e w' ⟨rfl, hX⟩; have S9 := Lib.hid (S1.out.below hX); clear S1 hX qc0 qc1 qb0 qb1 qa0 qa1; have S1 := S9; clear S9; obtain ⟨⟨qc0, qc1⟩, -⟩ := two_of (S1.out.has (Has.l (has_blk g7 _ _))); obtain ⟨⟨qb0, qb1⟩, -⟩ := two_of (S1.out.has (Has.r (Has.l (has_blk g6 _ _)))); obtain ⟨⟨qa0, qa1⟩, -⟩ := two_of (S1.out.has (Has.r (Has.r (Has.l (has_blk g5 _ _)))))) | (go_at_call 7; with_reducible (refine (B4 _).mono ?_); rintro e w' ⟨rfl, hX⟩; have S9 := Lib.hid (S1.out.below hX); clear S1 hX qc0 qc1 qb0 qb1 qa0 qa1; have S1 := S9; clear S9; obtain ⟨⟨qc0, qc1⟩, -⟩ := two_of (S1.out.has (Has.l (has_blk g7 _ _))); obtain ⟨⟨qb0, qb1⟩, -⟩ := two_of (S1.out.has (Has.r (Has.l (has_blk g6 _ _)))); obtain ⟨⟨qa0, qa1⟩, -⟩ := two_of (S1.out.has (Has.r (Has.r (Has.l (has_blk g5 _ _)))))) | (go_at_call 14; with_reducible (refine (B5 _).mono ?_); rintro e w' ⟨rfl, hX⟩; have S9 := Lib.hid (S1.out.below hX); clear S1 hX qc0 qc1 qb0 qb1 qa0 qa1; have S1 := S9; clear S9; obtain ⟨⟨qc0, qc1⟩, -⟩ := two_of (S1.out.has (Has.l (has_blk g7 _ _))); obtain ⟨⟨qb0, qb1⟩, -⟩ := two_of (S1.out.has (Has.r (Has.l (has_blk g6 _ _)))); obtain ⟨⟨qa0, qa1⟩, -⟩ := two_of (S1.out.has (Has.r (Has.r (Has.l (has_blk g5 _ _)))))) | (go_at_call 14; with_reducible (refine (B6 _).mono ?_); rintro e w' ⟨rfl, hX⟩; have S9 := Lib.hid (S1.out.below hX); clear S1 hX qc0 qc1 qb0 qb1 qa0 qa1; have S1 := S9; clear S9; obtain ⟨⟨qc0, qc1⟩, -⟩ := two_of (S1.out.has (Has.l (has_blk g7 _ _))); obtain ⟨⟨qb0, qb1⟩, -⟩ := two_of (S1.out.has (Has.r (Has.l (has_blk g6 _ _)))); obtain ⟨⟨qa0, qa1⟩, -⟩ := two_of (S1.out.has (Has.r (Has.r (Has.l (has_blk g5 _ _)))))) | (go_at_call 19; with_reducible (refine (A7 _).mono ?_); rintro e w' ⟨rfl, hX⟩; have S9 := Lib.hid (S1.out.below hX); clear S1 hX qc0 qc1 qb0 qb1 qa0 qa1; have S1 := S9; clear S9; obtain ⟨⟨qc0, qc1⟩, -⟩ := two_of (S1.out.has (Has.l (has_blk g7 _ _))); obtain ⟨⟨qb0, qb1⟩, -⟩ := two_of (S1.out.has (Has.r (Has.l (has_blk g6 _ _)))); obtain ⟨⟨qa0, qa1⟩, -⟩ := two_of (S1.out.has (Has.r (Has.r (Has.l (has_blk g5 _ _)))))) | (go_at_call 10; with_reducible (refine (B7 _).mono ?_); rintro e w' ⟨rfl, hX⟩; have S9 := Lib.hid (S1.out.below hX); clear S1 hX qc0 qc1 qb0 qb1 qa0 qa1; have S1 := S9; clear S9; obtain ⟨⟨qc0, qc1⟩, -⟩ := two_of (S1.out.has (Has.l (has_blk g7 _ _))); obtain ⟨⟨qb0, qb1⟩, -⟩ := two_of (S1.out.has (Has.r (Has.l (has_blk g6 _ _)))); obtain ⟨⟨qa0, qa1⟩, -⟩ := two_of (S1.out.has (Has.r (Has.r (Has.l (has_blk g5 _ _)))))))
  go_upto_region 7 with fail
  clear B1 B2 B3 B4 B5 B6 B7
  go_wp2_with fail
  refine (C1 _).mono ?_
  rintro e w3 ⟨rfl, hX⟩
  have S2 := Lib.hid (S1.out.below hX)
  clear hX S1 
  clear qc0 qc1 qb0 qb1 qa0 qa1
  have S9 := Lib.hid (S2.out.alloc #[.int .i64 ih, .int .u64 il] 24)
  clear S2
  go_upto_region 8 with fail
  obtain ⟨g11, hgz⟩ : ∃ g, g = w3.heap.size := ⟨_, rfl⟩
  rw [← hgz] at S9 ⊢
  clear hgz
  generalize World.alloc w3 _ = w4 at *
  have S1 := S9
  clear S9
  go_wp2_with fail
  refine (C2 _).mono ?_
  rintro e w5 ⟨rfl, hX⟩
  have S2 := Lib.hid (S1.out.below hX)
  clear hX S1 
  have S9 := Lib.hid (S2.out.alloc #[.int .i64 jh, .int .u64 jl] 24)
  clear S2
  go_upto_region 9 with fail
  obtain ⟨g12, hgz⟩ : ∃ g, g = w5.heap.size := ⟨_, rfl⟩
  rw [← hgz] at S9 ⊢
  clear hgz
  generalize World.alloc w5 _ = w6 at *
  have S1 := S9
  clear S9
  obtain ⟨⟨qj0, qj1⟩, -⟩ := two_of (S1.out.has (Has.l (has_blk g12 _ _)))
  obtain ⟨⟨qi0, qi1⟩, -⟩ := two_of (S1.out.has (Has.r (Has.l (has_blk g11 _ _))))
  obtain ⟨⟨qc0, qc1⟩, -⟩ := two_of (S1.out.has (Has.r (Has.r (Has.l (has_blk g7 _ _)))))
  obtain ⟨⟨qb0, qb1⟩, -⟩ := two_of (S1.out.has (Has.r (Has.r (Has.r (Has.l (has_blk g6 _ _))))))
  obtain ⟨⟨qa0, qa1⟩, -⟩ := two_of (S1.out.has (Has.r (Has.r (Has.r (Has.r (Has.l (has_blk g5 _ _)))))))
  go_wp2_with fail
  refine (C3 _).mono ?_
  rintro e w7 ⟨rfl, hX⟩
  have S2 := Lib.hid (S1.out.below hX)
  clear hX S1 
  go_wp2_with fail
  refine (A7 _).mono ?_
  rintro e w8 ⟨rfl, hX⟩
  have S3 := Lib.hid (S2.out.below hX)
  clear hX S2 
  go_wp2_with fail
  refine (C4 _).mono ?_
  rintro e w9 ⟨rfl, hX⟩
  have S1 := Lib.hid (S3.out.below hX)
  clear hX S3 
  go_upto_region 10 with fail
  clear qj0 qj1 qi0 qi1 qc0 qc1 qb0 qb1 qa0 qa1
  obtain ⟨⟨qj0, qj1⟩, -⟩ := two_of (S1.out.has (Has.l (has_blk g12 _ _)))
  obtain ⟨⟨qi0, qi1⟩, -⟩ := two_of (S1.out.has (Has.r (Has.l (has_blk g11 _ _))))
  obtain ⟨⟨qc0, qc1⟩, -⟩ := two_of (S1.out.has (Has.r (Has.r (Has.l (has_blk g7 _ _)))))
  obtain ⟨⟨qb0, qb1⟩, -⟩ := two_of (S1.out.has (Has.r (Has.r (Has.r (Has.l (has_blk g6 _ _))))))
  obtain ⟨⟨qa0, qa1⟩, -⟩ := two_of (S1.out.has (Has.r (Has.r (Has.r (Has.r (Has.l (has_blk g5 _ _)))))))
  rcases hD with ⟨hm, rfl⟩ | ⟨rfl, rfl⟩ | ⟨hm, rfl⟩
  · have hne : ¬ m = n := by omega
    have hnb : (m == n) = false := by simpa using hne
    have S9 := Lib.hid S1.out.drew
    clear S1
    have S1 := S9
    clear S9
    go_region_held3 (fun W : World => Hid (Own w No W (Asn.blk g12 24 #[.int .i64 jh, .int .u64 jl] * (Asn.blk g11 24 #[.int .i64 ih, .int .u64 il] * (Asn.blk g7 24 #[.int .i64 ch, .int .u64 cl] * (Asn.blk g6 24 #[.int .i64 bh, .int .u64 bl] * (Asn.blk g5 24 #[.int .i64 ah, .int .u64 al] * (Asn.emp))))))) ∧ W.cell? ⟨g12, 0, none⟩ = some (.int .i64 jh) ∧ W.cell? ⟨g12, 1, none⟩ = some (.int .u64 jl) ∧ W.cell? ⟨g11, 0, none⟩ = some (.int .i64 ih) ∧ W.cell? ⟨g11, 1, none⟩ = some (.int .u64 il) ∧ W.cell? ⟨g7, 0, none⟩ = some (.int .i64 ch) ∧ W.cell? ⟨g7, 1, none⟩ = some (.int .u64 cl) ∧ W.cell? ⟨g6, 0, none⟩ = some (.int .i64 bh) ∧ W.cell? ⟨g6, 1, none⟩ = some (.int .u64 bl) ∧ W.cell? ⟨g5, 0, none⟩ = some (.int .i64 ah) ∧ W.cell? ⟨g5, 1, none⟩ = some (.int .u64 al)) (first | exact ⟨S1, qj0, qj1, qi0, qi1, qc0, qc1, qb0, qb1, qa0, qa1⟩) (first | (go_at_call 12; with_reducible (refine (C5 _).mono ?_); rintro e w' ⟨rfl, hX⟩; have S9 := Lib.hid (S1.out.below hX); clear S1 hX qj0 qj1 qi0 qi1 qc0 qc1 qb0 qb1 qa0 qa1; have S1 := S9; clear S9; obtain ⟨⟨qj0, qj1⟩, -⟩ := two_of (S1.out.has (Has.l (has_blk g12 _ _))); obtain ⟨⟨qi0, qi1⟩, -⟩ := two_of (S1.out.has (Has.r (Has.l (has_blk g11 _ _)))); obtain ⟨⟨qc0, qc1⟩, -⟩ := two_of (S1.out.has (Has.r (Has.r (Has.l (has_blk g7 _ _))))); obtain ⟨⟨qb0, qb1⟩, -⟩ := two_of (S1.out.has (Has.r (Has.r (Has.r (Has.l (has_blk g6 _ _)))))); obtain ⟨⟨qa0, qa1⟩, -⟩ := two_of (S1.out.has (Has.r (Has.r (Has.r (Has.r (Has.l (has_blk g5 _ _)))))))) | (go_at_call 14; with_reducible (refine (C6 _).mono ?_); rintro e w' ⟨rfl, hX⟩; have S9 := Lib.hid (S1.out.below hX); clear S1 hX qj0 qj1 qi0 qi1 qc0 qc1 qb0 qb1 qa0 qa1; have S1 := S9; clear S9; obtain ⟨⟨qj0, qj1⟩, -⟩ := two_of (S1.out.has (Has.l (has_blk g12 _ _))); obtain ⟨⟨qi0, qi1⟩, -⟩ := two_of (S1.out.has (Has.r (Has.l (has_blk g11 _ _)))); obtain ⟨⟨qc0, qc1⟩, -⟩ := two_of (S1.out.has (Has.r (Has.r (Has.l (has_blk g7 _ _))))); obtain ⟨⟨qb0, qb1⟩, -⟩ := two_of (S1.out.has (Has.r (Has.r (Has.r (Has.l (has_blk g6 _ _)))))); obtain ⟨⟨qa0, qa1⟩, -⟩ := two_of (S1.out.has (Has.r (Has.r (Has.r (Has.r (Has.l (has_blk g5 _ _)))))))) | (go_at_call 14; with_reducible (refine (C7 _).mono ?_); rintro e w' ⟨rfl, hX⟩; have S9 := Lib.hid (S1.out.below hX); clear S1 hX qj0 qj1 qi0 qi1 qc0 qc1 qb0 qb1 qa0 qa1; have S1 := S9; clear S9; obtain ⟨⟨qj0, qj1⟩, -⟩ := two_of (S1.out.has (Has.l (has_blk g12 _ _))); obtain ⟨⟨qi0, qi1⟩, -⟩ := two_of (S1.out.has (Has.r (Has.l (has_blk g11 _ _)))); obtain ⟨⟨qc0, qc1⟩, -⟩ := two_of (S1.out.has (Has.r (Has.r (Has.l (has_blk g7 _ _))))); obtain ⟨⟨qb0, qb1⟩, -⟩ := two_of (S1.out.has (Has.r (Has.r (Has.r (Has.l (has_blk g6 _ _)))))); obtain ⟨⟨qa0, qa1⟩, -⟩ := two_of (S1.out.has (Has.r (Has.r (Has.r (Has.r (Has.l (has_blk g5 _ _)))))))))
    go_upto_region 12 with fail
    go_wp2_with fail
    refine (E1 _).mono ?_
    rintro e w10 ⟨rfl, hX⟩
    have S2 := Lib.hid (S1.out.below hX)
    clear hX S1 
    clear qj0 qj1 qi0 qi1 qc0 qc1 qb0 qb1 qa0 qa1
    go_wp2_with fail
    refine (E2 _).mono ?_
    rintro e w11 ⟨rfl, hX⟩
    have S3 := Lib.hid (S2.out.below hX)
    clear hX S2 
    have S1 := Lib.hid (S3.out.alloc #[.int .i64 ah, .int .u64 al] 24)
    clear S3
    go_upto_region 13 with fail
    obtain ⟨g14, hgz⟩ : ∃ g, g = w11.heap.size := ⟨_, rfl⟩
    rw [← hgz] at S1 ⊢
    clear hgz
    generalize World.alloc w11 _ = w12 at *
    obtain ⟨⟨qa0, qa1⟩, -⟩ := two_of (S1.out.has (Has.l (has_blk g14 _ _)))
    obtain ⟨⟨qz0, qz1⟩, -⟩ := two_of (S1.out.has (Has.r (Has.r (Has.r (Has.r (Has.r (Has.l (has_blk g5 _ _))))))))
    go_wp2_with fail
    go_returns
    exact ⟨rfl, S1.out.bel⟩
  · have S9 := Lib.hid S1.out.drew
    clear S1
    have S1 := S9
    clear S9
    go_region_held3 (fun W : World => Hid (Own w No W (Asn.blk g12 24 #[.int .i64 jh, .int .u64 jl] * (Asn.blk g11 24 #[.int .i64 ih, .int .u64 il] * (Asn.blk g7 24 #[.int .i64 ch, .int .u64 cl] * (Asn.blk g6 24 #[.int .i64 bh, .int .u64 bl] * (Asn.blk g5 24 #[.int .i64 ah, .int .u64 al] * (Asn.emp))))))) ∧ W.cell? ⟨g12, 0, none⟩ = some (.int .i64 jh) ∧ W.cell? ⟨g12, 1, none⟩ = some (.int .u64 jl) ∧ W.cell? ⟨g11, 0, none⟩ = some (.int .i64 ih) ∧ W.cell? ⟨g11, 1, none⟩ = some (.int .u64 il) ∧ W.cell? ⟨g7, 0, none⟩ = some (.int .i64 ch) ∧ W.cell? ⟨g7, 1, none⟩ = some (.int .u64 cl) ∧ W.cell? ⟨g6, 0, none⟩ = some (.int .i64 bh) ∧ W.cell? ⟨g6, 1, none⟩ = some (.int .u64 bl) ∧ W.cell? ⟨g5, 0, none⟩ = some (.int .i64 ah) ∧ W.cell? ⟨g5, 1, none⟩ = some (.int .u64 al)) (first | exact ⟨S1, qj0, qj1, qi0, qi1, qc0, qc1, qb0, qb1, qa0, qa1⟩) (first | (go_at_call 12; with_reducible (refine (C5 _).mono ?_); rintro e w' ⟨rfl, hX⟩; have S9 := Lib.hid (S1.out.below hX); clear S1 hX qj0 qj1 qi0 qi1 qc0 qc1 qb0 qb1 qa0 qa1; have S1 := S9; clear S9; obtain ⟨⟨qj0, qj1⟩, -⟩ := two_of (S1.out.has (Has.l (has_blk g12 _ _))); obtain ⟨⟨qi0, qi1⟩, -⟩ := two_of (S1.out.has (Has.r (Has.l (has_blk g11 _ _)))); obtain ⟨⟨qc0, qc1⟩, -⟩ := two_of (S1.out.has (Has.r (Has.r (Has.l (has_blk g7 _ _))))); obtain ⟨⟨qb0, qb1⟩, -⟩ := two_of (S1.out.has (Has.r (Has.r (Has.r (Has.l (has_blk g6 _ _)))))); obtain ⟨⟨qa0, qa1⟩, -⟩ := two_of (S1.out.has (Has.r (Has.r (Has.r (Has.r (Has.l (has_blk g5 _ _)))))))) | (go_at_call 14; with_reducible (refine (C6 _).mono ?_); rintro e w' ⟨rfl, hX⟩; have S9 := Lib.hid (S1.out.below hX); clear S1 hX qj0 qj1 qi0 qi1 qc0 qc1 qb0 qb1 qa0 qa1; have S1 := S9; clear S9; obtain ⟨⟨qj0, qj1⟩, -⟩ := two_of (S1.out.has (Has.l (has_blk g12 _ _))); obtain ⟨⟨qi0, qi1⟩, -⟩ := two_of (S1.out.has (Has.r (Has.l (has_blk g11 _ _)))); obtain ⟨⟨qc0, qc1⟩, -⟩ := two_of (S1.out.has (Has.r (Has.r (Has.l (has_blk g7 _ _))))); obtain ⟨⟨qb0, qb1⟩, -⟩ := two_of (S1.out.has (Has.r (Has.r (Has.r (Has.l (has_blk g6 _ _)))))); obtain ⟨⟨qa0, qa1⟩, -⟩ := two_of (S1.out.has (Has.r (Has.r (Has.r (Has.r (Has.l (has_blk g5 _ _)))))))) | (go_at_call 14; with_reducible (refine (C7 _).mono ?_); rintro e w' ⟨rfl, hX⟩; have S9 := Lib.hid (S1.out.below hX); clear S1 hX qj0 qj1 qi0 qi1 qc0 qc1 qb0 qb1 qa0 qa1; have S1 := S9; clear S9; obtain ⟨⟨qj0, qj1⟩, -⟩ := two_of (S1.out.has (Has.l (has_blk g12 _ _))); obtain ⟨⟨qi0, qi1⟩, -⟩ := two_of (S1.out.has (Has.r (Has.l (has_blk g11 _ _)))); obtain ⟨⟨qc0, qc1⟩, -⟩ := two_of (S1.out.has (Has.r (Has.r (Has.l (has_blk g7 _ _))))); obtain ⟨⟨qb0, qb1⟩, -⟩ := two_of (S1.out.has (Has.r (Has.r (Has.r (Has.l (has_blk g6 _ _)))))); obtain ⟨⟨qa0, qa1⟩, -⟩ := two_of (S1.out.has (Has.r (Has.r (Has.r (Has.r (Has.l (has_blk g5 _ _)))))))))
    go_upto_region 12 with fail
    go_wp2_with fail
    refine (E1 _).mono ?_
    rintro e w10 ⟨rfl, hX⟩
    have S2 := Lib.hid (S1.out.below hX)
    clear hX S1 
    clear qj0 qj1 qi0 qi1 qc0 qc1 qb0 qb1 qa0 qa1
    go_wp2_with fail
    refine (E2 _).mono ?_
    rintro e w11 ⟨rfl, hX⟩
    have S3 := Lib.hid (S2.out.below hX)
    clear hX S2 
    have S1 := Lib.hid (S3.out.alloc #[.int .i64 ah, .int .u64 al] 24)
    clear S3
    go_upto_region 13 with fail
    obtain ⟨g14, hgz⟩ : ∃ g, g = w11.heap.size := ⟨_, rfl⟩
    rw [← hgz] at S1 ⊢
    clear hgz
    generalize World.alloc w11 _ = w12 at *
    obtain ⟨⟨qa0, qa1⟩, -⟩ := two_of (S1.out.has (Has.l (has_blk g14 _ _)))
    obtain ⟨⟨qz0, qz1⟩, -⟩ := two_of (S1.out.has (Has.r (Has.r (Has.r (Has.r (Has.r (Has.l (has_blk g5 _ _))))))))
    go_wp2_with fail
    go_returns
    exact ⟨rfl, S1.out.bel⟩
  · have hne : ¬ m = n := by omega
    have hnb : (m == n) = false := by simpa using hne
    have hnl : ¬ m < n := by omega
    have hnd : decide (m < n) = false := by simpa using hnl
    have hle : n ≤ m := by omega
    have S9 := Lib.hid S1.out.drew
    clear S1
    have S1 := S9
    clear S9
    go_region_held3 (fun W : World => Hid (Own w No W (Asn.blk g12 24 #[.int .i64 jh, .int .u64 jl] * (Asn.blk g11 24 #[.int .i64 ih, .int .u64 il] * (Asn.blk g7 24 #[.int .i64 ch, .int .u64 cl] * (Asn.blk g6 24 #[.int .i64 bh, .int .u64 bl] * (Asn.blk g5 24 #[.int .i64 ah, .int .u64 al] * (Asn.emp))))))) ∧ W.cell? ⟨g12, 0, none⟩ = some (.int .i64 jh) ∧ W.cell? ⟨g12, 1, none⟩ = some (.int .u64 jl) ∧ W.cell? ⟨g11, 0, none⟩ = some (.int .i64 ih) ∧ W.cell? ⟨g11, 1, none⟩ = some (.int .u64 il) ∧ W.cell? ⟨g7, 0, none⟩ = some (.int .i64 ch) ∧ W.cell? ⟨g7, 1, none⟩ = some (.int .u64 cl) ∧ W.cell? ⟨g6, 0, none⟩ = some (.int .i64 bh) ∧ W.cell? ⟨g6, 1, none⟩ = some (.int .u64 bl) ∧ W.cell? ⟨g5, 0, none⟩ = some (.int .i64 ah) ∧ W.cell? ⟨g5, 1, none⟩ = some (.int .u64 al)) (first | exact ⟨S1, qj0, qj1, qi0, qi1, qc0, qc1, qb0, qb1, qa0, qa1⟩) (first | (go_at_call 12; with_reducible (refine (C5 _).mono ?_); rintro e w' ⟨rfl, hX⟩; have S9 := Lib.hid (S1.out.below hX); clear S1 hX qj0 qj1 qi0 qi1 qc0 qc1 qb0 qb1 qa0 qa1; have S1 := S9; clear S9; obtain ⟨⟨qj0, qj1⟩, -⟩ := two_of (S1.out.has (Has.l (has_blk g12 _ _))); obtain ⟨⟨qi0, qi1⟩, -⟩ := two_of (S1.out.has (Has.r (Has.l (has_blk g11 _ _)))); obtain ⟨⟨qc0, qc1⟩, -⟩ := two_of (S1.out.has (Has.r (Has.r (Has.l (has_blk g7 _ _))))); obtain ⟨⟨qb0, qb1⟩, -⟩ := two_of (S1.out.has (Has.r (Has.r (Has.r (Has.l (has_blk g6 _ _)))))); obtain ⟨⟨qa0, qa1⟩, -⟩ := two_of (S1.out.has (Has.r (Has.r (Has.r (Has.r (Has.l (has_blk g5 _ _)))))))) | (go_at_call 14; with_reducible (refine (C6 _).mono ?_); rintro e w' ⟨rfl, hX⟩; have S9 := Lib.hid (S1.out.below hX); clear S1 hX qj0 qj1 qi0 qi1 qc0 qc1 qb0 qb1 qa0 qa1; have S1 := S9; clear S9; obtain ⟨⟨qj0, qj1⟩, -⟩ := two_of (S1.out.has (Has.l (has_blk g12 _ _))); obtain ⟨⟨qi0, qi1⟩, -⟩ := two_of (S1.out.has (Has.r (Has.l (has_blk g11 _ _)))); obtain ⟨⟨qc0, qc1⟩, -⟩ := two_of (S1.out.has (Has.r (Has.r (Has.l (has_blk g7 _ _))))); obtain ⟨⟨qb0, qb1⟩, -⟩ := two_of (S1.out.has (Has.r (Has.r (Has.r (Has.l (has_blk g6 _ _)))))); obtain ⟨⟨qa0, qa1⟩, -⟩ := two_of (S1.out.has (Has.r (Has.r (Has.r (Has.r (Has.l (has_blk g5 _ _)))))))) | (go_at_call 14; with_reducible (refine (C7 _).mono ?_); rintro e w' ⟨rfl, hX⟩; have S9 := Lib.hid (S1.out.below hX); clear S1 hX qj0 qj1 qi0 qi1 qc0 qc1 qb0 qb1 qa0 qa1; have S1 := S9; clear S9; obtain ⟨⟨qj0, qj1⟩, -⟩ := two_of (S1.out.has (Has.l (has_blk g12 _ _))); obtain ⟨⟨qi0, qi1⟩, -⟩ := two_of (S1.out.has (Has.r (Has.l (has_blk g11 _ _)))); obtain ⟨⟨qc0, qc1⟩, -⟩ := two_of (S1.out.has (Has.r (Has.r (Has.l (has_blk g7 _ _))))); obtain ⟨⟨qb0, qb1⟩, -⟩ := two_of (S1.out.has (Has.r (Has.r (Has.r (Has.l (has_blk g6 _ _)))))); obtain ⟨⟨qa0, qa1⟩, -⟩ := two_of (S1.out.has (Has.r (Has.r (Has.r (Has.r (Has.l (has_blk g5 _ _)))))))))
    go_upto_region 12 with fail
    go_wp2_with fail
    refine (E1 _).mono ?_
    rintro e w10 ⟨rfl, hX⟩
    have S2 := Lib.hid (S1.out.below hX)
    clear hX S1 
    clear qj0 qj1 qi0 qi1 qc0 qc1 qb0 qb1 qa0 qa1
    go_wp2_with fail
    refine (E2 _).mono ?_
    rintro e w11 ⟨rfl, hX⟩
    have S3 := Lib.hid (S2.out.below hX)
    clear hX S2 
    have S1 := Lib.hid (S3.out.alloc #[.int .i64 ah, .int .u64 al] 24)
    clear S3
    go_upto_region 13 with fail
    obtain ⟨g14, hgz⟩ : ∃ g, g = w11.heap.size := ⟨_, rfl⟩
    rw [← hgz] at S1 ⊢
    clear hgz
    generalize World.alloc w11 _ = w12 at *
    obtain ⟨⟨qa0, qa1⟩, -⟩ := two_of (S1.out.has (Has.l (has_blk g14 _ _)))
    obtain ⟨⟨qz0, qz1⟩, -⟩ := two_of (S1.out.has (Has.r (Has.r (Has.r (Has.r (Has.r (Has.l (has_blk g5 _ _))))))))
    go_wp2_with fail
    go_returns
    exact ⟨rfl, S1.out.bel⟩
end Go.Proofs.Ytggpcebcmoopnaa.Wd
