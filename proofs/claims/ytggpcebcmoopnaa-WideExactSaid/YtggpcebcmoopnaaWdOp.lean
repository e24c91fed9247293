/- Whole numbers of 128 bits that come in. -/
import Derived.Test.YtggpcebcmoopnaaWdC
import Derived.Test.YtggpcebcmoopnaaLaw
namespace Go.Proofs.Ytggpcebcmoopnaa.Wd
open Go.ChangeShapes Go.WideShapes Go.ChangeAt Go.RowKit Law
section
variable {H : Type} {enc : TypeId × Value → H} {w : World} {r : Reach} {b0 base : Nat} {sp : Nat → Bool} {held : Bool} {v : Value} {d : DataW H} {p : List MemPlace}
theorem open_wide (hv : Value.okWide Try.prog w r b0 24 v) (h : DataW.Trod enc Try.prog w base sp held 24 v d p) :
    ∃ x : BitVec 128, v = Wv x := by
  obtain ⟨v0, v1, y0, y1, m, rfl, -, -, h0, h1⟩ := Joins.open_agg2 Try.underlying24 (by kernel_rfl) (by kernel_rfl) hv h
  obtain ⟨k, e0, -, wf0⟩ := DataW.trod_int Try.underlying3 h0
  obtain ⟨n, e1, -, wf⟩ := DataW.trod_int Try.underlying22 h1
  obtain rfl : v0 = .int .i64 k := by simpa using e0
  obtain rfl : v1 = .int .u64 n := by simpa using e1
  have bd := bounds_i64 wf0
  have bu := bounds_u64 wf
  obtain ⟨x, rfl, rfl⟩ := parts k n bd (by omega)
  exact ⟨x, rfl⟩
end
end Go.Proofs.Ytggpcebcmoopnaa.Wd
