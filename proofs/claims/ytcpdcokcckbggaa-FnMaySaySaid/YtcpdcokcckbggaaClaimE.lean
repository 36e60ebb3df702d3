/- Contracts of what the laws do with claims. -/
import Derived.Test.YtcpdcokcckbggaaClaim
import Derived.Test.YtcpdcokcckbggaaMarksB
import Derived.Test.YtcpdcokcckbggaaMarksC
import Derived.Test.YtcpdcokcckbggaaTables
import Derived.Deep.RegionHeld3
import Derived.Deep.Cut
namespace Go.Proofs.Ytcpdcokcckbggaa
open Go.RowKit Go.Joins
/-- two blocks laid, one behind the other -/
theorem boxes_new (w : World) (a b c d : Value) (T U : TypeId) : ∃ w2 : World, w2 = (w.alloc (.cells #[a, b] T)).alloc (.cells #[c, d] U) ∧ Box w2 w.heap.size a b ∧ Box w2 (w.heap.size + 1) c d ∧ Below w.heap.size w w2 ∧ w.heap.size + 1 < w2.heap.size := by
  obtain ⟨w1, e1, h1, hb1, hs1⟩ := Box.new w a b T
  obtain ⟨w2, e2, h2, hb2, hs2⟩ := Box.new w1 c d U
  have e : w1.heap.size = w.heap.size + 1 := by rw [e1]; simp
  rw [e] at h2 hs2
  exact ⟨w2, by rw [e2, e1], h1.below hb2, h2, hb1.trans (hb2.mono hb1.size), hs2⟩
set_option maxHeartbeats 1000000 in
theorem sameClaim (k : Int) (ms : List (Int × Int)) (B B' : Nat) (u u' : Value) (w : World) (hr : RdMarks w B u ms) (hr' : RdMarks w B' u' ms) (hB : B ≤ w.heap.size) (hB' : B' ≤ w.heap.size) :
    Calls Try.prog 19 #[.agg #[.int .i64 k, u], .agg #[.int .i64 k, u']] w fun e w' => e = .returned (.bool true) ∧ Below w.heap.size w w' := by
  go_enter Try.func19, Try.ntmps19
  go_upto_region 1 with fail
  obtain ⟨w2, hw2, hx, hy, hb, hs⟩ := boxes_new w (.int .i64 k) u (.int .i64 k) u' TC TC
  rw [← hw2]
  have Hr := Lib.hid (hr.below (w' := w2) (fun q hq => hb.block q (by omega)))
  have Hr' := Lib.hid (hr'.below (w' := w2) (fun q hq => hb.block q (by omega)))
  obtain ⟨x1, x2, _⟩ := hx
  obtain ⟨y1, y2, _⟩ := hy
  have Hb := Lib.hid hb
  clear hr hr' hb hw2
  go_wp2_with fail
  refine (sameMarks ms ms _ _ _ _ _ Hr.out Hr'.out).mono ?_
  rintro e w' ⟨rfl, n, rfl⟩
  rw [show decide (ms = ms) = true from by simp]
  go_wp2
  go_ret
  exact ⟨rfl, by first | exact below_drewN Hb.out _ | exact Hb.out⟩
end Go.Proofs.Ytcpdcokcckbggaa
