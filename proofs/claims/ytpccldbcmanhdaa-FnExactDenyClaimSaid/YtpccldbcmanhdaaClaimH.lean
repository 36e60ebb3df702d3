/- Numbers written into a claim, and read back: contracts of the exact laws' own functions. -/
import Derived.Test.YtpccldbcmanhdaaClaimI
import Derived.Test.YtpccldbcmanhdaaMarksH
namespace Go.Proofs.Ytpccldbcmanhdaa
open Go.RowKit
set_option maxHeartbeats 1000000 in
theorem markClaimH (k : Int) (zs : List (Int × Int)) (k0 : Nat) (hk0 : zs.length * 2 + k0 ≤ 4611686018427387904) (base : Nat) (a : Value) (w : World) (hx : w.ownsRow base TM 2 a zs.length (mcells zs)) :
    Calls Try.prog 44 #[.agg #[.int .i64 k, a], .int .i64 k0] w fun e w' => e = .returned (.int .i64 ((k0 + zs.length * 2 : Nat) : Int)) ∧
      w'.ownsRow base TM 2 a zs.length (mcells (lay k0 zs.length)) ∧ w.grownBy w' a.ownBlock := by
  have Hm := Lib.hid (markMarkS zs k0 hk0 base a _ (hx.alloc (.cells #[.int .i64 k, a] TC)))
  go_enter Try.func44, Try.ntmps44
  go_wp2_with fail
  refine Hm.out.mono ?_
  rintro e w' ⟨rfl, hown, hg⟩
  have Hout := Lib.hid (And.intro hown (grown_trans (only_alloc (World.grownBy.refl _ _) _) hg))
  clear hown hg
  go_wp2
  go_ret
  exact ⟨rfl, Hout.out.1, Hout.out.2⟩
set_option maxHeartbeats 1000000 in
theorem heldClaimH (k : Int) (n k0 : Nat) (hk0 : n * 2 + k0 ≤ 4611686018427387904) (B : Nat) (a : Value) (w : World) (hx : RdMarks w B a (lay k0 n)) (hB : B ≤ w.heap.size) :
    Calls Try.prog 45 #[.agg #[.int .i64 k, a], .int .i64 k0] w fun e w' => e = .returned (.int .i64 ((k0 + n * 2 : Nat) : Int)) ∧ Below w.heap.size w w' := by
  go_enter Try.func45, Try.ntmps45
  go_upto_region 1 with fail
  obtain ⟨w2, hw2, hx2, hb2, hsz2⟩ := Box.new w (.int .i64 k) a TC
  have Hm := Lib.hid (heldMarkS n k0 hk0 B a w2 (hx.below (w' := w2) (fun q hq => hb2.block q (by omega))))
  have aX := hx2.1
  have bX := hx2.2.1
  rw [← hw2]
  clear hw2
  have h0 : (0 : Int) ≤ ((k0 + n * 2 : Nat) : Int) := by omega
  generalize hK : k0 + n * 2 = K at *
  have HK := Lib.hid hK
  clear hK
  go_wp2_with fail
  refine Hm.out.mono ?_
  rintro e w' ⟨rfl, rfl⟩
  go_wp2
  go_ret
  exact ⟨by rw [HK.out]; rfl, hb2⟩
end Go.Proofs.Ytpccldbcmanhdaa
