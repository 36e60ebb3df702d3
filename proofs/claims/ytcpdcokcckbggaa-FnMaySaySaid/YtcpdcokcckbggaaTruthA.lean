/- Contract of the reference's AlwaysOk. -/
import Derived.Test.YtcpdcokcckbggaaTruthT
import Derived.Deep.RegionWith
namespace Go.Proofs.Ytcpdcokcckbggaa
open Go.RowKit
attribute [local irreducible] holds tabN tabV holdsV sameV followsV alwaysV matterV
set_option maxHeartbeats 1000000 in
theorem specAlwaysOk (p : Int) (ms : List (Int × Int)) (B : Nat) (v : Value) (w : World) (hr : RdMarks w B v ms) (hB : B ≤ w.heap.size) :
    Calls Try.prog 52 #[.int .i64 p, v] w fun e w' => e = .returned (.bool (alwaysV p ms)) ∧ Below w.heap.size w w' := by
  cases hok : termOk p ms with
  | false =>
    have Hok := Lib.hid hok
    have Hf := Lib.hid (alwaysV_no hok)
    clear hok
    go_enter Try.func52, Try.ntmps52
    go_wp2_with fail
    first
      | (go_region_with
          (first
            | (go_at_call 47
               (refine (specTermOk _ ms B v _ (by exact hr)).mono ?_)
               rintro e w' ⟨rfl, rfl⟩
               rw [Hok.out])
            | fail))
      | fail
    all_goals go_wp2
    all_goals
      go_ret
      exact ⟨by rw [Hf.out]; rfl, by first | exact Below.refl _ _ | exact below_undrewS (Below.refl _ _) | exact below_undrewN (Below.refl _ _) | exact ⟨rfl, rfl, rfl, Nat.le_refl _, fun _ _ => rfl⟩⟩
  | true =>
    obtain ⟨h1, h4⟩ := p_of hok
    have Hok := Lib.hid hok
    rcases p_cases h1 h4 with rfl | rfl | rfl | rfl
    all_goals
      have hf := alwaysV_N hok _ rfl
      have Hc := Lib.hid (fun w h hB => specTableN _ ms hok B v w h hB)
      generalize tabN _ ms = T at *
      have Hf := Lib.hid hf; clear hf
      clear hok h1 h4
      go_enter Try.func52, Try.ntmps52
      go_wp2_with fail
      go_region_held3 (fun _ => True)
        (first | go_keep | trivial)
        (first
          | (go_at_call 47
             (refine (specTermOk _ ms B v _ (by exact hr)).mono ?_)
             rintro e w' ⟨rfl, rfl⟩
             rw [Hok.out])
          | (go_at_call 78
             (refine (Hc.out _ (by exact hr) (by exact hB)).mono ?_)
             rintro e w2 ⟨rfl, hb2'⟩
             go_must (have hb2 : Below w.heap.size w w2 := by first | exact hb2' | exact below_undrewS hb2' | exact below_undrewN hb2'
                      clear hb2'
                      have Hb2 := Lib.hid hb2
                      clear hb2))
          | fail)
      go_wp2
      go_ret
      exact ⟨by rw [Hf.out]; rfl, Hb2.out⟩
end Go.Proofs.Ytcpdcokcckbggaa
