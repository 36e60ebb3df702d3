/- Texts of a proof, merged: Just, TruthA. -/
import Derived.Test.YtbnickgjnglblaaDoorMerged10
import Derived.Test.YtbnickgjnglblaaDoorMerged8
import Derived.Deep.RegionWith
/- Contract of the program's justIfTells: the two marks around a term that make it the claim's own, in memory of its own. -/
namespace Go.Proofs.YtbnickgjnglblaaDoor
open Go.RowKit Go.Joins
theorem below_allocs3 (w : World) (a b c : Obj) : Below w.heap.size w (((w.alloc a).alloc b).alloc c) :=
  (((Below.refl _ _).alloc (Nat.le_refl _) _).alloc (by simp) _).alloc (by simp; omega) _
set_option maxHeartbeats 2000000 in
theorem implJustIfTells (k : Int) (ms : List (Int × Int)) (hk : I64 k) (hlen : ms.length ≤ 100) (B : Nat) (u : Value) (w : World) (hr : RdMarks w B u ms) (hB : B ≤ w.heap.size) :
    Calls Tryd.prog 48 #[.int .i64 k, u] w (RowOut (ctermL (k, ms)) w) := by
  obtain ⟨ao, cap, rfl, hal, ham⟩ : ∃ ao cap, u = .slice ao ms.length cap ∧ ms.length ≤ cap ∧ cap ≤ maxLen := by
    obtain ⟨ao, cap, h1, h2, h3, _⟩ := hr
    exact ⟨ao, cap, h1, h2, h3⟩
  unfold maxLen at ham
  have Hr := Lib.hid hr
  have Hk := Lib.hid hk
  clear hr hk
  go_enter Tryd.func48, Tryd.ntmps48
  go_wp2_with fail
  have hb4 := below_allocs3 w (.cells #[.int .i64 0, .int .i64 k] TM) (.cells #[.int .i64 5, .int .i64 0] TM) (.cells #[.slice (some ⟨w.heap.size, 0, none⟩) 1 1, .slice ao ms.length cap, .slice (some ⟨w.heap.size + 1, 0, none⟩) 1 1] TS)
  have hz4 : (((w.alloc (.cells #[.int .i64 0, .int .i64 k] TM)).alloc (.cells #[.int .i64 5, .int .i64 0] TM)).alloc (.cells #[.slice (some ⟨w.heap.size, 0, none⟩) 1 1, .slice ao ms.length cap, .slice (some ⟨w.heap.size + 1, 0, none⟩) 1 1] TS)).heap.size = w.heap.size + 3 := by simp
  have c0 : (((w.alloc (.cells #[.int .i64 0, .int .i64 k] TM)).alloc (.cells #[.int .i64 5, .int .i64 0] TM)).alloc (.cells #[.slice (some ⟨w.heap.size, 0, none⟩) 1 1, .slice ao ms.length cap, .slice (some ⟨w.heap.size + 1, 0, none⟩) 1 1] TS)).cell? ⟨w.heap.size, 0, none⟩ = some (.int .i64 0) := by go_simp
  have c1 : (((w.alloc (.cells #[.int .i64 0, .int .i64 k] TM)).alloc (.cells #[.int .i64 5, .int .i64 0] TM)).alloc (.cells #[.slice (some ⟨w.heap.size, 0, none⟩) 1 1, .slice ao ms.length cap, .slice (some ⟨w.heap.size + 1, 0, none⟩) 1 1] TS)).cell? ⟨w.heap.size, 1, none⟩ = some (.int .i64 k) := by go_simp
  have c2 : (((w.alloc (.cells #[.int .i64 0, .int .i64 k] TM)).alloc (.cells #[.int .i64 5, .int .i64 0] TM)).alloc (.cells #[.slice (some ⟨w.heap.size, 0, none⟩) 1 1, .slice ao ms.length cap, .slice (some ⟨w.heap.size + 1, 0, none⟩) 1 1] TS)).cell? ⟨w.heap.size + 1, 0, none⟩ = some (.int .i64 5) := by go_simp
  have c3 : (((w.alloc (.cells #[.int .i64 0, .int .i64 k] TM)).alloc (.cells #[.int .i64 5, .int .i64 0] TM)).alloc (.cells #[.slice (some ⟨w.heap.size, 0, none⟩) 1 1, .slice ao ms.length cap, .slice (some ⟨w.heap.size + 1, 0, none⟩) 1 1] TS)).cell? ⟨w.heap.size + 1, 1, none⟩ = some (.int .i64 0) := by go_simp
  have c4 : (((w.alloc (.cells #[.int .i64 0, .int .i64 k] TM)).alloc (.cells #[.int .i64 5, .int .i64 0] TM)).alloc (.cells #[.slice (some ⟨w.heap.size, 0, none⟩) 1 1, .slice ao ms.length cap, .slice (some ⟨w.heap.size + 1, 0, none⟩) 1 1] TS)).cell? ⟨w.heap.size + 1 + 1, 0, none⟩ = some (.slice (some ⟨w.heap.size, 0, none⟩) 1 1) := by go_simp
  have c5 : (((w.alloc (.cells #[.int .i64 0, .int .i64 k] TM)).alloc (.cells #[.int .i64 5, .int .i64 0] TM)).alloc (.cells #[.slice (some ⟨w.heap.size, 0, none⟩) 1 1, .slice ao ms.length cap, .slice (some ⟨w.heap.size + 1, 0, none⟩) 1 1] TS)).cell? ⟨w.heap.size + 1 + 1, 1, none⟩ = some (.slice ao ms.length cap) := by go_simp
  have c6 : (((w.alloc (.cells #[.int .i64 0, .int .i64 k] TM)).alloc (.cells #[.int .i64 5, .int .i64 0] TM)).alloc (.cells #[.slice (some ⟨w.heap.size, 0, none⟩) 1 1, .slice ao ms.length cap, .slice (some ⟨w.heap.size + 1, 0, none⟩) 1 1] TS)).cell? ⟨w.heap.size + 1 + 1, 2, none⟩ = some (.slice (some ⟨w.heap.size + 1, 0, none⟩) 1 1) := by go_simp
  generalize ((w.alloc (.cells #[.int .i64 0, .int .i64 k] TM)).alloc (.cells #[.int .i64 5, .int .i64 0] TM)).alloc (.cells #[.slice (some ⟨w.heap.size, 0, none⟩) 1 1, .slice ao ms.length cap, .slice (some ⟨w.heap.size + 1, 0, none⟩) 1 1] TS) = w4 at *
  refine (concat3 w4 _ _ _ _ ms 0 k 5 0 (by omega) (by omega) (by omega) c4 c5 c6 c0 c1 c2 c3 (I64_small (by omega) (by omega)) Hk.out (I64_small (by omega) (by omega)) (I64_small (by omega) (by omega)) ((Hr.out.below (w' := w4) (fun q hq => hb4.block q (by omega))).mono (by omega)) (by omega)).mono ?_
  rintro e w5 ⟨v, rfl, ho, hb5⟩
  have Ho := Lib.hid ho
  have Hb5 := Lib.hid (hb4.trans (hb5.mono (show w.heap.size ≤ _ by omega)))
  have hs4 : w.heap.size ≤ w4.heap.size := by omega
  clear ho hb5 hb4 c0 c1 c2 c3 c4 c5 c6
  go_wp2
  go_ret
  refine ⟨v, rfl, ?_, Hb5.out⟩
  unfold ctermL
  exact own_mono Ho.out hs4
end Go.Proofs.YtbnickgjnglblaaDoor
/- Contract of the reference's AlwaysOk. -/
namespace Go.Proofs.YtbnickgjnglblaaDoor
open Go.RowKit
attribute [local irreducible] holds tabN tabV holdsV sameV followsV alwaysV matterV
end Go.Proofs.YtbnickgjnglblaaDoor
