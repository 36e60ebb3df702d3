/- Contract of the reference's text of a term. -/
import Derived.Test.YtefmoljipbbmmaaDoorTextT
import Derived.Test.YtefmoljipbbmmaaDoorMarksS
import Derived.Test.YtefmoljipbbmmaaDoorMerged4
import Derived.Laws.IdiomStrings
namespace Go.Proofs.YtefmoljipbbmmaaDoor
open Go.RowKit

theorem cv1 (w : World) (b : UInt8) (n : Int) (hn : (b.toNat : Int) = n) :
    (convert 103 9 (.slice (some ⟨w.heap.size, 0, none⟩) 1 1)).run Tryd.prog (w.alloc (.cells #[.int .u8 n] 5)) = .ok (sv [b]) (w.alloc (.cells #[.int .u8 n] 5)) := by
  subst hn
  exact run_convert_bytes_back (P := Tryd.prog) (w.alloc (.cells #[.int .u8 b.toNat] 5)) 103 9 5 ⟨w.heap.size, 0, none⟩ 1 [b] Tryd.underlying103 Tryd.underlying5 Tryd.underlying9 (fun j hj => by
    obtain rfl : j = 0 := by simpa using hj
    exact World.cell?_alloc_mark w #[.int .u8 b.toNat] 5 _ 0)
set_option maxRecDepth 100000 in
set_option maxHeartbeats 1000000 in
theorem specNumber (x : Int) (hx : 0 ≤ x ∧ x ≤ 5) (w : World) :
    Calls Tryd.prog 43 #[.int .i64 x] w fun e w' => e = .returned (sv [UInt8.ofNat (48 + x.toNat)]) ∧ Below w.heap.size w w' := by
  have h : x = 0 ∨ x = 1 ∨ x = 2 ∨ x = 3 ∨ x = 4 ∨ x = 5 := by omega
  clear hx
  rcases h with rfl | rfl | rfl | rfl | rfl | rfl
  all_goals
    have c0 := cv1 w 48 48 rfl
    have c1 := cv1 w 49 49 rfl
    have c2 := cv1 w 50 50 rfl
    have c3 := cv1 w 51 51 rfl
    have c4 := cv1 w 52 52 rfl
    have c5 := cv1 w 53 53 rfl
    go_enter Tryd.func43, Tryd.ntmps43
    go_wp2
    go_ret
    exact ⟨rfl, (Below.refl _ _).alloc (Nat.le_refl _) _⟩

theorem last_bound {p : Int} : ∀ {t : Tm}, t.ok p → 0 ≤ t.last ∧ t.last ≤ 5
  | .leaf k x, h => by simp only [Tm.ok] at h; simp only [Tm.last]; omega
  | .un t, _ => by simp [Tm.last]
  | .bin k a b, h => by simp only [Tm.ok] at h; simp only [Tm.last]; omega
theorem post_last : ∀ t : Tm, (t.post.getD (t.post.length - 1) (0, 0)).1 = t.last
  | .leaf k x => rfl
  | .un t => by simp [Tm.post, Tm.last, List.getD_eq_getElem?_getD]
  | .bin k a b => by simp [Tm.post, Tm.last, List.getD_eq_getElem?_getD]
end Go.Proofs.YtefmoljipbbmmaaDoor
