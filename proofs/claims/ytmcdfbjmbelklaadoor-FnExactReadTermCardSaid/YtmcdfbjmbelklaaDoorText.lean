/- Texts of terms: what the trees read as, and contracts of the program's small functions over texts. -/
import Derived.Test.YtmcdfbjmbelklaaDoorMarks
namespace Go.Proofs.YtmcdfbjmbelklaaDoor
open Go.RowKit

/-- the kind of the last mark -/
def Tm.last : Tm → Int
  | .leaf k _ => k
  | .un _ => 2
  | .bin k _ _ => k
def sign (k : Int) : UInt8 := if k = 3 then 38 else if k = 4 then 124 else 61
def within (l : List UInt8) (last k : Int) : List UInt8 := if k < last then 40 :: (l ++ [41]) else l
/-- the text of a term -/
def txt : Tm → List UInt8
  | .leaf k x => if k = 0 then [UInt8.ofNat (97 + x.toNat)] else [UInt8.ofNat (48 + x.toNat)]
  | .un t => 33 :: within (txt t) t.last 2
  | .bin k a b => within (txt a) a.last k ++ sign k :: within (txt b) b.last (k - 1)
theorem within_len (l : List UInt8) (a k : Int) : (within l a k).length ≤ l.length + 2 := by
  unfold within; split <;> simp
/-- a text has at most five signs a mark -/
theorem txt_len : ∀ t : Tm, (txt t).length ≤ 5 * t.post.length
  | .leaf k x => by unfold txt; split <;> simp [Tm.post]
  | .un t => by
    have := txt_len t
    have h := within_len (txt t) t.last 2
    simp [txt, Tm.post]; omega
  | .bin k a b => by
    have h1 := txt_len a
    have h2 := txt_len b
    have h3 := within_len (txt a) a.last k
    have h4 := within_len (txt b) b.last (k - 1)
    simp [txt, Tm.post]; omega
abbrev sv (l : List UInt8) : Value := .string ⟨l.toArray⟩

set_option maxHeartbeats 400000 in
theorem implWithin (l : List UInt8) (a k : Int) (hl : l.length ≤ 1000) (w : World) :
    Calls Tryd.prog 41 #[.agg #[sv l, .int .i64 a], .int .i64 k] w fun e w' => e = .returned (sv (within l a k)) ∧ Below w.heap.size w w' := by
  by_cases h : k < a
  · have hw : Hid (within l a k = 40 :: (l ++ [41])) := by unfold Hid within; rw [if_pos h]
    go_enter Tryd.func41, Tryd.ntmps41
    go_wp2
    go_ret
    refine ⟨?_, (Below.refl _ _).alloc (Nat.le_refl _) _⟩
    rw [hw.out]
    rfl
  · have hw : Hid (within l a k = l) := by unfold Hid within; rw [if_neg h]
    have h' : a ≤ k := by omega
    go_enter Tryd.func41, Tryd.ntmps41
    go_wp2
    go_ret
    refine ⟨?_, (Below.refl _ _).alloc (Nat.le_refl _) _⟩
    rw [hw.out]
    rfl
set_option maxHeartbeats 400000 in
theorem implJoinSign (k : Int) (hk : 3 ≤ k ∧ k ≤ 5) (w : World) :
    Calls Tryd.prog 42 #[.int .i64 k] w fun e w' => e = .returned (sv [sign k]) ∧ w = w' := by
  have h : k = 3 ∨ k = 4 ∨ k = 5 := by omega
  clear hk
  rcases h with rfl | rfl | rfl
  all_goals
    go_enter Tryd.func42, Tryd.ntmps42
    go_wp2
    go_ret
    exact ⟨rfl, rfl⟩
set_option maxHeartbeats 1000000 in
theorem itoa (x : Int) (hx : 0 ≤ x ∧ x ≤ 5) (w : World) :
    Calls Tryd.prog 40 #[.int .i64 x] w fun e w' => e = .returned (sv [UInt8.ofNat (48 + x.toNat)]) ∧ w = w' := by
  have h : x = 0 ∨ x = 1 ∨ x = 2 ∨ x = 3 ∨ x = 4 ∨ x = 5 := by omega
  clear hx
  rcases h with rfl | rfl | rfl | rfl | rfl | rfl
  all_goals
    go_enter Tryd.func40, Tryd.ntmps40
    go_wp2
    go_ret
    exact ⟨rfl, rfl⟩
end Go.Proofs.YtmcdfbjmbelklaaDoor
