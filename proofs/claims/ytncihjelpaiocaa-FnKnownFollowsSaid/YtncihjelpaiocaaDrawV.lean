/- Draws of stories for the laws of stories with one answer. -/
import Derived.Test.YtncihjelpaiocaaDrawS
namespace Go.Proofs.Ytncihjelpaiocaa
open Go.RowKit Go.Joins
set_option maxHeartbeats 1000000 in
theorem drawClashOk (a : Value) (n : Nat) (w : World) (hr : RdBytes w w.heap.size a n) :
    Calls Try.prog 14 #[a] w (OutS w) := by
  go_enter Try.func14, Try.ntmps14
  go_wp2_with fail
  refine (l20Open _ _ _ hr).mono ?_
  rintro e w1 ⟨b, rfl, hb, hrd, hbel⟩
  go_wp2_with fail
  refine (l20Story 12 b 0 _ hrd (by omega) (by omega)).mono ?_
  rintro e w2 ⟨p, v, qs, hp1, hp4, rfl, hst, hqs, hq7, hrd2, hg2⟩
  have HB := Lib.hid (below_of_grown hbel hb hg2)
  have Hst := Lib.hid (hst.mono hbel.size hbel.size)
  clear hrd hg2 hbel hst hrd2
  go_wp2
  go_ret2
  exact ⟨p, v, qs, by omega, by omega, rfl, Hst.out, hqs, hq7, HB.out⟩
set_option maxHeartbeats 1000000 in
theorem drawOnlyWorld (a : Value) (n : Nat) (w : World) (hr : RdBytes w w.heap.size a n) :
    Calls Try.prog 19 #[a] w (OutS w) := by
  go_enter Try.func19, Try.ntmps19
  go_wp2_with fail
  refine (l20Open _ _ _ hr).mono ?_
  rintro e w1 ⟨b, rfl, hb, hrd, hbel⟩
  go_wp2_with fail
  refine (l20Story 12 b 0 _ hrd (by omega) (by omega)).mono ?_
  rintro e w2 ⟨p, v, qs, hp1, hp4, rfl, hst, hqs, hq7, hrd2, hg2⟩
  have HB := Lib.hid (below_of_grown hbel hb hg2)
  have Hst := Lib.hid (hst.mono hbel.size hbel.size)
  clear hrd hg2 hbel hst hrd2
  go_wp2
  go_ret2
  exact ⟨p, v, qs, by omega, by omega, rfl, Hst.out, hqs, hq7, HB.out⟩
set_option maxHeartbeats 1000000 in
theorem drawKnownPeople (a : Value) (n : Nat) (w : World) (hr : RdBytes w w.heap.size a n) :
    Calls Try.prog 24 #[a] w (OutS w) := by
  go_enter Try.func24, Try.ntmps24
  go_wp2_with fail
  refine (l20Open _ _ _ hr).mono ?_
  rintro e w1 ⟨b, rfl, hb, hrd, hbel⟩
  go_wp2_with fail
  refine (l20Story 12 b 0 _ hrd (by omega) (by omega)).mono ?_
  rintro e w2 ⟨p, v, qs, hp1, hp4, rfl, hst, hqs, hq7, hrd2, hg2⟩
  have HB := Lib.hid (below_of_grown hbel hb hg2)
  have Hst := Lib.hid (hst.mono hbel.size hbel.size)
  clear hrd hg2 hbel hst hrd2
  go_wp2
  go_ret2
  exact ⟨p, v, qs, by omega, by omega, rfl, Hst.out, hqs, hq7, HB.out⟩
set_option maxHeartbeats 1000000 in
theorem drawNeedlessClaims (a : Value) (n : Nat) (w : World) (hr : RdBytes w w.heap.size a n) :
    Calls Try.prog 29 #[a] w (OutS w) := by
  go_enter Try.func29, Try.ntmps29
  go_wp2_with fail
  refine (l20Open _ _ _ hr).mono ?_
  rintro e w1 ⟨b, rfl, hb, hrd, hbel⟩
  go_wp2_with fail
  refine (l20Story 12 b 0 _ hrd (by omega) (by omega)).mono ?_
  rintro e w2 ⟨p, v, qs, hp1, hp4, rfl, hst, hqs, hq7, hrd2, hg2⟩
  have HB := Lib.hid (below_of_grown hbel hb hg2)
  have Hst := Lib.hid (hst.mono hbel.size hbel.size)
  clear hrd hg2 hbel hst hrd2
  go_wp2
  go_ret2
  exact ⟨p, v, qs, by omega, by omega, rfl, Hst.out, hqs, hq7, HB.out⟩
set_option maxHeartbeats 1000000 in
theorem drawLeastStory (a : Value) (n : Nat) (w : World) (hr : RdBytes w w.heap.size a n) :
    Calls Try.prog 34 #[a] w (OutS w) := by
  go_enter Try.func34, Try.ntmps34
  go_wp2_with fail
  refine (l20Open _ _ _ hr).mono ?_
  rintro e w1 ⟨b, rfl, hb, hrd, hbel⟩
  go_wp2_with fail
  refine (l20Story 12 b 0 _ hrd (by omega) (by omega)).mono ?_
  rintro e w2 ⟨p, v, qs, hp1, hp4, rfl, hst, hqs, hq7, hrd2, hg2⟩
  have HB := Lib.hid (below_of_grown hbel hb hg2)
  have Hst := Lib.hid (hst.mono hbel.size hbel.size)
  clear hrd hg2 hbel hst hrd2
  go_wp2
  go_ret2
  exact ⟨p, v, qs, by omega, by omega, rfl, Hst.out, hqs, hq7, HB.out⟩
end Go.Proofs.Ytncihjelpaiocaa
