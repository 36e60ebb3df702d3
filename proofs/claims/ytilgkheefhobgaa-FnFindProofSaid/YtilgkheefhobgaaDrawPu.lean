/- The reference model's draws of proofs. -/
import Derived.Test.YtilgkheefhobgaaDrawPt
namespace Go.Proofs.Ytilgkheefhobgaa
open Go.RowKit Go.Joins
def OutPP (w : World) (e : Ending) (w' : World) : Prop :=
  ∃ (p : Int) (v : Value) (qs : List QC) (g cap : Nat) (ms : List (Int × Int)), 1 ≤ p ∧ p ≤ 4 ∧ e = .returned (.tuple #[.int .i64 p, v, .slice (some ⟨g, 0, none⟩) ms.length cap]) ∧ StoryIn w' w.heap.size w.heap.size v qs ∧ QSmall qs ∧ qs.length ≤ 7 ∧
    w'.ownsRow w.heap.size TM 2 (.slice (some ⟨g, 0, none⟩) ms.length cap) ms.length (mcells ms) ∧ I64s ms ∧ ms.length ≤ 20 ∧ Below w.heap.size w w'
def OutPQ (w : World) (e : Ending) (w' : World) : Prop :=
  ∃ (p : Int) (v : Value) (qs : List QC) (g cap : Nat) (ms : List (Int × Int)) (fi : Int) (pv : Value) (sp : List Sp3), 1 ≤ p ∧ p ≤ 4 ∧ e = .returned (.tuple #[.int .i64 p, v, .slice (some ⟨g, 0, none⟩) ms.length cap, .agg #[.int .i64 fi, pv]]) ∧ StoryIn w' w.heap.size w.heap.size v qs ∧ QSmall qs ∧ qs.length ≤ 7 ∧
    w'.ownsRow w.heap.size TM 2 (.slice (some ⟨g, 0, none⟩) ms.length cap) ms.length (mcells ms) ∧ I64s ms ∧ ms.length ≤ 20 ∧ w'.ownsRow w.heap.size TSp 3 pv sp.length (scells sp) ∧ S64 sp ∧ sp.length ≤ 16 ∧ I64 fi ∧ Below w.heap.size w w'
def OutPR (w : World) (e : Ending) (w' : World) : Prop :=
  ∃ (p : Int) (v : Value) (qs : List QC) (g cap : Nat) (ms : List (Int × Int)) (s : List UInt8), 1 ≤ p ∧ p ≤ 4 ∧ e = .returned (.tuple #[.int .i64 p, v, .slice (some ⟨g, 0, none⟩) ms.length cap, sv s]) ∧ StoryIn w' w.heap.size w.heap.size v qs ∧ QSmall qs ∧ qs.length ≤ 7 ∧
    w'.ownsRow w.heap.size TM 2 (.slice (some ⟨g, 0, none⟩) ms.length cap) ms.length (mcells ms) ∧ I64s ms ∧ ms.length ≤ 20 ∧ s.length ≤ 1000 ∧ Below w.heap.size w w'
theorem ext_take11 (T : List UInt8) (k : Nat) : (⟨T.toArray⟩ : ByteArray).extract 0 k = ⟨(T.take k).toArray⟩ := by
  apply ByteArray.ext
  simp
theorem ext_drop11 (T : List UInt8) (k : Nat) : (⟨T.toArray⟩ : ByteArray).extract k T.length = ⟨(T.drop k).toArray⟩ := by
  apply ByteArray.ext
  simp
  exact List.take_of_length_le (by simp)
abbrev eightO : Obj := .cells #[sv [], sv [40], sv [41], sv [44], sv [42], sv [48], sv [97, 40, 42, 44, 42, 41], sv [101]] 9
def eightL (Z : Nat) : List UInt8 := ([[], [40], [41], [44], [42], [48], [97, 40, 42, 44, 42, 41], [101]] : List (List UInt8)).getD Z []
theorem eight (W : World) (Z : Nat) (hZ : Z < 8) : (eightL Z).length ≤ 6 ∧ (W.alloc eightO).cell? ⟨W.heap.size, Z, none⟩ = some (sv (eightL Z)) ∧ (#[sv [], sv [40], sv [41], sv [44], sv [42], sv [48], sv [97, 40, 42, 44, 42, 41], sv [101]] : Array Value)[Z]? = some (sv (eightL Z)) := by
  have h : Z = 0 ∨ Z = 1 ∨ Z = 2 ∨ Z = 3 ∨ Z = 4 ∨ Z = 5 ∨ Z = 6 ∨ Z = 7 := by omega
  rcases h with rfl | rfl | rfl | rfl | rfl | rfl | rfl | rfl <;> exact ⟨by decide, World.cell?_alloc_mark W _ _ _ _, rfl⟩
attribute [local irreducible] holds tabN tabV holdsV sameV followsV alwaysV matterV claimOk mayT mayV ctabV ctabN storyV storyOk storyN storyT ctermV ctermL wlp vals findF foundS foundG provesF tbF
set_option maxHeartbeats 1000000 in
theorem drawFollowsFrom (a : Value) (n : Nat) (w : World) (hr : RdBytes w w.heap.size a n) :
    Calls Try.prog 7 #[a] w (OutPP w) := by
  go_enter Try.func7, Try.ntmps7
  go_wp2_with fail
  refine (l20Open _ _ _ hr).mono ?_
  rintro e w1 ⟨b, rfl, hb, hrd, hbel⟩
  go_wp2_with fail
  refine (l20Proved b 0 _ hrd (by omega)).mono ?_
  rintro e w2 ⟨p, v, qs, g, cap, ms, hp1, hp4, rfl, hst, hqs, hq7, hown, hi, hn, hrd2, hg2⟩
  have HB := Lib.hid (below_of_grown hbel hb hg2)
  have Hst := Lib.hid (hst.mono hbel.size hbel.size)
  have Ho := Lib.hid (own_mono hown hbel.size)
  clear hrd hg2 hst hrd2 hown
  clear hbel
  go_wp2
  go_ret3
  exact ⟨p, v, qs, g, cap, ms, hp1, hp4, rfl, Hst.out, hqs, hq7, Ho.out, hi, hn, HB.out⟩
set_option maxHeartbeats 1000000 in
theorem drawFindProof (a : Value) (n : Nat) (w : World) (hr : RdBytes w w.heap.size a n) :
    Calls Try.prog 18 #[a] w (OutPP w) := by
  go_enter Try.func18, Try.ntmps18
  go_wp2_with fail
  refine (l20Open _ _ _ hr).mono ?_
  rintro e w1 ⟨b, rfl, hb, hrd, hbel⟩
  go_wp2_with fail
  refine (l20Proved b 0 _ hrd (by omega)).mono ?_
  rintro e w2 ⟨p, v, qs, g, cap, ms, hp1, hp4, rfl, hst, hqs, hq7, hown, hi, hn, hrd2, hg2⟩
  have HB := Lib.hid (below_of_grown hbel hb hg2)
  have Hst := Lib.hid (hst.mono hbel.size hbel.size)
  have Ho := Lib.hid (own_mono hown hbel.size)
  clear hrd hg2 hst hrd2 hown
  clear hbel
  go_wp2
  go_ret3
  exact ⟨p, v, qs, g, cap, ms, hp1, hp4, rfl, Hst.out, hqs, hq7, Ho.out, hi, hn, HB.out⟩
set_option maxRecDepth 100000 in
set_option maxHeartbeats 2000000 in
theorem drawProofOk (a : Value) (n : Nat) (w : World) (hr : RdBytes w w.heap.size a n) :
    Calls Try.prog 15 #[a] w (OutPQ w) := by
  obtain ⟨w1, hw1, hx1, hb1, hs1⟩ := Box.new w (.int .i64 0) (.slice none 0 0) 34
  have hr1 := RdBytes.up hr hb1
  go_enter Try.func15, Try.ntmps15
  go_upto_region 1 with fail
  rw [← hw1]
  clear hw1
  go_wp2_with fail
  refine (l20Open _ _ _ hr1).mono ?_
  rintro e w2 ⟨b, rfl, hb, hrd, hbel⟩
  have hs2 := hbel.size
  go_wp2_with fail
  refine (l20Proof 2 b 0 _ hrd (by omega) (by omega)).mono ?_
  rintro e w3 ⟨p, v, qs, g, cap, ms, fi, pv, sp, hp1, hp4, rfl, hst, hqs, hq7, hown, hi, hn, hpo, hs, hl, hf, hrd3, hg3⟩
  have hs3 := hg3.size
  have hx3 := (hx1.below hbel).grown hg3 (by intro e; cases e; omega)
  obtain ⟨po, pcap, rfl⟩ := own_len hpo
  have hb3 := below_of_grown (hb1.trans (hbel.mono (by omega))) (by omega) hg3
  obtain ⟨w6, e6, hx6, hg6⟩ := hx3.set (.int .i64 fi) (.slice po sp.length pcap)
  have hout : OutPQ w (.returned (.tuple #[.int .i64 p, v, .slice (some ⟨g, 0, none⟩) ms.length cap, .agg #[.int .i64 fi, .slice po sp.length pcap]])) w6 :=
    ⟨p, v, qs, g, cap, ms, fi, _, sp, hp1, hp4, rfl, (hst.row hg6 (by omega) (by omega)).mono (by omega) (by omega), hqs, hq7, own_mono (own_row hown hg6 (by omega)) (by omega), hi, hn, own_mono (own_row hpo hg6 (by omega)) (by omega), hs, hl, hf, below_own_set hb3 hg6⟩
  have E6 := Lib.hid e6
  have Hout := Lib.hid hout
  obtain ⟨y1, y2, y3, y4, y5⟩ := hx3
  clear hout e6 hst hown hpo hg3 hg6 hrd hrd3 hb3 hbel hb1 hx1 hr hr1 hs hi
  generalize sp.length = L at *
  generalize ms.length = ML at *
  go_wp2
  rw [← E6.out]
  obtain ⟨z1, z2, _⟩ := hx6
  exact bodyPost_ret (by simp [results, Try.results15, go_sem, z1, z2]) rfl Hout.out
end Go.Proofs.Ytilgkheefhobgaa
