/- Contracts of the reference's proofs by cases: checks from any target on. -/
import Derived.Test.YtefmoljipbbmmaaDoorMerged13
import Derived.Test.YtefmoljipbbmmaaDoorMerged6
import Derived.Lib.AppendZeros
namespace Go.Proofs.YtefmoljipbbmmaaDoor
open Go.RowKit Go.Joins
abbrev TI : TypeId := 80
theorem Tryd.infoInt : (Tryd.prog.info? 3).map (fun i => (i.zero, i.size, i.bytes)) = some (some (.int .i64 0), 1, 8) := by kernel_rfl
theorem new_three (w : World) (a b c : Value) (T : TypeId) : ∃ w1 : World, w1 = w.alloc (.cells #[a, b, c] T) ∧ w1.cell? ⟨w.heap.size, 0, none⟩ = some a ∧ w1.cell? ⟨w.heap.size, 1, none⟩ = some b ∧ w1.cell? ⟨w.heap.size, 2, none⟩ = some c ∧ Below w.heap.size w w1 ∧ w1.heap.size = w.heap.size + 1 := by
  refine ⟨_, rfl, ?_, ?_, ?_, (Below.refl _ _).alloc (Nat.le_refl _) _, by simp⟩
  · have := cell_of_row (w.alloc (.cells #[a, b, c] T)) w.heap.size 0 _ T (0, 0) (heap_alloc_new w _)
    rw [this]; rfl
  · have := cell_of_row (w.alloc (.cells #[a, b, c] T)) w.heap.size 1 _ T (0, 0) (heap_alloc_new w _)
    rw [this]; rfl
  · have := cell_of_row (w.alloc (.cells #[a, b, c] T)) w.heap.size 2 _ T (0, 0) (heap_alloc_new w _)
    rw [this]; rfl
theorem ints_set (kn : List Int) (k : Nat) (z : Int) : ints (kn.set k z) = (ints kn).set k (.int .i64 z) := by unfold ints; rw [List.map_set]
theorem ints_len (kn : List Int) : (ints kn).length = kn.length := by simp [ints]
/-- a row of numbers behind an empty one: a copy -/
theorem more_runs (P : Nat) (h1 : 1 ≤ P) (h4 : P ≤ 4) (kn : List Int) (hl : kn.length = P) (B : Nat) (kv : Value) (w : World) (hk : RdInts w B kv kn) (hB : B ≤ w.heap.size) :
    ∃ g cap w2, (Builtin.append_ #[TI, TI] TI #[.slice (some ⟨w.heap.size, 0, none⟩) 0 0, kv]).run Tryd.prog (w.alloc (.cells #[] 3)) = .ok (.slice (some ⟨g, 0, none⟩) P cap) w2 ∧ w2.ownsRow w.heap.size 3 1 (.slice (some ⟨g, 0, none⟩) P cap) P (ints kn) ∧ Below w.heap.size w w2 := by
  obtain ⟨ii, hii, hz0, hz1, hz2⟩ := info_parts Tryd.infoInt
  obtain ⟨ao, cap, rfl, hle, hm, hc⟩ := hk
  obtain ⟨b, off, rfl, hb, _⟩ := hc 0 (by omega)
  have hb1 : Below w.heap.size w (w.alloc (.cells #[] 3)) := (Below.refl _ _).alloc (Nat.le_refl _) _
  have hmade : (w.alloc (.cells #[] 3)).ownsRow w.heap.size 3 1 (.slice (some ⟨w.heap.size, 0, none⟩) 0 0) 0 [] := World.ownsRow_made _ _ 0 (Nat.le_refl _) (by unfold maxLen; omega) rfl
  have hnews : ∀ (j : Nat) (x : Value), (ints kn)[j]? = some x → (w.alloc (.cells #[] 3)).cell? ((⟨b, off, none⟩ : Addr).add j) = some x := by
    intro j x hj
    have hjl : j < kn.length := by
      have := (List.getElem?_eq_some_iff.1 hj).1
      rwa [ints_len] at this
    obtain ⟨b', off', he, _, hcell⟩ := hc j hjl
    cases he
    have e1 := hb1.cell (p := ⟨b, off + j, none⟩) (show b < w.heap.size by omega)
    unfold ints at hj
    rw [List.getElem?_map, List.getElem?_eq_getElem hjl] at hj
    cases hj
    rw [show (⟨b, off, none⟩ : Addr).add j = ⟨b, off + j, none⟩ by simp [Addr.add], e1, hcell]
    simp [List.getD, hjl]
  obtain ⟨v', w', hrun, hown, hgr, _, hob⟩ := run_append_own_at (P := Tryd.prog) (w.alloc (.cells #[] 3)) w.heap.size TI TI 3 ii (.int .i64 0) 1 8 Tryd.underlying80 hii hz0 hz1 hz2 rfl (by decide) _ _ _ hmade ⟨b, off, none⟩ kn.length cap (ints kn) (by rw [ints_len, Nat.mul_one]) hnews
    (by intro u hu; unfold ints at hu; obtain ⟨z, _, rfl⟩ := List.mem_map.1 hu; rfl) (by unfold maxLen; omega) (by omega) hb1.size
  have hb2 := hb1.grown hgr hb1.size (fun q hq => (hmade.lt q hq).1)
  rw [Nat.zero_add, List.nil_append, hl] at hown
  rw [hl] at hrun
  rcases hown.2 with ⟨_, h0⟩ | ⟨g, cp, cur, rfl, _⟩
  · omega
  · rw [hl]
    exact ⟨g, cp, w', hrun, hown, hb2⟩
theorem chkN_none : chkN none = 0 := rfl
theorem chkN_some (a : Nat) : chkN (some a) = (a : Int) := rfl
theorem isSome_none : (none : Option Nat).isSome = false := rfl
theorem isSome_some (a : Nat) : (some a).isSome = true := rfl
theorem ints_get {kn : List Int} {K : Nat} (h : K < kn.length) : (ints kn)[K]? = some (.int .i64 (kn.getD K 0)) := by
  unfold ints
  rw [List.getElem?_map, List.getElem?_eq_getElem h]
  simp [List.getD, h]
theorem next_no {n : Nat} {g x : Int} (h0 : 0 ≤ x) (h : x ≤ g ∨ (n : Int) ≤ x) : nextOk n g x = false := by
  cases hn : nextOk n g x with
  | false => rfl
  | true => have := nextOk_iff.1 hn; omega
theorem rd_own_ints {w : World} {base n : Nat} {e : TypeId} {v : Value} {zs : List Int} (hl : zs.length = n) (h : w.ownsRow base e 1 v n (ints zs)) : RdInts w w.heap.size v zs := by
  subst hl; exact RdInts.of_own h
attribute [local irreducible] holds tabN tabV holdsV sameV followsV alwaysV matterV claimOk mayT mayV ctabV ctabN storyV storyOk storyN storyT ctermV ctermL followsF agreeN agreeB closeB chkN checks nextOk ints hfV clL
/-- what is known of the sum when so many sides are done -/
def PartC (P : Nat) (hf : Nat → Bool) (cl : List (Nat → Bool)) (sp : List Sp3) (f K : Nat) (kn : List Int) (x : Int) (R : Option Nat) (side S : Nat) : Prop :=
  (side = 0 → S = 1) ∧ (side = 1 → ∃ a, checks P hf cl sp f x (kn.set K 0) = some a ∧ S = 1 + a) ∧ (side = 2 → R = some S)
theorem size_16 {P : Nat} (h4 : P ≤ 4) {hf : Nat → Bool} {cl : List (Nat → Bool)} {sp : List Sp3} {f : Nat} {g : Int} {kn : List Int} {a : Nat} (hl : kn.length = P) (h : checks P hf cl sp f g kn = some a) : a ≤ 15 := by
  obtain ⟨h1, h2⟩ := checks_tree f g kn a h
  have h3 := PT.size_le _ kn hl h1
  have hu : unkN P kn ≤ P := by
    unfold unkN
    exact Nat.le_trans List.countP_le_length (by simp)
  have : 2 ^ unkN P kn ≤ 2 ^ 4 := Nat.pow_le_pow_right (by decide) (by omega)
  omega
set_option maxRecDepth 100000 in
set_option maxHeartbeats 8000000 in
theorem specChecks_node (P : Nat) (qs : List QC) (ms : List (Int × Int)) (ht : termOk (P : Int) ms = true) (sp : List Sp3) (_h15 : sp.length ≤ 15) (fi : Int) (f : Nat)
    (ih : ∀ (g : Int) (kn : List Int), kn.length = P → g < sp.length → (g < 0 → 1 ≤ f) → (0 ≤ g → sp.length - g.toNat < f) → ∀ (B : Nat) (v u pv kv : Value) (w : World), RdStory w B v qs → RdMarks w B u ms → RdSplits w B pv sp → RdInts w B kv kn → B ≤ w.heap.size →
      Calls Tryd.prog 40 #[.int .i64 (P : Int), v, u, .agg #[.int .i64 fi, pv], .int .i64 g, kv] w fun e w' => e = .returned (.tuple #[.int .i64 (chkN (checks P (hfV P ms) (clL P (qs.map (·.2))) sp f g kn)), .bool (checks P (hfV P ms) (clL P (qs.map (·.2))) sp f g kn).isSome]) ∧ Below w.heap.size w w')
    (G : Nat) (hG : G < sp.length) (hfu : sp.length - G < f + 1) (kn : List Int) (hl : kn.length = P) (B : Nat) (v u pv kv : Value) (w : World) (hr : RdStory w B v qs) (hr' : RdMarks w B u ms) (hp : RdSplits w B pv sp) (hk : RdInts w B kv kn) (hB : B ≤ w.heap.size) :
    Calls Tryd.prog 40 #[.int .i64 (P : Int), v, u, .agg #[.int .i64 fi, pv], .int .i64 (G : Int), kv] w fun e w' => e = .returned (.tuple #[.int .i64 (chkN (checks P (hfV P ms) (clL P (qs.map (·.2))) sp (f + 1) G kn)), .bool (checks P (hfV P ms) (clL P (qs.map (·.2))) sp (f + 1) G kn).isSome]) ∧ Below w.heap.size w w' := by
  obtain ⟨h1, h4⟩ := p_of ht
  obtain ⟨po, pcap, rfl, hple, hpm, hi64, hpc⟩ := hp
  have Hp := Lib.hid (show RdSplits w B (.slice po sp.length pcap) sp from ⟨po, pcap, rfl, hple, hpm, hi64, hpc⟩)
  obtain ⟨pb, poff, rfl, hpb, c1, c2, c3⟩ := hpc G hG
  obtain ⟨ko, kcap, rfl, hkle, hkm, hkc⟩ := hk
  have Hk := Lib.hid (show RdInts w B (.slice ko kn.length kcap) kn from ⟨ko, kcap, rfl, hkle, hkm, hkc⟩)
  have Hkc := Lib.hid hkc; clear hkc
  unfold maxLen at hpm hkm
  have Hr := Lib.hid hr
  have Hm := Lib.hid hr'
  clear hr hr' hpc
  have Hwho := Lib.hid (fun k x y => checks_who (P := P) (hf := hfV P ms) (cl := clL P (qs.map (·.2))) (sp := sp) (f := f) (g := (G : Int)) (kn := kn) (k := k) (x := x) (y := y) (by omega))
  have Hkno := Lib.hid (fun k x y => checks_known (P := P) (hf := hfV P ms) (cl := clL P (qs.map (·.2))) (sp := sp) (f := f) (g := (G : Int)) (kn := kn) (k := k) (x := x) (y := y) (by omega))
  have Hn0 := Lib.hid (fun k x y => checks_no0 (P := P) (hf := hfV P ms) (cl := clL P (qs.map (·.2))) (sp := sp) (f := f) (g := (G : Int)) (kn := kn) (k := k) (x := x) (y := y) (by omega))
  have Hn1 := Lib.hid (fun k x y => checks_no1 (P := P) (hf := hfV P ms) (cl := clL P (qs.map (·.2))) (sp := sp) (f := f) (g := (G : Int)) (kn := kn) (k := k) (x := x) (y := y) (by omega))
  have Hof := Lib.hid (fun (K : Nat) x y a b => checks_of (P := P) (hf := hfV P ms) (cl := clL P (qs.map (·.2))) (sp := sp) (f := f) (g := (G : Int)) (kn := kn) (k := K) (x := x) (y := y) (a := a) (b := b) (by omega))
  have H16 := Lib.hid (fun g kn' a hl h => size_16 (P := P) (by omega) (hf := hfV P ms) (cl := clL P (qs.map (·.2))) (sp := sp) (f := f) (g := g) (kn := kn') (a := a) hl h)
  have Hmk := Lib.hid (fun w hk hB => more_runs P (by omega) (by omega) kn hl B (.slice ko kn.length kcap) w hk hB)
  have Hih := Lib.hid ih
  clear ih ht
  generalize hR : checks P (hfV P ms) (clL P (qs.map (·.2))) sp (f + 1) G kn = R at *
  clear hR
  generalize hfV P ms = hf at *
  generalize clL P (qs.map (·.2)) = cl at *
  rw [Int.toNat_natCast] at Hwho Hkno Hn0 Hn1 Hof
  generalize hsg : sp.getD G sp0 = s at *
  obtain ⟨k, x, y⟩ := s
  dsimp only at c1 c2 c3
  have Hl := Lib.hid hl
  rw [hl] at hkle Hk Hkc Hmk ⊢
  have hwp : IntKind.i64.wrap ((P : Int) - 1) = (P : Int) - 1 := IntWalk.i64_in _ (by omega)
  generalize hn : sp.length = n at *
  have Hhn := Lib.hid hn
  clear hsg hl hn
  obtain ⟨wo, rfl⟩ : ∃ wo : World, wo = w := ⟨_, rfl⟩
  by_cases hkP : 0 ≤ k ∧ k < P
  case neg =>
    have HR : Hid (R = none) := Hwho.out k x y rfl hkP
    have hin : Hid (false = decide ((0 : Int) ≤ k ∧ k ≤ (P : Int) - 1)) := by unfold Hid; rw [eq_comm, decide_eq_false_iff_not]; omega
    clear Hwho Hkno Hn0 Hn1 Hof H16 Hmk Hih Hr Hm Hk Hkc hkP Hp
    go_enter Tryd.func40, Tryd.ntmps40
    go_upto_region 1 with fail
    obtain ⟨w2, hw2, f1, f2, hbw, hsz⟩ := new_two wo (.int .i64 fi) (.slice (some ⟨pb, poff, none⟩) n pcap) 37
    rw [← hw2]
    rw [← hbw.cell (p := ⟨pb, _, none⟩) (show pb < _ by omega)] at c1 c2 c3
    have Hbw := Lib.hid hbw
    clear hw2 hbw
    go_upto_region 4 with fail
    obtain ⟨w3, hw3, n1, n2, n3, hb3, hs3⟩ := new_three w2 (.int .i64 k) (.int .i64 x) (.int .i64 y) 85
    rw [← hw3]
    have Hb3 := Lib.hid (Hbw.out.trans (hb3.mono (by omega)))
    clear hw3 hb3
    go_wp2_with fail
    refine (specL1In11 _ _ _ false hin _).mono ?_
    rintro e w' ⟨rfl, rfl⟩
    go_wp2
    go_ret2
    rw [HR.out, chkN_none, isSome_none]
    exact ⟨rfl, Hb3.out⟩
  obtain ⟨K, rfl⟩ := Int.eq_ofNat_of_zero_le hkP.1
  have hKP : K < P := by omega
  have hin : Hid (true = decide ((0 : Int) ≤ (K : Int) ∧ (K : Int) ≤ (P : Int) - 1)) := by unfold Hid; rw [eq_comm, decide_eq_true_eq]; omega
  obtain ⟨kb, koff, rfl, hkb, hkcell⟩ := Hkc.out K hKP
  by_cases hkn : kn.getD K 0 < 0
  case neg =>
    have HR : Hid (R = none) := Hkno.out K x y rfl (by rw [Int.toNat_natCast]; exact hkn)
    clear Hwho Hkno Hn0 Hn1 Hof H16 Hmk Hih Hr Hm Hk Hkc Hp hkP
    generalize kn.getD K 0 = z at *
    go_enter Tryd.func40, Tryd.ntmps40
    go_upto_region 1 with fail
    obtain ⟨w2, hw2, f1, f2, hbw, hsz⟩ := new_two wo (.int .i64 fi) (.slice (some ⟨pb, poff, none⟩) n pcap) 37
    rw [← hw2]
    rw [← hbw.cell (p := ⟨pb, _, none⟩) (show pb < _ by omega)] at c1 c2 c3
    rw [← hbw.cell (p := ⟨kb, _, none⟩) (show kb < _ by omega)] at hkcell
    have Hbw := Lib.hid hbw
    have hgs : wo.heap.size < w2.heap.size := hsz
    clear hw2 hbw
    go_upto_region 4 with fail
    obtain ⟨w3, hw3, n1, n2, n3, hb3, hs3⟩ := new_three w2 (.int .i64 K) (.int .i64 x) (.int .i64 y) 85
    rw [← hw3]
    rw [← hb3.cell (p := ⟨kb, _, none⟩) (show kb < _ by omega)] at hkcell
    have Hb3 := Lib.hid (Hbw.out.trans (hb3.mono (by omega)))
    clear hw3 hb3
    go_wp2_with fail
    refine (specL1In11 _ _ _ true hin _).mono ?_
    rintro e w' ⟨rfl, rfl⟩
    go_wp2
    go_ret2
    rw [HR.out, chkN_none, isSome_none]
    exact ⟨rfl, Hb3.out⟩
  obtain ⟨nx, hnx⟩ : ∃ nx : Nat → Int, nx = fun side => if side = 0 then x else y := ⟨_, rfl⟩
  have hnx0 : nx 0 = x := by rw [hnx]; rfl
  have hnx1 : nx 1 = y := by rw [hnx]; rfl
  have Hno : Hid (∀ side : Nat, side < 2 → (nextOk n (G : Int) (nx side) = false ∨ checks P hf cl sp f (nx side) (kn.set K side) = none) → R = none) := fun side hs h => by
    have h01 : side = 0 ∨ side = 1 := by omega
    rcases h01 with rfl | rfl
    · rw [hnx0] at h
      refine Hn0.out K x y rfl (fun hx => ?_)
      rcases h with h | h
      · rw [h] at hx; cases hx
      · rw [Int.toNat_natCast]; exact h
    · rw [hnx1] at h
      refine Hn1.out K x y rfl (fun hx => ?_)
      rcases h with h | h
      · rw [h] at hx; cases hx
      · rw [Int.toNat_natCast]; exact h
  have Hsome : Hid (∀ (side S a : Nat), side < 2 → PartC P hf cl sp f K kn x R side S → nextOk n (G : Int) (nx side) = true → (side = 1 → nextOk n (G : Int) x = true) → checks P hf cl sp f (nx side) (kn.set K side) = some a → PartC P hf cl sp f K kn x R (side + 1) (S + a) ∧ a ≤ 15) := fun side S a hs hpt hok hx1 hc => by
    refine ⟨?_, H16.out _ _ a (by rw [List.length_set]; exact Hl.out) hc⟩
    have h01 : side = 0 ∨ side = 1 := by omega
    rcases h01 with rfl | rfl
    · rw [hnx0] at hc
      refine ⟨fun h => by omega, fun _ => ⟨a, hc, by have := hpt.1 rfl; omega⟩, fun h => by omega⟩
    · rw [hnx1] at hc hok
      obtain ⟨a0, ha0, rfl⟩ := hpt.2.1 rfl
      exact ⟨fun h => by omega, fun h => by omega, fun _ => Hof.out K x y a0 a rfl hKP hkn (hx1 rfl) hok ha0 hc⟩
  have HIHn : Hid (∀ side : Nat, side < 2 → ∀ (kv' : Value) (w' : World) (B' : Nat), RdInts w' B' kv' (kn.set K side) → RdStory w' B' v qs → RdMarks w' B' u ms → RdSplits w' B' (.slice (some ⟨pb, poff, none⟩) n pcap) sp → nextOk n (G : Int) (nx side) = true → B' ≤ w'.heap.size →
      Calls Tryd.prog 40 #[.int .i64 (P : Int), v, u, .agg #[.int .i64 fi, .slice (some ⟨pb, poff, none⟩) n pcap], .int .i64 (nx side), kv'] w' fun e w'' => e = .returned (.tuple #[.int .i64 (chkN (checks P hf cl sp f (nx side) (kn.set K side))), .bool (checks P hf cl sp f (nx side) (kn.set K side)).isSome]) ∧ Below w'.heap.size w' w'') := fun side hs kv' w' B' hk hr hm hp hok hB' => by
    rcases nextOk_iff.1 hok with h | ⟨h, h'⟩
    · exact Hih.out (nx side) (kn.set K side) (by rw [List.length_set]; exact Hl.out) (by omega) (fun _ => by omega) (fun h0 => by omega) B' v u _ kv' w' hr hm hp hk hB'
    · exact Hih.out (nx side) (kn.set K side) (by rw [List.length_set]; exact Hl.out) (by have := Hhn.out; omega) (fun _ => by omega) (fun _ => by have := Hhn.out; omega) B' v u _ kv' w' hr hm hp hk hB'
  have Hget : Hid ((ints kn)[K]? = some (.int .i64 (kn.getD K 0))) := ints_get (by rw [Hl.out]; exact hKP)
  clear Hwho Hkno Hn0 Hn1 Hof H16 Hih Hkc hkP
  generalize kn.getD K 0 = z at *
  go_enter Tryd.func40, Tryd.ntmps40
  go_upto_region 1 with fail
  obtain ⟨w2, hw2, f1, f2, hbw, hsz⟩ := new_two wo (.int .i64 fi) (.slice (some ⟨pb, poff, none⟩) n pcap) 37
  rw [← hw2]
  rw [← hbw.cell (p := ⟨pb, _, none⟩) (show pb < _ by omega)] at c1 c2 c3
  rw [← hbw.cell (p := ⟨kb, _, none⟩) (show kb < _ by omega)] at hkcell
  have hgs : wo.heap.size < w2.heap.size := hsz
  have Hbw := Lib.hid hbw
  clear hw2 hbw
  go_upto_region 4 with fail
  obtain ⟨w3, hw3, n1, n2, n3, hb3, hs3⟩ := new_three w2 (.int .i64 K) (.int .i64 x) (.int .i64 y) 85
  rw [← hw3]
  rw [← hb3.cell (p := ⟨kb, _, none⟩) (show kb < _ by omega)] at hkcell
  rw [← hb3.cell (p := ⟨wo.heap.size, _, none⟩) (show wo.heap.size < _ by omega)] at f1 f2
  have hb03 := Hbw.out.trans (hb3.mono (by omega))
  have Hb3 := Lib.hid hb03
  have hs03 := hb03.size
  have Hr3 := Lib.hid (Hr.out.below (w' := w3) (fun q hq => hb03.block q (by omega)))
  have Hm3 := Lib.hid (Hm.out.below (w' := w3) (fun q hq => hb03.block q (by omega)))
  have Hp3 := Lib.hid (Hp.out.below (w' := w3) (fun q hq => hb03.block q (by omega)))
  have Hk3 := Lib.hid (Hk.out.below (w' := w3) (fun q hq => hb03.block q (by omega)))
  clear hw3 hb3 hb03 Hr Hm Hp Hk
  go_wp2_with fail
  refine (specL1In11 _ _ _ true hin _).mono ?_
  rintro e w' ⟨rfl, rfl⟩
  go_wp2
  clear c1 c2 c3 hkcell hin hwp
  go_loopw [15, 16, 17, 18, 19, 20] (fun sm sd _ _ _ _ wr => ∃ side S : Nat, side ≤ 2 ∧ S ≤ 1 + 15 * side ∧ sd = .int .i64 side ∧ sm = .int .i64 S ∧ Hid (PartC P hf cl sp f K kn x R side S) ∧ (1 ≤ side → nextOk n (G : Int) x = true) ∧ Below w3.heap.size w3 wr) (fun _ sd _ _ _ _ _ => 2 - (intOf sd).toNat)
  case atStart => exact ⟨0, 1, by omega, by omega, rfl, rfl, ⟨fun _ => rfl, fun h => by omega, fun h => by omega⟩, fun h => by omega, Below.refl _ _⟩
  case round =>
    obtain ⟨side, S, hsd, hS, rfl, rfl, Hpart, hxok, hbr⟩ := hrel
    have r1 := (hbr.cell (p := ⟨w2.heap.size, 0, none⟩) (by show w2.heap.size < w3.heap.size; omega)).trans n1
    have r2 := (hbr.cell (p := ⟨w2.heap.size, 1, none⟩) (by show w2.heap.size < w3.heap.size; omega)).trans n2
    have r3 := (hbr.cell (p := ⟨w2.heap.size, 2, none⟩) (by show w2.heap.size < w3.heap.size; omega)).trans n3
    have r4 := (hbr.cell (p := ⟨wo.heap.size, 0, none⟩) (by show wo.heap.size < w3.heap.size; omega)).trans f1
    have r5 := (hbr.cell (p := ⟨wo.heap.size, 1, none⟩) (by show wo.heap.size < w3.heap.size; omega)).trans f2
    have hss : side = 0 ∨ side = 1 ∨ side = 2 := by omega
    clear hsd
    rcases hss with rfl | rfl | rfl
    · have hno := Hno.out 0 (by omega)
      have hsome := fun a => Hsome.out 0 S a (by omega) Hpart.out
      have hih := fun kv' w' B' => HIHn.out 0 (by omega) kv' w' B'
      rw [hnx0] at hno hsome hih
      have Hno' := Lib.hid hno
      have Hsome' := Lib.hid hsome
      have HIH := Lib.hid hih
      clear hno hsome hih
      by_cases hx0 : x < 0
      · have hnok : nextOk n (G : Int) x = true := nextOk_iff.2 (.inl hx0)
        obtain ⟨h, cp, w5, hrun, hown, hb5⟩ := Hmk.out wr (Hk3.out.below (w' := wr) (fun q hq => hbr.block q (by omega))) (by have := hbr.size; omega)
        have Hrun := Lib.hid hrun
        have hstd := (hown.stored K (.int .i64 0)).1
        rw [← ints_set] at hstd
        have hlth := hown.lt h rfl
        have hfz := hown.frozenAt K
        have hcur := (hown.cellAt K (by omega)).trans Hget.out
        have hb6 : Below wr.heap.size wr (w5.setCell ⟨h, K, none⟩ (.int .i64 0)) := hb5.setCell (p := ⟨h, K, none⟩) hlth.1 _
        have hs6 := hb6.size
        have hsr := hbr.size
        have hk6 : RdInts (w5.setCell ⟨h, K, none⟩ (.int .i64 0)) (w5.setCell ⟨h, K, none⟩ (.int .i64 0)).heap.size (.slice (some ⟨h, 0, none⟩) P cp) (kn.set K 0) := by
          have hlen : (kn.set K 0).length = P := by rw [List.length_set]; exact Hl.out
          exact rd_own_ints hlen hstd
        have hb7 : Below w3.heap.size w3 (w5.setCell ⟨h, K, none⟩ (.int .i64 0)) := hbr.trans (hb6.mono hbr.size)
        have hcall := HIH.out _ _ _ hk6 ((Hr3.out.below (fun q hq => hb7.block q (by omega))).mono (by omega)) ((Hm3.out.below (fun q hq => hb7.block q (by omega))).mono (by omega)) ((Hp3.out.below (fun q hq => hb7.block q (by omega))).mono (by omega)) hnok (Nat.le_refl _)
        have Hcall := Lib.hid hcall
        have m4 := (hb7.cell (p := ⟨wo.heap.size, 0, none⟩) (by show wo.heap.size < w3.heap.size; omega)).trans f1
        have m5 := (hb7.cell (p := ⟨wo.heap.size, 1, none⟩) (by show wo.heap.size < w3.heap.size; omega)).trans f2
        have k1 := (hb5.cell (p := ⟨w2.heap.size, 0, none⟩) (by show w2.heap.size < wr.heap.size; omega)).trans r1
        have Hb7 := Lib.hid hb7
        clear hrun hstd hk6 hown hcall hb7 hb6 hb5 hlth hbr
        go_upto_region 17 with (at_builtin; refine Lib.wpList_append_run _ rfl (.tmp 79) (.tmp 80) _ _ rfl _ _ rfl rfl _ _ Hrun.out ?_)
        clear r1 r2 r3 r4 r5 k1 hfz hcur Hrun
        generalize w5.setCell ⟨h, K, none⟩ (.int .i64 0) = w6 at *
        go_wp2_with fail
        refine Hcall.out.mono ?_
        rintro e w7 ⟨rfl, hb8⟩
        have Hb8 := Lib.hid (Hb7.out.trans (hb8.mono (by omega)))
        clear hb8 Hcall m4 m5
        cases ho : checks P hf cl sp f x (kn.set K 0) with
        | none =>
          have HR : Hid (R = none) := Hno'.out (.inr ho)
          have Hbl := Lib.hid (Hb3.out.trans (Hb8.out.mono (by omega)))
          clear ho Hno' Hsome' HIH HIHn
          rw [chkN_none, isSome_none]
          go_wp2
          skip -- M1
          go_ret2
          skip -- M2
          rw [HR.out, chkN_none, isSome_none]
          exact ⟨rfl, Hbl.out⟩
        | some a =>
          have hpart' := Hsome'.out a hnok (fun h => by omega) ho
          have HP' := Lib.hid hpart'.1
          have ha := hpart'.2
          have HTb : Hid (S + a ≤ 1 + 15 * (0 + 1)) := by unfold Hid; omega
          clear ho Hno' Hsome' HIH HIHn hpart'
          rw [chkN_some, isSome_some]
          skip -- M3
          go_wp2
          skip -- M4
          go_roundw
          case rel => exact ⟨0 + 1, S + a, by omega, HTb.out, by go_num, by go_num, HP'.out, fun _ => hnok, Hb8.out⟩
          case measure => simp [intOf]
      · by_cases hxg : x ≤ (G : Int)
        · have HR : Hid (R = none) := Hno'.out (.inl (next_no (by omega) (by omega)))
          have Hbl := Lib.hid (Hb3.out.trans (hbr.mono (by omega)))
          clear hbr Hno' Hsome' HIH HIHn
          go_wp2
          go_ret2
          rw [HR.out, chkN_none, isSome_none]
          exact ⟨rfl, Hbl.out⟩
        · by_cases hxn : (n : Int) ≤ x
          · have HR : Hid (R = none) := Hno'.out (.inl (next_no (by omega) (by omega)))
            have Hbl := Lib.hid (Hb3.out.trans (hbr.mono (by omega)))
            clear hbr Hno' Hsome' HIH HIHn
            go_wp2
            go_ret2
            rw [HR.out, chkN_none, isSome_none]
            exact ⟨rfl, Hbl.out⟩
          · have hnok : nextOk n (G : Int) x = true := nextOk_iff.2 (.inr ⟨by omega, by omega⟩)
            obtain ⟨h, cp, w5, hrun, hown, hb5⟩ := Hmk.out wr (Hk3.out.below (w' := wr) (fun q hq => hbr.block q (by omega))) (by have := hbr.size; omega)
            have Hrun := Lib.hid hrun
            have hstd := (hown.stored K (.int .i64 0)).1
            rw [← ints_set] at hstd
            have hlth := hown.lt h rfl
            have hfz := hown.frozenAt K
            have hcur := (hown.cellAt K (by omega)).trans Hget.out
            have hb6 : Below wr.heap.size wr (w5.setCell ⟨h, K, none⟩ (.int .i64 0)) := hb5.setCell (p := ⟨h, K, none⟩) hlth.1 _
            have hs6 := hb6.size
            have hsr := hbr.size
            have hk6 : RdInts (w5.setCell ⟨h, K, none⟩ (.int .i64 0)) (w5.setCell ⟨h, K, none⟩ (.int .i64 0)).heap.size (.slice (some ⟨h, 0, none⟩) P cp) (kn.set K 0) := by
              have hlen : (kn.set K 0).length = P := by rw [List.length_set]; exact Hl.out
              exact rd_own_ints hlen hstd
            have hb7 : Below w3.heap.size w3 (w5.setCell ⟨h, K, none⟩ (.int .i64 0)) := hbr.trans (hb6.mono hbr.size)
            have hcall := HIH.out _ _ _ hk6 ((Hr3.out.below (fun q hq => hb7.block q (by omega))).mono (by omega)) ((Hm3.out.below (fun q hq => hb7.block q (by omega))).mono (by omega)) ((Hp3.out.below (fun q hq => hb7.block q (by omega))).mono (by omega)) hnok (Nat.le_refl _)
            have Hcall := Lib.hid hcall
            have m4 := (hb7.cell (p := ⟨wo.heap.size, 0, none⟩) (by show wo.heap.size < w3.heap.size; omega)).trans f1
            have m5 := (hb7.cell (p := ⟨wo.heap.size, 1, none⟩) (by show wo.heap.size < w3.heap.size; omega)).trans f2
            have k1 := (hb5.cell (p := ⟨w2.heap.size, 0, none⟩) (by show w2.heap.size < wr.heap.size; omega)).trans r1
            have Hb7 := Lib.hid hb7
            clear hrun hstd hk6 hown hcall hb7 hb6 hb5 hlth hbr
            go_upto_region 17 with (at_builtin; refine Lib.wpList_append_run _ rfl (.tmp 79) (.tmp 80) _ _ rfl _ _ rfl rfl _ _ Hrun.out ?_)
            clear r1 r2 r3 r4 r5 k1 hfz hcur Hrun
            generalize w5.setCell ⟨h, K, none⟩ (.int .i64 0) = w6 at *
            go_wp2_with fail
            refine Hcall.out.mono ?_
            rintro e w7 ⟨rfl, hb8⟩
            have Hb8 := Lib.hid (Hb7.out.trans (hb8.mono (by omega)))
            clear hb8 Hcall m4 m5
            cases ho : checks P hf cl sp f x (kn.set K 0) with
            | none =>
              have HR : Hid (R = none) := Hno'.out (.inr ho)
              have Hbl := Lib.hid (Hb3.out.trans (Hb8.out.mono (by omega)))
              clear ho Hno' Hsome' HIH HIHn
              rw [chkN_none, isSome_none]
              go_wp2
              skip -- M1
              go_ret2
              skip -- M2
              rw [HR.out, chkN_none, isSome_none]
              exact ⟨rfl, Hbl.out⟩
            | some a =>
              have hpart' := Hsome'.out a hnok (fun h => by omega) ho
              have HP' := Lib.hid hpart'.1
              have ha := hpart'.2
              have HTb : Hid (S + a ≤ 1 + 15 * (0 + 1)) := by unfold Hid; omega
              clear ho Hno' Hsome' HIH HIHn hpart'
              rw [chkN_some, isSome_some]
              skip -- M3
              go_wp2
              skip -- M4
              go_roundw
              case rel => exact ⟨0 + 1, S + a, by omega, HTb.out, by go_num, by go_num, HP'.out, fun _ => hnok, Hb8.out⟩
              case measure => simp [intOf]
    · have hno := Hno.out 1 (by omega)
      have hsome := fun a => Hsome.out 1 S a (by omega) Hpart.out
      have hih := fun kv' w' B' => HIHn.out 1 (by omega) kv' w' B'
      rw [hnx1] at hno hsome hih
      have Hno' := Lib.hid hno
      have Hsome' := Lib.hid hsome
      have HIH := Lib.hid hih
      clear hno hsome hih
      by_cases hx0 : y < 0
      · have hnok : nextOk n (G : Int) y = true := nextOk_iff.2 (.inl hx0)
        obtain ⟨h, cp, w5, hrun, hown, hb5⟩ := Hmk.out wr (Hk3.out.below (w' := wr) (fun q hq => hbr.block q (by omega))) (by have := hbr.size; omega)
        have Hrun := Lib.hid hrun
        have hstd := (hown.stored K (.int .i64 1)).1
        rw [← ints_set] at hstd
        have hlth := hown.lt h rfl
        have hfz := hown.frozenAt K
        have hcur := (hown.cellAt K (by omega)).trans Hget.out
        have hb6 : Below wr.heap.size wr (w5.setCell ⟨h, K, none⟩ (.int .i64 1)) := hb5.setCell (p := ⟨h, K, none⟩) hlth.1 _
        have hs6 := hb6.size
        have hsr := hbr.size
        have hk6 : RdInts (w5.setCell ⟨h, K, none⟩ (.int .i64 1)) (w5.setCell ⟨h, K, none⟩ (.int .i64 1)).heap.size (.slice (some ⟨h, 0, none⟩) P cp) (kn.set K 1) := by
          have hlen : (kn.set K 1).length = P := by rw [List.length_set]; exact Hl.out
          exact rd_own_ints hlen hstd
        have hb7 : Below w3.heap.size w3 (w5.setCell ⟨h, K, none⟩ (.int .i64 1)) := hbr.trans (hb6.mono hbr.size)
        have hcall := HIH.out _ _ _ hk6 ((Hr3.out.below (fun q hq => hb7.block q (by omega))).mono (by omega)) ((Hm3.out.below (fun q hq => hb7.block q (by omega))).mono (by omega)) ((Hp3.out.below (fun q hq => hb7.block q (by omega))).mono (by omega)) hnok (Nat.le_refl _)
        have Hcall := Lib.hid hcall
        have m4 := (hb7.cell (p := ⟨wo.heap.size, 0, none⟩) (by show wo.heap.size < w3.heap.size; omega)).trans f1
        have m5 := (hb7.cell (p := ⟨wo.heap.size, 1, none⟩) (by show wo.heap.size < w3.heap.size; omega)).trans f2
        have k1 := (hb5.cell (p := ⟨w2.heap.size, 0, none⟩) (by show w2.heap.size < wr.heap.size; omega)).trans r1
        have Hb7 := Lib.hid hb7
        clear hrun hstd hk6 hown hcall hb7 hb6 hb5 hlth hbr
        go_upto_region 17 with (at_builtin; refine Lib.wpList_append_run _ rfl (.tmp 79) (.tmp 80) _ _ rfl _ _ rfl rfl _ _ Hrun.out ?_)
        clear r1 r2 r3 r4 r5 k1 hfz hcur Hrun
        generalize w5.setCell ⟨h, K, none⟩ (.int .i64 1) = w6 at *
        go_wp2_with fail
        refine Hcall.out.mono ?_
        rintro e w7 ⟨rfl, hb8⟩
        have Hb8 := Lib.hid (Hb7.out.trans (hb8.mono (by omega)))
        clear hb8 Hcall m4 m5
        cases ho : checks P hf cl sp f y (kn.set K 1) with
        | none =>
          have HR : Hid (R = none) := Hno'.out (.inr ho)
          have Hbl := Lib.hid (Hb3.out.trans (Hb8.out.mono (by omega)))
          clear ho Hno' Hsome' HIH HIHn
          rw [chkN_none, isSome_none]
          go_wp2
          skip -- M1
          go_ret2
          skip -- M2
          rw [HR.out, chkN_none, isSome_none]
          exact ⟨rfl, Hbl.out⟩
        | some a =>
          have hpart' := Hsome'.out a hnok (fun _ => hxok (by omega)) ho
          have HP' := Lib.hid hpart'.1
          have ha := hpart'.2
          have HTb : Hid (S + a ≤ 1 + 15 * (1 + 1)) := by unfold Hid; omega
          clear ho Hno' Hsome' HIH HIHn hpart'
          rw [chkN_some, isSome_some]
          skip -- M3
          go_wp2
          skip -- M4
          go_roundw
          case rel => exact ⟨1 + 1, S + a, by omega, HTb.out, by go_num, by go_num, HP'.out, fun _ => hxok (by omega), Hb8.out⟩
          case measure => simp [intOf]
      · by_cases hxg : y ≤ (G : Int)
        · have HR : Hid (R = none) := Hno'.out (.inl (next_no (by omega) (by omega)))
          have Hbl := Lib.hid (Hb3.out.trans (hbr.mono (by omega)))
          clear hbr Hno' Hsome' HIH HIHn
          go_wp2
          go_ret2
          rw [HR.out, chkN_none, isSome_none]
          exact ⟨rfl, Hbl.out⟩
        · by_cases hxn : (n : Int) ≤ y
          · have HR : Hid (R = none) := Hno'.out (.inl (next_no (by omega) (by omega)))
            have Hbl := Lib.hid (Hb3.out.trans (hbr.mono (by omega)))
            clear hbr Hno' Hsome' HIH HIHn
            go_wp2
            go_ret2
            rw [HR.out, chkN_none, isSome_none]
            exact ⟨rfl, Hbl.out⟩
          · have hnok : nextOk n (G : Int) y = true := nextOk_iff.2 (.inr ⟨by omega, by omega⟩)
            obtain ⟨h, cp, w5, hrun, hown, hb5⟩ := Hmk.out wr (Hk3.out.below (w' := wr) (fun q hq => hbr.block q (by omega))) (by have := hbr.size; omega)
            have Hrun := Lib.hid hrun
            have hstd := (hown.stored K (.int .i64 1)).1
            rw [← ints_set] at hstd
            have hlth := hown.lt h rfl
            have hfz := hown.frozenAt K
            have hcur := (hown.cellAt K (by omega)).trans Hget.out
            have hb6 : Below wr.heap.size wr (w5.setCell ⟨h, K, none⟩ (.int .i64 1)) := hb5.setCell (p := ⟨h, K, none⟩) hlth.1 _
            have hs6 := hb6.size
            have hsr := hbr.size
            have hk6 : RdInts (w5.setCell ⟨h, K, none⟩ (.int .i64 1)) (w5.setCell ⟨h, K, none⟩ (.int .i64 1)).heap.size (.slice (some ⟨h, 0, none⟩) P cp) (kn.set K 1) := by
              have hlen : (kn.set K 1).length = P := by rw [List.length_set]; exact Hl.out
              exact rd_own_ints hlen hstd
            have hb7 : Below w3.heap.size w3 (w5.setCell ⟨h, K, none⟩ (.int .i64 1)) := hbr.trans (hb6.mono hbr.size)
            have hcall := HIH.out _ _ _ hk6 ((Hr3.out.below (fun q hq => hb7.block q (by omega))).mono (by omega)) ((Hm3.out.below (fun q hq => hb7.block q (by omega))).mono (by omega)) ((Hp3.out.below (fun q hq => hb7.block q (by omega))).mono (by omega)) hnok (Nat.le_refl _)
            have Hcall := Lib.hid hcall
            have m4 := (hb7.cell (p := ⟨wo.heap.size, 0, none⟩) (by show wo.heap.size < w3.heap.size; omega)).trans f1
            have m5 := (hb7.cell (p := ⟨wo.heap.size, 1, none⟩) (by show wo.heap.size < w3.heap.size; omega)).trans f2
            have k1 := (hb5.cell (p := ⟨w2.heap.size, 0, none⟩) (by show w2.heap.size < wr.heap.size; omega)).trans r1
            have Hb7 := Lib.hid hb7
            clear hrun hstd hk6 hown hcall hb7 hb6 hb5 hlth hbr
            go_upto_region 17 with (at_builtin; refine Lib.wpList_append_run _ rfl (.tmp 79) (.tmp 80) _ _ rfl _ _ rfl rfl _ _ Hrun.out ?_)
            clear r1 r2 r3 r4 r5 k1 hfz hcur Hrun
            generalize w5.setCell ⟨h, K, none⟩ (.int .i64 1) = w6 at *
            go_wp2_with fail
            refine Hcall.out.mono ?_
            rintro e w7 ⟨rfl, hb8⟩
            have Hb8 := Lib.hid (Hb7.out.trans (hb8.mono (by omega)))
            clear hb8 Hcall m4 m5
            cases ho : checks P hf cl sp f y (kn.set K 1) with
            | none =>
              have HR : Hid (R = none) := Hno'.out (.inr ho)
              have Hbl := Lib.hid (Hb3.out.trans (Hb8.out.mono (by omega)))
              clear ho Hno' Hsome' HIH HIHn
              rw [chkN_none, isSome_none]
              go_wp2
              skip -- M1
              go_ret2
              skip -- M2
              rw [HR.out, chkN_none, isSome_none]
              exact ⟨rfl, Hbl.out⟩
            | some a =>
              have hpart' := Hsome'.out a hnok (fun _ => hxok (by omega)) ho
              have HP' := Lib.hid hpart'.1
              have ha := hpart'.2
              have HTb : Hid (S + a ≤ 1 + 15 * (1 + 1)) := by unfold Hid; omega
              clear ho Hno' Hsome' HIH HIHn hpart'
              rw [chkN_some, isSome_some]
              skip -- M3
              go_wp2
              skip -- M4
              go_roundw
              case rel => exact ⟨1 + 1, S + a, by omega, HTb.out, by go_num, by go_num, HP'.out, fun _ => hxok (by omega), Hb8.out⟩
              case measure => simp [intOf]
    · have HR : Hid (R = some S) := Hpart.out.2.2 rfl
      have Hbl := Lib.hid (Hb3.out.trans (hbr.mono (by omega)))
      clear hbr
      go_wp2
      go_ret2
      rw [HR.out, chkN_some, isSome_some]
      exact ⟨rfl, Hbl.out⟩
end Go.Proofs.YtefmoljipbbmmaaDoor
