/- The reference's draws of syndromes. -/
import Derived.Test.YtnkgbolgcmjadaaFaultU
import Derived.Test.YtnkgbolgcmjadaaDraw
import Derived.Deep.RegionHeld3
import Derived.Deep.RegionWith
import Derived.Deep.Cut
import Derived.Maps.AppendAt
import Derived.Lib.AppendZeros
import Derived.Deep.QuietTactic
namespace Go.Proofs.Ytnkgbolgcmjadaa
open Go.RowKit Go.Joins
theorem only_alloc9 {a w : World} {row : Option Nat} (h : a.grownBy w row) (o : Obj) : a.grownBy (w.alloc o) row :=
  ⟨h.os, h.tape, h.output, Nat.le_trans h.size (by simp), fun i hi hne => (Below.heap_alloc w o i (Nat.lt_of_lt_of_le hi h.size)).trans (h.block i hi hne)⟩
theorem grown_own9 {a w w' : World} {row0 row : Option Nat} (h : a.grownBy w row0) (hg : w.grownBy w' row) (hr : ∀ k, row = some k → a.heap.size ≤ k) : a.grownBy w' row0 :=
  ⟨hg.os.trans h.os, hg.tape.trans h.tape, hg.output.trans h.output, Nat.le_trans h.size hg.size, fun i hi hne => (hg.block i (Nat.lt_of_lt_of_le hi h.size) (fun e => by have := hr i e.symm; omega)).trans (h.block i hi hne)⟩
theorem rd_alloc9 {w : World} {b c : Nat} (h : Rd w b c) (o : Obj) : Rd (w.alloc o) b c := h.kept fun k hk => Below.heap_alloc w o k (by have := h.lt; omega)
def DrewB9 (b c : Nat) (w : World) (e : Ending) (w' : World) : Prop := ∃ d : Bool, e = .returned (.bool d) ∧ Rd w' b c ∧ w.grownBy w' (some b)
set_option maxHeartbeats 1000000 in
theorem odd9 (n : Nat) (b c : Nat) (w : World) (hr : Rd w b c) (hn : n ≤ 1099511627776) (hc : c ≤ 1099511627776) :
    Calls Try.prog 51 #[.pointer (some ⟨b, 0, none⟩), .int .i64 n] w (DrewB9 b (c + 1) w) := by
  by_cases h0 : 0 < n
  · have hr' := Lib.hid hr; clear hr
    go_enter Try.func51, Try.ntmps51
    go_wp2_with fail
    refine (pick _ _ _ _ hr'.out (by omega) (by omega) (by omega)).mono ?_
    rintro e w1 ⟨x, hx0, hx1, rfl, hrd1, hg1⟩
    have Hr1 := Lib.hid hrd1
    have Hg1 := Lib.hid hg1
    clear hrd1 hg1
    go_wp2
    go_ret
    exact ⟨_, rfl, Hr1.out, Hg1.out⟩
  · obtain rfl : n = 0 := by omega
    have hr' := Lib.hid hr; clear hr
    go_enter Try.func51, Try.ntmps51
    go_wp2_with fail
    go_ret
    exact ⟨_, rfl, hr'.out.mono (by omega), World.grownBy.refl _ _⟩
theorem ints_snoc9 (zs : List Int) (z : Int) : ints (zs ++ [z]) = ints zs ++ [.int .i64 z] := by simp [ints]
/-! ### a drawn syndrome -/
/-- a square of U rows of the call's own -/
def Syn (w : World) (base : Nat) (v : Value) (rs : List RW) (U : Nat) : Prop := RowsIn w base v rs ∧ Apart9 rs ∧ rs.length = U ∧ ∀ r ∈ rs, r.2.length = U
theorem Syn.pick {w w' : World} {base b U : Nat} {v : Value} {rs : List RW} (h : Syn w base v rs U) (hg : w.grownBy w' (some b)) (hb : b < base) : Syn w' base v rs U := ⟨h.1.row hg hb, h.2⟩
theorem Syn.alloc {w : World} {base U : Nat} {v : Value} {rs : List RW} (h : Syn w base v rs U) (o : Obj) : Syn (w.alloc o) base v rs U := ⟨h.1.alloc o, h.2⟩
theorem Syn.form {w : World} {base U : Nat} {v : Value} {rs : List RW} (h : Syn w base v rs U) (hU : 1 ≤ U) : ∃ g cap, v = .slice (some ⟨g, 0, none⟩) U cap := by
  have := h.1.1
  rw [h.2.2.1] at this
  exact ownsRow_form this (by omega)
theorem Syn.mem {rs : List RW} {U k : Nat} (h : rs.length = U) (hk : k < U) : rs.getD k rw0 ∈ rs := by
  rw [rw_at (by omega)]; exact List.getElem_mem _
/-- row k as it lies -/
theorem Syn.row {w : World} {base U g cap : Nat} {rs : List RW} (h : Syn w base (.slice (some ⟨g, 0, none⟩) U cap) rs U) {k : Nat} (hk : k < U) : ∃ (gk ck : Nat) (zs : List Int), rs.getD k rw0 = (.slice (some ⟨gk, 0, none⟩) U ck, zs) ∧ zs.length = U ∧
    w.cell? ⟨g, k, none⟩ = some (.slice (some ⟨gk, 0, none⟩) U ck) ∧ w.frozen? ⟨g, k, none⟩ = false ∧ base ≤ g ∧ base ≤ gk ∧ w.ownsRow base 3 1 (.slice (some ⟨gk, 0, none⟩) U ck) U (ints zs) ∧
    (∀ j, j < U → w.cell? ⟨gk, j, none⟩ = some (.int .i64 (zs.getD j 0)) ∧ w.frozen? ⟨gk, j, none⟩ = false) := by
  obtain ⟨⟨ho, hi⟩, _, hl, hr⟩ := h
  have hm := Syn.mem hl hk
  have hrow := hi _ hm
  rw [hr _ hm] at hrow
  obtain ⟨gk, ck, hv⟩ := ownsRow_form hrow (by omega)
  have hzl := hr _ hm
  rw [hl] at ho
  have hcell := ho.cellAt k (by omega)
  have hfz := ho.frozenAt k
  refine ⟨gk, ck, (rs.getD k rw0).2, by rw [← hv], hzl, ?_, hfz, (ho.lt g rfl).1, ?_, by rw [← hv]; exact hrow, fun j hj => ?_⟩
  · rw [hcell, ← hv]
    rw [rw_at (by omega)]
    simp [show k < rs.length by omega]
  · exact (hrow.lt gk (by rw [hv]; rfl)).1
  · rw [hv] at hrow
    refine ⟨?_, hrow.frozenAt j⟩
    rw [hrow.cellAt j (by omega)]
    generalize (rs.getD k rw0).2 = zs at *
    simp [ints, List.getD, show j < zs.length by omega]
/-- one number is stored -/
theorem Syn.store {w : World} {base U g cap : Nat} {rs : List RW} (h : Syn w base (.slice (some ⟨g, 0, none⟩) U cap) rs U) {k gk ck : Nat} (hk : k < U) {zs : List Int} (he : rs.getD k rw0 = (.slice (some ⟨gk, 0, none⟩) U ck, zs)) (j : Nat) (z : Int) :
    ∃ rs', Syn (w.setCell ⟨gk, j, none⟩ (.int .i64 z)) base (.slice (some ⟨g, 0, none⟩) U cap) rs' U ∧ w.grownBy (w.setCell ⟨gk, j, none⟩ (.int .i64 z)) (some gk) := by
  obtain ⟨hi, hap, hl, hr⟩ := h
  have hkl : k < rs.length := by omega
  have hzl : (rs[k]).2.length = U := hr _ (List.getElem_mem hkl)
  rw [rw_at hkl] at he
  obtain ⟨h1, h2, h3, _⟩ := hi.setEnt hap (by decide) hkl (j := j) (cap := ck) (g := gk) (by rw [hzl, he]) z
  refine ⟨_, ⟨h1, h2, by rw [List.length_set]; exact hl, fun r hrr => ?_⟩, h3⟩
  rcases mem_set9 hrr with rfl | ⟨i, hil, _, rfl⟩
  · rw [List.length_set]; exact hzl
  · exact hr _ (List.getElem_mem hil)
/-- rows of rows of at most five rows of at most six numbers -/
def SynP (rs : List RW) : Prop := rs.length ≤ 5 ∧ ∀ r ∈ rs, r.2.length ≤ 6
theorem Syn.small {w : World} {base U : Nat} {v : Value} {rs : List RW} (h : Syn w base v rs U) (hU : U ≤ 5) : SynP rs := ⟨by rw [h.2.2.1]; exact hU, fun r hr => by rw [h.2.2.2 r hr]; omega⟩
theorem Syn.drew {w : World} {base U : Nat} {v : Value} {rs : List RW} (h : Syn w base v rs U) : Syn w.drew base v rs U := h
theorem rd_drew9 {w : World} {b c : Nat} (h : Rd w b c) : Rd w.drew b c := h
theorem grown_drew9 {a w : World} {row : Option Nat} (h : a.grownBy w row) : a.grownBy w.drew row := ⟨h.os, h.tape, h.output, h.size, h.block⟩
/-- one number is appended to the first row, and the row is put back -/
theorem Syn.append {w w' : World} {base U g cap gk ck : Nat} {rs : List RW} {v' : Value} {zs : List Int} {o : Obj} (h : Syn w base (.slice (some ⟨g, 0, none⟩) U cap) rs U) (hU1 : 1 ≤ U) (hU : U ≤ 5) (_hbase : base ≤ w.heap.size) (he : rs.getD 0 rw0 = (.slice (some ⟨gk, 0, none⟩) U ck, zs)) (hzl : zs.length = U)
    (hown' : w'.ownsRow base 3 1 v' (U + 1) (ints zs ++ [.int .i64 0])) (hg' : (w.alloc o).grownBy w' (some gk)) (hb' : v'.ownBlock = some gk ∨ v'.ownBlock = some (w.heap.size + 1)) :
    w'.cell? ⟨g, 0, none⟩ = some (.slice (some ⟨gk, 0, none⟩) U ck) ∧ w'.frozen? ⟨g, 0, none⟩ = false ∧ ∃ rs', RowsIn (w'.setCell ⟨g, 0, none⟩ v') base (.slice (some ⟨g, 0, none⟩) U cap) rs' ∧ SynP rs' ∧ w'.grownBy (w'.setCell ⟨g, 0, none⟩ v') (some g) := by
  have h0 := h
  obtain ⟨gk2, ck2, zs2, he2, _, hc, hf, hgb, hgkb, hrow0, _⟩ := h0.row (k := 0) (by omega)
  rw [he] at he2
  obtain ⟨⟨rfl, rfl⟩, rfl⟩ : (gk = gk2 ∧ ck = ck2) ∧ zs = zs2 := by simpa using he2
  obtain ⟨⟨ho, hi⟩, hap, hl, hr⟩ := h
  subst hl
  have hl0 : 0 < rs.length := by omega
  rw [rw_at hl0] at he
  have hne := own_ne9 ho hrow0 (by decide)
  have houter := (ho.alloc o).kept hg' hne
  have hgg : g ≠ gk := by
    rcases hne with h1 | h1
    · simp [Value.ownBlock] at h1
    · intro e; subst e; exact h1 rfl
  have hgl : g < (w.alloc o).heap.size := ((ho.alloc o).lt g rfl).2
  have hblk := hg'.block g hgl (fun e => hgg (by cases e; rfl))
  have hallocg : (w.alloc o).heap[g]? = w.heap[g]? := Below.heap_alloc w o g (ho.lt g rfl).2
  refine ⟨by rw [← hc]; exact World.cell?_of_block (hblk.trans hallocg), by rw [← hf]; exact World.frozen?_of_block (hblk.trans hallocg), ?_⟩
  have hoth : ∀ i (hi' : i < rs.length), i ≠ 0 → w'.ownsRow base 3 1 (rs[i]).1 (rs[i]).2.length (ints (rs[i]).2) := fun i hi' hik => by
    refine ((hi _ (List.getElem_mem hi')).alloc o).kept hg' ?_
    have := hap.ne hi' hl0 hik
    unfold Far9 at this
    rw [he] at this
    exact this
  obtain ⟨r1, r2, _⟩ := rows_setRow (k := 0) houter hoth (by decide) (q := (v', zs ++ [0])) (by rw [List.length_append, List.length_singleton, hzl, ints_snoc9]; exact hown')
  refine ⟨_, r1, ⟨by rw [List.length_set]; exact hU, fun r hrr => ?_⟩, r2⟩
  rcases mem_set9 hrr with rfl | ⟨i, hil, _, rfl⟩
  · rw [List.length_append, List.length_singleton, hzl]; omega
  · rw [hr _ (List.getElem_mem hil)]; omega
/-- what a made syndrome is -/
theorem syn_of_made {w : World} {base U : Nat} {v : Value} {rs : List RW} {x wd : Int} (hi : RowsIn w base v rs) (hap : Apart9 rs) (hrs : rs.map (·.2) = madeV (U : Int) x wd) (h1 : 1 ≤ U) (h5 : U ≤ 5) (hx0 : 0 ≤ x) (hx : x < (2 ^ U : Nat)) (hw : 0 ≤ wd) : Syn w base v rs U := by
  obtain ⟨X, rfl⟩ := Int.eq_ofNat_of_zero_le hx0
  obtain ⟨W, rfl⟩ := Int.eq_ofNat_of_zero_le hw
  rw [madeV_yes h1 h5 (by omega)] at hrs
  have hl : rs.length = U := by have := congrArg List.length hrs; rw [List.length_map, madeL_len] at this; exact this
  refine ⟨hi, hap, hl, fun r hr => ?_⟩
  have hm : r.2 ∈ rs.map (·.2) := List.mem_map.2 ⟨r, hr, rfl⟩
  rw [hrs] at hm
  unfold madeL at hm
  obtain ⟨k, _, e⟩ := List.mem_map.1 hm
  rw [← e]
  exact madeRow_len U X W k
theorem and_range {x y : Int} {N : Nat} (hx0 : 0 ≤ x) (hx : x < N) (hy0 : 0 ≤ y) (_hy : y < N) (hN : N ≤ 1000000) : 0 ≤ bits BinOp.and IntKind.i64 x y ∧ bits BinOp.and IntKind.i64 x y < N := by
  obtain ⟨X, rfl⟩ := Int.eq_ofNat_of_zero_le hx0
  obtain ⟨Y, rfl⟩ := Int.eq_ofNat_of_zero_le hy0
  rw [bits_and_nat X Y (by omega) (by omega)]
  have := Nat.and_le_left (n := X) (m := Y)
  omega
/-- a syndrome is drawn: the reader is at most at c -/
def DrewS (b c : Nat) (w : World) (e : Ending) (w' : World) : Prop := ∃ v rs, e = .returned v ∧ RowsIn w' w.heap.size v rs ∧ SynP rs ∧ Rd w' b c ∧ w.grownBy w' (some b)
set_option maxRecDepth 100000 in
set_option maxHeartbeats 8000000 in
theorem l20Syndrome (b c n : Nat) (w : World) (hrd : Rd w b c) (hc : c ≤ 549755813888) (hn : n ≤ 1000) :
    Calls Try.prog 38 #[.pointer (some ⟨b, 0, none⟩), .int .i64 n] w (DrewS b (c + 10) w) := by
  have hbw := hrd.lt
  go_enter Try.func38, Try.ntmps38
  go_wp2_with fail
  refine (pick _ _ _ _ hrd (by omega) (by omega) (by omega)).mono ?_
  rintro e w1 ⟨u, hu0, hu1, rfl, hrd1, hg1⟩
  obtain ⟨u, rfl⟩ := Int.eq_ofNat_of_zero_le hu0
  go_wp2_with fail
  obtain ⟨U, hU⟩ : ∃ U, U = 1 + u := ⟨_, rfl⟩
  have hU1 : 1 ≤ U := by omega
  have hU5 : U ≤ 5 := by omega
  have e1 : (1 : Int) + (u : Int) = (U : Int) := by omega
  rw [e1]
  obtain ⟨N, hN⟩ : ∃ N, N = 2 ^ U := ⟨_, rfl⟩
  have hN32 : N ≤ 32 := by rw [hN]; exact two32 hU5
  have hN1 : 1 ≤ N := by rw [hN]; exact Nat.one_le_two_pow
  have hsh := shl_5 hU5 hN
  have hshk := shl_5k hU5 hN
  have hmn : min U 64 = U := by omega
  have HN := Lib.hid hN
  clear hrd hN hu0 hu1 e1 hU
  go_region_with (first
    | (go_at_call 43
       refine (pick _ _ _ _ (by assumption) (by first | omega | decide) (by first | omega | decide) (by omega)).mono ?_
       rintro e wn ⟨y, hy0, hy1, rfl, hrdn, hgn⟩)
    | (go_at_call 37
       refine (specMadeSyndrome _ _ _ (by simp only [IntKind.wrap_i64]; omega) _).mono ?_
       rintro e wm ⟨vm, rs, rfl, hrs, him, hap, hbm⟩))
  rename_i wa ya hya0 hya1 hrda hga wb yb hyb0 hyb1 hrdb hgb wc yc hyc0 hyc1 hrdc hgc
  have hG := grownBy_trans (grownBy_trans (grownBy_trans (grownBy_trans (grownBy_trans hg1 (grownBy_drew0 hga)) hgb) hgc) hgn) (only_of_below9 hbm (some b))
  have hand := and_range hya0 hya1 hyb0 hyb1 (show N ≤ 1000000 by omega)
  have hwd : 0 ≤ IntKind.i64.wrap (IntKind.i64.wrap (yc * 256) + y) := by simp only [IntKind.wrap_i64]; omega
  have hsz : w.heap.size ≤ wn.heap.size := by
    have h1 := hg1.size
    have h2 := (grownBy_drew0 hga).size
    have h3 := hgb.size
    have h4 := hgc.size
    have h5 := hgn.size
    omega
  have hsyn := syn_of_made (him.mono hsz) hap hrs hU1 hU5 hand.1 (by rw [← HN.out]; exact hand.2) hwd
  have hrdm := hrdn.grown (only_of_below9 hbm none) (fun k hk => by cases hk)
  obtain ⟨g, cap, rfl⟩ := hsyn.form hU1
  have Hsyn := Lib.hid hsyn
  have HG := Lib.hid hG
  clear hsyn hG hgn hgb hgc hga hg1 hbm him hap hrs hand hwd hsz hrdn hrda hrdb hrdc hrd1 hsh hshk hmn HN hN32 hN1
  generalize IntKind.i64.wrap (IntKind.i64.wrap (yc * 256) + y) = q1 at *
  generalize IntKind.i64.wrap (yc * 256) = q2 at *
  generalize bits BinOp.and IntKind.i64 ya yb = q3 at *
  clear hya0 hya1 hyb0 hyb1 hyc0 hyc1 hy0 hy1
  go_wp2_with fail
  refine (pick _ _ _ _ hrdm (by omega) (by omega) (by omega)).mono ?_
  rintro e w3 ⟨y3, hy30, hy31, rfl, hrd3, hg3⟩
  have Hsyn3 := Lib.hid (Hsyn.out.pick hg3 hbw)
  have HG3 := Lib.hid (grownBy_trans HG.out hg3)
  have Hrd3 := Lib.hid hrd3
  clear hrdm hg3 hrd3 HG Hsyn
  go_upto_if 31 with (fail)
  go_cut [6] from 9 (fun v6 wr => v6 = .slice (some ⟨g, 0, none⟩) U cap ∧ ∃ rs, Syn wr w.heap.size (.slice (some ⟨g, 0, none⟩) U cap) rs U ∧ Rd wr b (c + 8) ∧ w.grownBy wr (some b))
  case first =>
    by_cases hy : y3 = 0
    · subst hy
      go_wp2_with fail
      refine (pick _ _ _ _ Hrd3.out (by omega) (by omega) (by omega)).mono ?_
      rintro e w4 ⟨k, hk0, hk1, rfl, hrd4, hg4⟩
      obtain ⟨k, rfl⟩ := Int.eq_ofNat_of_zero_le hk0
      have Hsyn4 := Lib.hid (Hsyn3.out.pick hg4 hbw)
      have HG4 := Lib.hid (grownBy_trans HG3.out hg4)
      have Hrd4 := Lib.hid hrd4
      clear hg4 hrd4
      go_wp2_with fail
      refine (pick _ _ _ _ Hrd4.out (by omega) (by omega) (by omega)).mono ?_
      rintro e w5 ⟨j, hj0, hj1, rfl, hrd5, hg5⟩
      obtain ⟨j, rfl⟩ := Int.eq_ofNat_of_zero_le hj0
      have Hsyn5 := Lib.hid (Hsyn4.out.pick hg5 hbw)
      have HG5 := Lib.hid (grownBy_trans HG4.out hg5)
      have Hrd5 := Lib.hid hrd5
      clear hg5 hrd5
      by_cases hjk : j = k
      · have hjk' : ((j : Int) != (k : Int)) = false := by rw [bne_eq_false_iff_eq]; omega
        clear hjk
        go_wp2
        go_meet
        case rel => exact ⟨rfl, rs, Hsyn5.out, Hrd5.out, HG5.out⟩
      · have hjk' : ((j : Int) != (k : Int)) = true := by rw [bne_iff_ne]; omega
        obtain ⟨gk, ck, zs, he, hzl, c1, f1, hgb, hgkb, _, hcell⟩ := Hsyn5.out.row (k := k) (by omega)
        obtain ⟨c2, f2⟩ := hcell j (by omega)
        have Hst := Lib.hid (fun z => Hsyn5.out.store (k := k) (by omega) he j z)
        have hbgk : ∀ x, some gk = some x → b < x := fun x hx => by cases hx; omega
        clear hjk hcell he
        generalize zs.getD j 0 = z at *
        go_upto_region 7 with fail
        first
          | go_quiet (fail)
          | go_region_with (fail)
          | fail
        all_goals
          go_wp2
          go_meet
          case rel =>
            obtain ⟨rs', hs', hgs⟩ := Hst.out (IntKind.i64.wrap (1 - z))
            have hrd' := Hrd5.out.grown hgs hbgk
            have hG' := grown_own9 HG5.out hgs (fun x hx => by cases hx; omega)
            first
              | exact ⟨rfl, rs', hs', hrd', hG'⟩
              | exact ⟨rfl, rs', hs'.drew, rd_drew9 hrd', grown_drew9 hG'⟩
    · have hy' : (y3 == 0) = false := by rw [beq_eq_false_iff_ne]; exact hy
      clear hy
      go_wp2
      go_meet
      case rel => exact ⟨rfl, rs, Hsyn3.out, Hrd3.out.mono (by omega), HG3.out⟩
  case rest =>
    obtain ⟨rfl, rs, hsyn, hrd, hG⟩ := hcut
    have Hsyn := Lib.hid hsyn
    have HG := Lib.hid hG
    have Hrd := Lib.hid hrd
    clear hsyn hG hrd Hsyn3 HG3 Hrd3
    go_wp2_with fail
    refine (odd9 n _ _ _ Hrd.out (by omega) (by omega)).mono ?_
    rintro e w7 ⟨d, rfl, hrd7, hg7⟩
    have Hsyn7 := Lib.hid (Hsyn.out.pick hg7 hbw)
    have HG7 := Lib.hid (grownBy_trans HG.out hg7)
    have Hrd7 := Lib.hid hrd7
    clear hrd7 hg7
    cases d with
    | false =>
      go_wp2
      go_ret
      exact ⟨_, rs, rfl, Hsyn7.out.1, Hsyn7.out.small hU5, Hrd7.out.mono (by omega), HG7.out⟩
    | true =>
      go_wp2_with fail
      refine (pick _ _ _ _ Hrd7.out (by omega) (by omega) (by omega)).mono ?_
      rintro e w8 ⟨y, hy0, hy1, rfl, hrd8, hg8⟩
      have Hsyn8 := Lib.hid (Hsyn7.out.pick hg8 hbw)
      have HG8 := Lib.hid (grownBy_trans HG7.out hg8)
      have Hrd8 := Lib.hid hrd8
      have hs8 := HG8.out.size
      have hy : y = 0 ∨ y = 1 ∨ y = 2 := by omega
      clear hrd8 hg8 hy0 hy1
      rcases hy with rfl | rfl | rfl
      · go_wp2
        go_ret
        exact ⟨_, [], rfl, RowsIn.empty w8 _ hs8, ⟨Nat.zero_le _, fun r hr => by cases hr⟩, (rd_alloc9 Hrd8.out _).mono (by omega), only_alloc9 HG8.out _⟩
      · obtain ⟨gk, ck, zs, he, hzl, c1, f1, hgb, hgkb, _, hcell⟩ := Hsyn8.out.row (k := 0) (by omega)
        obtain ⟨c2, f2⟩ := hcell 0 (by omega)
        have Hst := Lib.hid (fun z => Hsyn8.out.store (k := 0) (by omega) he 0 z)
        have hbgk : ∀ x, some gk = some x → b < x := fun x hx => by cases hx; omega
        clear hcell he
        generalize zs.getD 0 0 = z at *
        go_wp2
        go_ret
        obtain ⟨rs', hs', hgs⟩ := Hst.out 1
        exact ⟨_, rs', rfl, hs'.1, hs'.small hU5, (Hrd8.out.grown hgs hbgk).mono (by omega), grown_own9 HG8.out hgs (fun x hx => by cases hx; omega)⟩
      · obtain ⟨gk, ck, zs, he, hzl, c1, f1, hgb, hgkb, hrow0, _⟩ := Hsyn8.out.row (k := 0) (by omega)
        obtain ⟨i0, hi, hz0, hz1, hz2⟩ := info_parts Try.info3
        have hnew := cell_one_new w8 (.int .i64 0) 3
        obtain ⟨v', w9, hrun, hown9, hg9, _, hb9⟩ := run_append_own_at (P := Try.prog) (w8.alloc (.cells #[.int .i64 0] 3)) w.heap.size 26 26 3 i0 (.int .i64 0) 1 8 Try.underlying26 hi hz0 hz1 hz2 rfl (by decide) (.slice (some ⟨gk, 0, none⟩) U ck) U (ints zs) (hrow0.alloc (.cells #[.int .i64 0] 3)) ⟨w8.heap.size, 0, none⟩ 1 1 [.int .i64 0] rfl hnew (by simp [Value.oneCell']) (by unfold maxLen; omega) (by omega) (by simp; omega)
        obtain ⟨c9, f9, rs', hin, hsp, hg10⟩ := Hsyn8.out.append hU1 hU5 hs8 he hzl hown9 hg9 (by
          rcases hb9 with h | h
          · exact .inl h
          · right; rw [h]; simp)
        have HG9 := Lib.hid (grown_own9 (only_alloc9 HG8.out (.cells #[.int .i64 0] 3)) hg9 (fun x hx => by
          have : gk = x := by simpa [Value.ownBlock] using hx
          omega))
        have Hrd9 := Lib.hid ((rd_alloc9 Hrd8.out (.cells #[.int .i64 0] 3)).grown hg9 (fun x hx => by
          have : gk = x := by simpa [Value.ownBlock] using hx
          omega))
        have Hrun := Lib.hid hrun
        have Hin := Lib.hid hin
        have Hg10 := Lib.hid hg10
        obtain ⟨fo, fc, rfl⟩ : ∃ fo fc, v' = .slice fo (U + 1) fc := own_len9 hown9
        clear hrun hin hg10 hown9 hg9 hb9 hrow0 he hi hz0 hz1 hz2 hnew
        go_wp2_with (first
          | (at_builtin; refine Lib.wpList_append_run _ rfl _ _ _ _ rfl _ _ rfl rfl _ _ Hrun.out ?_)
          | fail)
        go_ret
        exact ⟨_, rs', rfl, Hin.out, hsp, (Hrd9.out.grown Hg10.out (fun x hx => by cases hx; omega)).mono (by omega), grown_own9 HG9.out Hg10.out (fun x hx => by cases hx; omega)⟩
end Go.Proofs.Ytnkgbolgcmjadaa
