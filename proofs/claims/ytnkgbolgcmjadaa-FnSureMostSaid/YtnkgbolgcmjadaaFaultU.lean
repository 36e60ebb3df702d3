/- Contract of the reference's made syndromes. -/
import Derived.Test.YtnkgbolgcmjadaaFaultT
namespace Go.Proofs.Ytnkgbolgcmjadaa
open Go.RowKit Go.Joins
theorem Try.infoI : (Try.prog.info? 26).map (fun i => (i.zero, i.size, i.bytes)) = some (some (.slice none 0 0), 1, 24) := by kernel_rfl
theorem madeV_no {n x w : Int} (h : madeOk n x w = false) : madeV n x w = [] := by unfold madeV; rw [h]; rfl
theorem madeOk_n {n x w : Int} (h : ¬ (1 ≤ n ∧ n ≤ 5)) : madeOk n x w = false := by unfold madeOk; rw [decide_eq_false h]; rfl
theorem madeOk_x {n x w : Int} (h : ¬ (0 ≤ x ∧ x < 2 ^ n.toNat)) : madeOk n x w = false := by unfold madeOk; rw [decide_eq_false h]; simp
theorem madeOk_w {n x w : Int} (h : ¬ 0 ≤ w) : madeOk n x w = false := by unfold madeOk; rw [decide_eq_false h]; simp
theorem madeV_yes {n X W : Nat} (h1 : 1 ≤ n) (h5 : n ≤ 5) (hX : X < 2 ^ n) : madeV (n : Int) (X : Int) (W : Int) = madeL n X W := by
  unfold madeV madeOk
  have e1 : decide ((1 : Int) ≤ n ∧ (n : Int) ≤ 5) = true := decide_eq_true (by omega)
  have e2 : decide ((0 : Int) ≤ X ∧ (X : Int) < 2 ^ (n : Int).toNat) = true := decide_eq_true ⟨by omega, by rw [Int.toNat_natCast]; exact_mod_cast hX⟩
  have e3 : decide ((0 : Int) ≤ W) = true := decide_eq_true (by omega)
  rw [e1, e2, e3]
  simp
def madeTo (n X w k : Nat) : List (List Int) := (List.range k).map (madeRow n X w)
theorem madeTo_all (n X w : Nat) : madeTo n X w n = madeL n X w := rfl
theorem madeTo_len (n X w k : Nat) : (madeTo n X w k).length = k := by simp [madeTo]
theorem madeTo_succ (n X w k : Nat) : madeTo n X w (k + 1) = madeTo n X w k ++ [madeRow n X w k] := by simp [madeTo, List.range_succ]
/-- a row that is made as far as j -/
def rowTo (n X w k j : Nat) : List Int := (List.range j).map (madeE n X w k) ++ List.replicate (n - j) 0
theorem rowTo_zero (n X w k : Nat) : rowTo n X w k 0 = List.replicate n 0 := by simp [rowTo]
theorem rowTo_all (n X w k : Nat) : rowTo n X w k n = madeRow n X w k := by simp [rowTo, madeRow]
theorem rowTo_len {n X w k j : Nat} (hj : j ≤ n) : (rowTo n X w k j).length = n := by simp [rowTo]; omega
theorem rowTo_set {n X w k j : Nat} (hj : j < n) {z : Int} (hz : madeE n X w k j = z) : (ints (rowTo n X w k j)).set j (.int .i64 z) = ints (rowTo n X w k (j + 1)) := by
  unfold rowTo
  rw [show n - j = (n - (j + 1)) + 1 by omega, List.replicate_succ, List.range_succ, List.map_append, List.append_assoc]
  have := ints_set_mid ((List.range j).map (madeE n X w k)) (List.replicate (n - (j + 1)) 0) 0 z j (by simp)
  rw [this]
  simp [hz]
theorem rowTo_skip {n X w k j : Nat} (hj : j < n) (hz : madeE n X w k j = 0) : rowTo n X w k j = rowTo n X w k (j + 1) := by
  unfold rowTo
  rw [show n - j = (n - (j + 1)) + 1 by omega, List.replicate_succ, List.range_succ, List.map_append, List.append_assoc]
  simp [hz]
theorem madeE_own (n X w k : Nat) : madeE n X w k k = 0 := by unfold madeE; rw [if_pos rfl]
theorem madeE_right {n X w k j : Nat} (hne : j ≠ k) (hb : X.testBit k = false) : madeE n X w k j = bitI X j := by unfold madeE; rw [if_neg hne, hb]; rfl
theorem madeE_wrong {n X w k j : Nat} (hne : j ≠ k) (hb : X.testBit k = true) : madeE n X w k j = ((w / 2 ^ usedW n X k j % 2 : Nat) : Int) := by unfold madeE; rw [if_neg hne, hb]; rfl
/-- what is left of the words -/
def leftW (n X w k j : Nat) : Nat := w / 2 ^ usedW n X k j
theorem leftW_next {n X w k j : Nat} (hb : X.testBit k = true) (hne : j ≠ k) : leftW n X w k (j + 1) = leftW n X w k j / 2 := by
  unfold leftW; rw [used_next hb hne, Nat.pow_succ, Nat.div_div_eq_div_mul]
theorem leftW_same {n X w k : Nat} : leftW n X w k (k + 1) = leftW n X w k k := by unfold leftW; rw [used_same]
theorem leftW_right {n X w k j : Nat} (hb : X.testBit k = false) : leftW n X w k (j + 1) = leftW n X w k j := by
  unfold leftW; rw [used_right hb, used_right (j := j) hb]
theorem leftW_row {n X w k : Nat} (hk : k < n) : leftW n X w k n = leftW n X w (k + 1) 0 := by unfold leftW; rw [used_row hk]
theorem leftW_zero (n X w : Nat) : leftW n X w 0 0 = w := by
  unfold leftW usedW
  have e0 : (if X.testBit 0 then (if 0 < 0 then 0 - 1 else 0) else 0) = 0 := by split <;> rfl
  rw [e0]; simp
theorem leftW_le (n X w k j : Nat) : leftW n X w k j ≤ w := Nat.div_le_self _ _
/-- what a call hands back that returns rows in memory of their own -/
def OutRows (s : List (List Int)) (w : World) (e : Ending) (w' : World) : Prop := ∃ v rs, e = .returned v ∧ rs.map (·.2) = s ∧ RowsIn w' w.heap.size v rs ∧ Apart9 rs ∧ Below w.heap.size w w'
theorem bitI_no {X k : Nat} (h : X.testBit k = false) : bitI X k = 0 := by unfold bitI; rw [h]; rfl
theorem bitI_yes {X k : Nat} (h : X.testBit k = true) : bitI X k = 1 := by unfold bitI; rw [h]; rfl
theorem leftW_def (n X w k j : Nat) : w / 2 ^ usedW n X k j = leftW n X w k j := rfl
theorem hbelow_of {g : Nat} {w w' : World} (hg : g = w.heap.size) (h : Below g w w') : Below w.heap.size w w' := by rw [← hg]; exact h
theorem made_none (n X w : Nat) : madeTo n X w 0 = [] := rfl
theorem own_len9 {w : World} {base n size : Nat} {e : TypeId} {v : Value} {xs : List Value} (h : w.ownsRow base e size v n xs) : ∃ ao cp, v = .slice ao n cp := by
  rcases h.2 with ⟨rfl, rfl⟩ | ⟨g, cap, cur, rfl, _⟩
  · exact ⟨_, _, rfl⟩
  · exact ⟨_, _, rfl⟩
attribute [local irreducible] madeE madeRow madeL madeV madeOk madeTo rowTo leftW usedW bitI
set_option maxRecDepth 100000 in
set_option maxHeartbeats 8000000 in
theorem specMadeSyndrome (n x wd : Int) (hwd : -9223372036854775808 ≤ wd ∧ wd ≤ 9223372036854775807) (w : World) :
    Calls Try.prog 37 #[.int .i64 n, .int .i64 x, .int .i64 wd] w (OutRows (madeV n x wd) w) := by
  have hempty : ∀ w : World, OutRows [] w (.returned (.slice (some ⟨w.heap.size, 0, none⟩) 0 0)) (w.alloc (.cells #[] 26)) := fun w =>
    ⟨_, [], rfl, rfl, RowsIn.empty w _ (Nat.le_refl _), Apart9.nil, (Below.refl _ _).alloc (Nat.le_refl _) _⟩
  have Hempty := Lib.hid hempty; clear hempty
  by_cases hn : 1 ≤ n ∧ n ≤ 5
  case neg =>
    have Hin : Hid (false = decide (1 ≤ n ∧ n ≤ 5)) := (decide_eq_false hn).symm
    have hv := madeV_no (madeOk_n (x := x) (w := wd) hn)
    rw [hv]
    clear hv hn
    go_enter Try.func37, Try.ntmps37
    go_wp2_with fail
    refine (specL1In9 _ _ _ false Hin _).mono ?_
    rintro e w' ⟨rfl, rfl⟩
    go_wp2
    go_ret
    exact Hempty.out _
  have Hin : Hid (true = decide (1 ≤ n ∧ n ≤ 5)) := (decide_eq_true hn).symm
  obtain ⟨n, rfl⟩ := Int.eq_ofNat_of_zero_le (show 0 ≤ n by omega)
  obtain ⟨N, hN⟩ : ∃ N, N = 2 ^ n := ⟨_, rfl⟩
  have hn5 : n ≤ 5 := by omega
  have hn1 : 1 ≤ n := by omega
  have hN32 : N ≤ 32 := by rw [hN]; exact two32 hn5
  have hsh := shl_5 hn5 hN
  have hshk := shl_5k hn5 hN
  have hmn : min n 64 = n := by omega
  clear hn
  by_cases hx : 0 ≤ x ∧ x ≤ (N : Int) - 1
  case neg =>
    have Hin2 : Hid (false = decide (0 ≤ x ∧ x ≤ (N : Int) - 1)) := (decide_eq_false hx).symm
    have e2 : ((2 : Int) ^ n) = (N : Int) := by rw [hN]; simp
    have hv := madeV_no (madeOk_x (n := (n : Int)) (x := x) (w := wd) (fun h => by
      rw [Int.toNat_natCast, e2] at h
      exact hx ⟨h.1, by omega⟩))
    clear e2
    rw [hv]
    clear hv hx hN
    go_enter Try.func37, Try.ntmps37
    go_wp2_with fail
    refine (specL1In9 _ _ _ true Hin _).mono ?_
    rintro e w' ⟨rfl, rfl⟩
    go_wp2_with fail
    refine (specL1In9 _ _ _ false Hin2 _).mono ?_
    rintro e w' ⟨rfl, rfl⟩
    go_wp2
    go_ret
    exact Hempty.out _
  have Hin2 : Hid (true = decide (0 ≤ x ∧ x ≤ (N : Int) - 1)) := (decide_eq_true hx).symm
  obtain ⟨X, rfl⟩ := Int.eq_ofNat_of_zero_le hx.1
  have hXN : X < N := by omega
  clear hx
  by_cases hw0 : 0 ≤ wd
  case neg =>
    have hv := madeV_no (madeOk_w (n := (n : Int)) (x := (X : Int)) hw0)
    have hw1 : wd < 0 := by omega
    rw [hv]
    clear hv hw0 hN
    go_enter Try.func37, Try.ntmps37
    go_wp2_with fail
    refine (specL1In9 _ _ _ true Hin _).mono ?_
    rintro e w' ⟨rfl, rfl⟩
    go_wp2_with fail
    refine (specL1In9 _ _ _ true Hin2 _).mono ?_
    rintro e w' ⟨rfl, rfl⟩
    go_wp2
    go_ret
    exact Hempty.out _
  obtain ⟨W, rfl⟩ := Int.eq_ofNat_of_zero_le hw0
  clear hw0
  have Hv := Lib.hid (madeV_yes (W := W) hn1 hn5 (by rw [← hN]; exact hXN))
  obtain ⟨i0, hi, hz0, hz1, hz2⟩ := info_parts Try.info3
  have Hi := Lib.hid hi; clear hi
  have Hz0 := Lib.hid hz0; clear hz0
  have Hz1 := Lib.hid hz1; clear hz1
  have Hz2 := Lib.hid hz2; clear hz2
  obtain ⟨j0, hj, hy0, hy1, hy2⟩ := info_parts Try.infoI
  have Hj := Lib.hid hj; clear hj
  have Hy0 := Lib.hid hy0; clear hy0
  have Hy1 := Lib.hid hy1; clear hy1
  have Hy2 := Lib.hid hy2; clear hy2
  have hW63 : W ≤ 9223372036854775807 := by have := hwd.2; omega
  have Hsucc := Lib.hid (fun k => madeTo_succ n X W k)
  have Hall := Lib.hid (madeTo_all n X W)
  have Htl := Lib.hid (fun k => madeTo_len n X W k)
  have Hlz := Lib.hid (leftW_zero n X W)
  have Hll := Lib.hid (fun k j => leftW_le n X W k j)
  have Hleft0 := Lib.hid (fun k => leftW_le n X W k 0)
  have Hrz := Lib.hid (fun k => rowTo_zero n X W k)
  have Hra := Lib.hid (fun k => rowTo_all n X W k)
  have Hrlen := Lib.hid (fun k => madeRow_len n X W k)
  have Hrl := Lib.hid (fun k j (hj : j ≤ n) => rowTo_len (X := X) (w := W) (k := k) hj)
  clear hN hwd
  obtain ⟨wo, rfl⟩ : ∃ wo : World, wo = w := ⟨_, rfl⟩
  go_enter Try.func37, Try.ntmps37
  go_wp2_with fail
  refine (specL1In9 _ _ _ true Hin _).mono ?_
  rintro e w' ⟨rfl, rfl⟩
  go_wp2_with fail
  refine (specL1In9 _ _ _ true Hin2 _).mono ?_
  rintro e w' ⟨rfl, rfl⟩
  go_wp2
  go_loopw [2, 7, 8, 9, 10] (fun q v i _ _ wr => ∃ (k : Nat) (rs : List RW), k ≤ n ∧ i = .int .i64 k ∧ q = .int .i64 (leftW n X W k 0 : Nat) ∧ Hid (rs.map (·.2) = madeTo n X W k) ∧ RowsIn wr wo.heap.size v rs ∧ Apart9 rs ∧ Below wo.heap.size wo wr)
    (fun _ _ i _ _ _ => n - (intOf i).toNat)
  case atStart => exact ⟨0, [], Nat.zero_le _, rfl, by rw [Hlz.out], (made_none n X W).symm, RowsIn.empty _ _ (Nat.le_refl _), Apart9.nil, (Below.refl _ _).alloc (Nat.le_refl _) _⟩
  case round =>
    obtain ⟨k, rs, hk, rfl, rfl, hrs, hri, hap, hbr⟩ := hrel
    have hrl : rs.length = k := by have := congrArg List.length hrs.out; rw [List.length_map, Htl.out] at this; exact this
    have Hri := Lib.hid hri
    have Hap := Lib.hid hap
    have Hbr := Lib.hid hbr
    have hsr := hbr.size
    obtain ⟨ao, co, rfl⟩ := own_len9 hri.1
    clear hri hap hbr
    by_cases hlt : k < n
    · have hlk := Hll.out k 0
      have hLz := Hleft0.out k
      have hmk : min k 64 = k := by omega
      have hsk := bit_mod9 X k
      have Hrow := Lib.hid (leftW_row (X := X) (w := W) hlt)
      have Hs1 := Lib.hid (Hsucc.out k)
      go_wp2_with (at_make; refine wpList_make_full _ rfl _ _ 26 rfl wr.heap.size 3 i0 (.int .i64 0) 1 Try.underlying26 Hi.out Hz0.out Hz1.out _ _ _ _ n rfl rfl rfl rfl ?b1 ?b2 ?b3 ?_)
      case b1 => rw [Hz2.out]; omega
      case b2 => unfold maxLen; omega
      case b3 => exact Nat.le_refl _
      intro w1 hown hgrow
      have hb1 : Below wr.heap.size wr w1 := (Below.refl _ _).grown hgrow (Nat.le_refl _) (fun k hk => by cases hk)
      clear hgrow
      have hown0 : w1.ownsRow wr.heap.size 3 1 (.slice (some ⟨wr.heap.size, 0, none⟩) n n) n (ints (rowTo n X W k 0)) := by
        have e : (madeCells #[Value.int .i64 0] n).toList = ints (rowTo n X W k 0) := by
          rw [toList_madeCells_one, Hrz.out]; simp [ints]
        rw [← e]; simpa [Value.cells] using hown
      clear hown
      obtain ⟨g, hg⟩ : ∃ g, g = wr.heap.size := ⟨_, rfl⟩
      rw [← hg] at hown0 hb1
      rw [← hg]
      have Hg := Lib.hid hg
      clear hg
      obtain ⟨wk, rfl⟩ : ∃ wk : World, wk = wr := ⟨_, rfl⟩
      go_wp2
      go_loopw [2, 10] (fun q i wr => ∃ j : Nat, j ≤ n ∧ i = .int .i64 j ∧ q = .int .i64 (leftW n X W k j : Nat) ∧ wr.ownsRow g 3 1 (.slice (some ⟨g, 0, none⟩) n n) n (ints (rowTo n X W k j)) ∧ Below g wk wr)
        (fun _ i _ => n - (intOf i).toNat)
      case atStart => exact ⟨0, Nat.zero_le _, rfl, rfl, hown0, hb1⟩
      case round =>
        obtain ⟨j, hj, rfl, rfl, hown, hb2⟩ := hrel
        have Hb2 := Lib.hid hb2
        have hllj := Hll.out k j
        clear hb2
        by_cases hjl : j < n
        · have hmj : min j 64 = j := by omega
          by_cases hjk : j = k
          · have hjk' : ((j : Int) == (k : Int)) = true := by rw [beq_iff_eq]; omega
            have hsame : leftW n X W k (j + 1) = leftW n X W k j := by rw [hjk]; exact leftW_same
            have Hsame := Lib.hid hsame
            have Hown : Hid (wr.ownsRow g 3 1 (.slice (some ⟨g, 0, none⟩) n n) n (ints (rowTo n X W k (j + 1)))) := by
              unfold Hid; rw [← rowTo_skip hjl (by rw [hjk]; exact madeE_own n X W k)]; exact hown
            clear hown hsame hjk
            go_wp2
            go_roundw
            case rel => exact ⟨j + 1, by omega, by go_num, by rw [Hsame.out], Hown.out, Hb2.out⟩
            case measure => simp [intOf]; omega
          · have hjk' : ((j : Int) == (k : Int)) = false := by rw [beq_eq_false_iff_ne]; omega
            cases hbk : X.testBit k with
            | false =>
              have hv : bitI X k = 0 := bitI_no hbk
              rw [hv] at hsk
              have Hsame := Lib.hid (leftW_right (n := n) (w := W) (j := j) hbk)
              have hsj := bit_mod9 X j
              have hset := rowTo_set (w := W) hjl (madeE_right (n := n) (w := W) hjk hbk)
              generalize bitI X j = y at *
              have hst := hown.stored j (.int .i64 y)
              rw [hset] at hst
              have hfz := hown.frozenAt j
              obtain ⟨uu, hcu⟩ : ∃ uu, wr.cell? ⟨g, j, none⟩ = some uu := ⟨_, by rw [hown.cellAt j (by omega)]; exact List.getElem?_eq_getElem (by simp [ints, Hrl.out k j hj]; omega)⟩
              obtain ⟨hst1, hst2⟩ := hst
              have Hst1 := Lib.hid hst1
              have Hb3 : Hid (Below g wk (wr.setCell ⟨g, j, none⟩ (.int .i64 y))) := Hb2.out.setCell (Nat.le_refl _) _
              clear hst1 hst2 hown hset hv hbk hjk
              go_wp2
              go_roundw
              case rel => exact ⟨j + 1, by omega, by go_num, by rw [Hsame.out], Hst1.out, Hb3.out⟩
              case measure => simp [intOf]; omega
            | true =>
              have hv : bitI X k = 1 := bitI_yes hbk
              rw [hv] at hsk
              have Hnext := Lib.hid (leftW_next (n := n) (w := W) hbk hjk)
              have hset := rowTo_set (w := W) hjl (madeE_wrong (n := n) (w := W) hjk hbk)
              rw [show W / 2 ^ usedW n X k j = leftW n X W k j from leftW_def n X W k j] at hset
              generalize leftW n X W k j = L at *
              have ht1 : (L : Int).tmod 2 = ((L % 2 : Nat) : Int) := by rw [Int.tmod_eq_emod_of_nonneg (by omega)]; omega
              have ht2 : (L : Int) % 2 = ((L % 2 : Nat) : Int) := by omega
              have ht3 : (L : Int).tdiv 2 = ((L / 2 : Nat) : Int) := by rw [Int.tdiv_eq_ediv_of_nonneg (by omega)]; omega
              have ht4 : (L : Int) / 2 = ((L / 2 : Nat) : Int) := by omega
              have hst := hown.stored j (.int .i64 ((L % 2 : Nat) : Int))
              rw [hset] at hst
              have hfz := hown.frozenAt j
              obtain ⟨uu, hcu⟩ : ∃ uu, wr.cell? ⟨g, j, none⟩ = some uu := ⟨_, by rw [hown.cellAt j (by omega)]; exact List.getElem?_eq_getElem (by simp [ints, Hrl.out k j hj]; omega)⟩
              obtain ⟨hst1, hst2⟩ := hst
              have Hst1 := Lib.hid hst1
              have Hb3 : Hid (Below g wk (wr.setCell ⟨g, j, none⟩ (.int .i64 ((L % 2 : Nat) : Int)))) := Hb2.out.setCell (Nat.le_refl _) _
              have hL2 : L / 2 ≤ 9223372036854775807 := by omega
              have hL0 : L % 2 ≤ 1 := by omega
              clear hst1 hst2 hown hset hv hbk hjk
              generalize L % 2 = lm at *
              generalize L / 2 = ld at *
              go_wp2
              go_roundw
              case rel => exact ⟨j + 1, by omega, by go_num, by rw [Hnext.out], Hst1.out, Hb3.out⟩
              case measure => simp [intOf]; omega
        · obtain rfl : j = n := Nat.le_antisymm hj (Nat.le_of_not_lt hjl)
          have hb2 := Hb2.out
          have hs2 := hb2.size
          have hri2 := Hri.out.below (w' := wr) (hbelow_of Hg.out hb2)
          rw [Hra.out] at hown
          have hgw : g = wk.heap.size := Hg.out
          have hgl : g < wr.heap.size := (hown.lt g rfl).2
          have Hfar : Hid (∀ r ∈ rs, Far9 r.1 (.slice (some ⟨g, 0, none⟩) j j)) := fun r hr => by
            unfold Far9
            cases hro : r.1.ownBlock with
            | none => exact .inl rfl
            | some x =>
              right
              intro he
              have h1 := ((Hri.out.2 r hr).lt x hro).2
              have h2 : g = x := by simpa [Value.ownBlock] using he.symm
              omega
          have Hq : Hid ((wr.alloc (.cells #[.slice (some ⟨g, 0, none⟩) j j] 26)).ownsRow wo.heap.size 3 1 (.slice (some ⟨g, 0, none⟩) j j) (madeRow j X W k).length (ints (madeRow j X W k))) := by
            unfold Hid; rw [Hrlen.out]; exact (own_mono9 hown (by omega)).alloc _
          have Hri2 := Lib.hid (hri2.alloc (.cells #[.slice (some ⟨g, 0, none⟩) j j] 26))
          have Hb5 := Lib.hid ((Hbr.out.trans (hb2.mono (show wo.heap.size ≤ g by omega))).alloc (by omega : wo.heap.size ≤ wr.heap.size) (.cells #[.slice (some ⟨g, 0, none⟩) j j] 26))
          have hr5 : k ≤ 5 := by omega
          have hri21 := Hri2.out.1
          rw [hrl] at hri21
          have Hri21 := Lib.hid hri21
          have Hrl1 := Lib.hid hrl
          clear hri21
          have hbase : wo.heap.size ≤ wr.heap.size := by omega
          clear hown hri2 hb2 hgl hs2 hgw
          go_wp2_with (first
            | (at_builtin
               refine wpList_append_own _ rfl _ _ 23 rfl wo.heap.size 26 j0 (.slice none 0 0) 1 24 Try.underlying23 Hj.out Hy0.out Hy1.out Hy2.out rfl (by decide) _ _ _ rfl Hri21.out ⟨_, 0, none⟩ 1 1 [.slice (some ⟨g, 0, none⟩) j j] rfl rfl (cell_one_new _ _ _) (by simp [Value.oneCell']) (by unfold maxLen; omega) (by omega) (by simp; omega) ?_
               go_must (intro v3 w3 hown3 hgr3 _
                        have Hpush := Lib.hid (Hri2.out.push (q := (Value.slice (some ⟨g, 0, none⟩) j j, madeRow j X W k)) (by decide) Hq.out (by rw [Hrl1.out]; exact hown3) (by rw [Hrl1.out]; exact hgr3))
                        have Hb6 := Lib.hid (Hb5.out.grown hgr3 (by simp; omega) (fun k hk => (Hri21.out.lt k hk).1))
                        clear hown3 hgr3))
            | fail)
          go_roundw
          case rel => exact ⟨k + 1, rs ++ [(Value.slice (some ⟨g, 0, none⟩) j j, madeRow j X W k)], by omega, by go_num, by rw [Hrow.out], by unfold Hid; rw [List.map_append, hrs.out, Hs1.out]; rfl, Hpush.out, Hap.out.push (q := (Value.slice (some ⟨g, 0, none⟩) j j, madeRow j X W k)) Hfar.out, Hb6.out⟩
          case measure => simp [intOf]; omega
    · obtain rfl : k = n := Nat.le_antisymm hk (Nat.le_of_not_lt hlt)
      go_wp2
      go_ret
      exact ⟨_, rs, rfl, by rw [hrs.out, Hv.out, Hall.out], Hri.out, Hap.out, Hbr.out⟩
end Go.Proofs.Ytnkgbolgcmjadaa
