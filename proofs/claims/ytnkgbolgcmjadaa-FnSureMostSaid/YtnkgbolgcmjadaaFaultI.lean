/- Contracts of the program's functions of syndromes. -/
import Derived.Test.YtnkgbolgcmjadaaFaultU
import Derived.Deep.OwnRows
namespace Go.Proofs.Ytnkgbolgcmjadaa
open Go.RowKit Go.Joins
theorem lt32_cases {x : Int} (h0 : 0 ≤ x) (h1 : x < 32) : x < 16 ∨ x = 16 ∨ x = 17 ∨ x = 18 ∨ x = 19 ∨ x = 20 ∨ x = 21 ∨ x = 22 ∨ x = 23 ∨ x = 24 ∨ x = 25 ∨ x = 26 ∨ x = 27 ∨ x = 28 ∨ x = 29 ∨ x = 30 ∨ x = 31 := by omega
theorem entOk_iff {k j : Nat} {z : Int} : entOk k j z = true ↔ (0 ≤ z ∧ z ≤ 1) ∧ (j = k → z = 0) := by
  unfold entOk
  rw [Bool.and_eq_true, decide_eq_true_eq, decide_eq_true_eq]
theorem entOk_out {k j : Nat} {z : Int} (h : z ≠ 0) (h1 : z ≠ 1) : entOk k j z = false := by
  cases he : entOk k j z with
  | false => rfl
  | true => have := (entOk_iff.1 he).1; omega
theorem entOk_own {k : Nat} {z : Int} (h : z ≠ 0) : entOk k k z = false := by
  cases he : entOk k k z with
  | false => rfl
  | true => exact absurd ((entOk_iff.1 he).2 rfl) h
/-- a row whose own entry is 0, and whose entries are 0 or 1 -/
theorem rowOk_of {n k : Nat} {zs : List Int} (hl : zs.length = n) (hk : zs.getD k 0 = 0) (h : ∀ j, j < n → 0 ≤ zs.getD j 0 ∧ zs.getD j 0 ≤ 1) : rowOk n k zs = true :=
  rowOk_all hl fun j hj => entOk_iff.2 ⟨h j hj, fun e => by rw [e]; exact hk⟩
theorem synOk_unit {s : List (List Int)} (h : ¬ (1 ≤ (s.length : Int) ∧ (s.length : Int) ≤ 5)) : synOk s = false := by
  cases hs : synOk s with
  | false => rfl
  | true =>
    obtain ⟨_, h1, h5⟩ := synOk_iff.1 hs
    exact absurd ⟨by omega, by omega⟩ h
theorem synOk_full {rs : List RW} (hu : 1 ≤ (rs.length : Int) ∧ (rs.length : Int) ≤ 5) (h : ∀ k, k < rs.length → rowOk rs.length k (rs.getD k rw0).2 = true) : synOk (rs.map (·.2)) = true := by
  rw [synOk_all h]; exact decide_eq_true hu
/-- a right unit's own entry agrees with the set -/
theorem own_agrees {s : List (List Int)} {X k : Nat} (hs : synOk s = true) (hk : k < s.length) (hb : X.testBit k = false) : toldE s k k = bitI X k := by
  rw [(((synOk_iff.1 hs).1 k hk).2 k hk).2 rfl, bitI_no hb]
theorem fits_badA {s : List (List Int)} {X k j : Nat} (hs : synOk s = true) (hk : k < s.length) (hb : X.testBit k = false) (hj : j < s.length) (h : toldE s k j ≠ bitI X j) : fitsN s X = false := by
  refine fits_bad hk (fitsK_bad hb hj (fun e => ?_) h)
  rw [e] at h
  exact h (own_agrees hs hk hb)
theorem and_bit {X k : Nat} (hX : X < 64) : bits BinOp.and IntKind.i64 ((X : Int) / 2 ^ k) 1 = bitI X k := by unfold bitI; exact and_one_val (by omega)
theorem and_low {L : Nat} (hL : L ≤ 9223372036854775807) : bits BinOp.and IntKind.i64 (L : Int) 1 = ((L % 2 : Nat) : Int) := by
  have := bits_and_nat L 1 (by omega) (by decide)
  rw [show ((1 : Nat) : Int) = 1 from rfl] at this
  rw [this, Nat.and_one_is_mod]
/-! ### rows of rows while they are made -/
theorem rows_new {w : World} {base : Nat} {v : Value} {n : Nat} (h : w.ownsRow base 26 1 v n (List.replicate n (.slice none 0 0))) : RowsIn w base v (List.replicate n rw0) := by
  refine ⟨?_, fun r hr => ?_⟩
  · rw [List.length_replicate, List.map_replicate]; exact h
  · rw [List.eq_of_mem_replicate hr]; exact World.ownsRow_nil _ _ _ _
theorem apart_new (n : Nat) : Apart9 (List.replicate n rw0) := by
  unfold Apart9
  rw [List.pairwise_replicate]
  exact .inr (.inl rfl)
/-- rows made as far as k -/
structure MadeTo (n X W k : Nat) (rs : List RW) : Prop where
  len : rs.length = n
  row : ∀ i, i < k → (rs.getD i rw0).2 = madeRow n X W i
theorem madeTo_new (n X W : Nat) : MadeTo n X W 0 (List.replicate n rw0) := ⟨List.length_replicate, fun _ hi => absurd hi (Nat.not_lt_zero _)⟩
theorem MadeTo.all {n X W : Nat} {rs : List RW} (h : MadeTo n X W n rs) : rs.map (·.2) = madeL n X W := by
  refine List.ext_getElem (by rw [List.length_map, h.len, madeL_len]) fun i h1 h2 => ?_
  rw [List.length_map] at h1
  have := h.row i (by rw [← h.len]; exact h1)
  rw [rw_at h1] at this
  rw [List.getElem_map, this]
  have h3 := madeL_get (X := X) (w := W) (show i < n by rw [← h.len]; exact h1)
  rw [← h3]
  simp [List.getD, h2]
theorem MadeTo.set {n X W k : Nat} {rs : List RW} (h : MadeTo n X W k rs) (q : RW) : MadeTo n X W k (rs.set k q) := by
  refine ⟨by rw [List.length_set]; exact h.len, fun i hi => ?_⟩
  rw [← h.row i hi]
  simp only [List.getD, List.getElem?_set]
  rw [if_neg (by omega)]
theorem MadeTo.next {n X W k : Nat} {rs : List RW} (h : MadeTo n X W k rs) (hq : (rs.getD k rw0).2 = madeRow n X W k) : MadeTo n X W (k + 1) rs := by
  refine ⟨h.len, fun i hi => ?_⟩
  by_cases hik : i = k
  · rw [hik]; exact hq
  · exact h.row i (by omega)
theorem set_getD9 {rs : List RW} {k : Nat} (hk : k < rs.length) (q : RW) : (rs.set k q).getD k rw0 = q := by simp [List.getD, hk]
/-- what lies while the row k is filled as far as j -/
structure Fill (w : World) (base g0 g n X W k j : Nat) (rs : List RW) : Prop where
  rows : RowsIn w base (.slice (some ⟨g0, 0, none⟩) n n) rs
  far : Apart9 rs
  made : MadeTo n X W k rs
  at_ : rs.getD k rw0 = (.slice (some ⟨g, 0, none⟩) n n, rowTo n X W k j)
theorem Fill.base {w : World} {base g0 g n X W k j : Nat} {rs : List RW} (h : Fill w base g0 g n X W k j rs) (hk : k < n) (hj : j ≤ n) :
    w.ownsRow base 3 1 (.slice (some ⟨g, 0, none⟩) n n) n (ints (rowTo n X W k j)) := by
  have hl := h.made.len
  have h1 := h.rows.2 _ (List.getElem_mem (show k < rs.length by omega))
  rw [← rw_at (show k < rs.length by omega), h.at_] at h1
  dsimp only at h1
  rwa [rowTo_len hj] at h1
theorem Fill.outer {w : World} {base g0 g n X W k j : Nat} {rs : List RW} (h : Fill w base g0 g n X W k j rs) (hk : k < n) :
    w.cell? ⟨g0, k, none⟩ = some (.slice (some ⟨g, 0, none⟩) n n) := by
  have hl := h.made.len
  have h0 := h.rows.1
  rw [hl] at h0
  have h1 := h0.cellAt k (by omega)
  rw [h1]
  have h2 := h.at_
  rw [rw_at (show k < rs.length by omega)] at h2
  simp [show k < rs.length by omega, h2]
theorem Fill.cell {w : World} {base g0 g n X W k j : Nat} {rs : List RW} (h : Fill w base g0 g n X W k j rs) (hk : k < n) (hj : j ≤ n) {i : Nat} (hi : i < n) :
    ∃ u, w.cell? ⟨g, i, none⟩ = some u := by
  have h1 := (h.base hk hj).cellAt i (by omega)
  exact ⟨_, by rw [h1]; exact List.getElem?_eq_getElem (by simp [ints, rowTo_len hj]; omega)⟩
/-- one number is stored -/
theorem Fill.store {w : World} {base g0 g n X W k j : Nat} {rs : List RW} (h : Fill w base g0 g n X W k j rs) (hk : k < n) (hj : j < n) {z : Int} (hz : madeE n X W k j = z) :
    (∃ rs', Fill (w.setCell ⟨g, j, none⟩ (.int .i64 z)) base g0 g n X W k (j + 1) rs') ∧ base ≤ g := by
  have hl := h.made.len
  have hkl : k < rs.length := by omega
  have hat := h.at_
  rw [rw_at hkl] at hat
  have hzl : (rs[k]).2.length = n := by rw [hat]; exact rowTo_len (Nat.le_of_lt hj)
  obtain ⟨h1, h2, _, h4⟩ := h.rows.setEnt h.far (by decide) hkl (j := j) (cap := n) (g := g) (by rw [hzl, hat]) z
  have hset : (rs[k]).2.set j z = rowTo n X W k (j + 1) := by
    have := rowTo_set (X := X) (w := W) hj hz
    rw [hat]
    dsimp only
    have e := ints_set (rowTo n X W k j) j z
    rw [this] at e
    unfold ints at e
    exact ((List.map_inj_right (fun a b hab => by cases hab; rfl)).1 e).symm
  rw [hset] at h1 h2
  refine ⟨⟨_, h1, h2, h.made.set _, ?_⟩, h4⟩
  rw [set_getD9 hkl]
  rw [hat]
theorem Fill.skip {w : World} {base g0 g n X W k j : Nat} {rs : List RW} (h : Fill w base g0 g n X W k j rs) (hj : j < n) (hz : madeE n X W k j = 0) : Fill w base g0 g n X W k (j + 1) rs :=
  ⟨h.rows, h.far, h.made, by rw [h.at_, rowTo_skip hj hz]⟩
theorem Fill.done {w : World} {base g0 g n X W k : Nat} {rs : List RW} (h : Fill w base g0 g n X W k n rs) : MadeTo n X W (k + 1) rs :=
  h.made.next (by rw [h.at_]; exact rowTo_all n X W k)
/-- a row just made is put in its place -/
theorem fill_new {w w1 : World} {base g0 n X W k : Nat} {rs : List RW} (hr : RowsIn w base (.slice (some ⟨g0, 0, none⟩) n n) rs) (ha : Apart9 rs) (hm : MadeTo n X W k rs) (hk : k < n) (hb : Below w.heap.size w w1) (hbase : base ≤ w.heap.size)
    (hown : w1.ownsRow w.heap.size 3 1 (.slice (some ⟨w.heap.size, 0, none⟩) n n) n (ints (rowTo n X W k 0))) :
    ∃ rs', Fill (w1.setCell ⟨g0, k, none⟩ (.slice (some ⟨w.heap.size, 0, none⟩) n n)) base g0 w.heap.size n X W k 0 rs' := by
  have hl := hm.len
  have hr1 := hr.below hb
  have hkl : k < rs.length := by omega
  have h1 := hr1.1
  rw [← hl] at h1
  have hq : w1.ownsRow base 3 1 (Value.slice (some ⟨w.heap.size, 0, none⟩) n n, rowTo n X W k 0).1 (Value.slice (some ⟨w.heap.size, 0, none⟩) n n, rowTo n X W k 0).2.length (ints (Value.slice (some ⟨w.heap.size, 0, none⟩) n n, rowTo n X W k 0).2) := by
    dsimp only
    rw [rowTo_len (Nat.zero_le _)]
    exact own_mono9 hown hbase
  obtain ⟨r1, _, _⟩ := rows_setRow (k := k) h1 (fun i hi _ => hr1.2 _ (List.getElem_mem hi)) (by decide) (q := (Value.slice (some ⟨w.heap.size, 0, none⟩) n n, rowTo n X W k 0)) hq
  rw [hl] at r1
  refine ⟨_, r1, ha.set k _ (fun i hi hik => ?_), hm.set _, set_getD9 hkl _⟩
  unfold Far9
  cases ho : (rs[i]).1.ownBlock with
  | none => exact .inl rfl
  | some x =>
    right
    intro he
    have h2 := ((hr.2 _ (List.getElem_mem hi)).lt x ho).2
    have h3 : w.heap.size = x := by simpa [Value.ownBlock] using he.symm
    omega
theorem only_one {s : List (List Int)} (h : setsN s (sureN s.length) ≠ []) : (setsN s (sureN s.length)).length = 1 := by
  have h1 := sure_most (s := s)
  have := List.length_pos_iff.2 h
  omega
attribute [local irreducible] synOk rowOk entOk fitsN fitsK toldE bitI fitsV setsN setsF votesF votesN heads madeE madeRow madeL madeV madeOk madeTo rowTo leftW usedW
set_option maxHeartbeats 400000 in
theorem implUnitsOk (n : Int) (b : Bool) (hb : Hid (b = decide (1 ≤ n ∧ n ≤ 5))) (w : World) :
    Calls Try.prog 40 #[.int .i64 n] w fun e w' => e = .returned (.bool b) ∧ w = w' := by
  rw [hb.out]; clear hb
  by_cases h : 1 ≤ n
  all_goals
    go_enter Try.func40, Try.ntmps40
    go_wp2
    go_ret
    exact ⟨ret_bool (by rw [Bool.eq_iff_iff]; simp; omega), rfl⟩
set_option maxHeartbeats 400000 in
theorem implSetCount (n N : Nat) (h5 : n ≤ 5) (hN : Hid (N = 2 ^ n)) (w : World) :
    Calls Try.prog 48 #[.int .i64 n] w fun e w' => e = .returned (.int .i64 N) ∧ w = w' := by
  have hsh := shl_5 h5 hN.out
  have hshk := shl_5k h5 hN.out
  have hmn : min n 64 = n := by omega
  clear hN
  go_enter Try.func48, Try.ntmps48
  go_wp2
  go_ret
  exact ⟨rfl, rfl⟩
set_option maxHeartbeats 400000 in
theorem implSetOk_units (n x : Int) (hn : ¬ (1 ≤ n ∧ n ≤ 5)) (w : World) :
    Calls Try.prog 44 #[.int .i64 n, .int .i64 x] w fun e w' => e = .returned (.bool false) ∧ w = w' := by
  have Hin : Hid (false = decide (1 ≤ n ∧ n ≤ 5)) := (decide_eq_false hn).symm
  clear hn
  go_enter Try.func44, Try.ntmps44
  go_wp2_with fail
  refine (implUnitsOk _ false Hin _).mono ?_
  rintro e w' ⟨rfl, rfl⟩
  go_wp2
  go_ret
  exact ⟨rfl, rfl⟩
set_option maxHeartbeats 400000 in
theorem implSetOk (n : Nat) (x : Int) (N : Nat) (h1 : 1 ≤ n) (h5 : n ≤ 5) (hN : Hid (N = 2 ^ n)) (b : Bool) (hb : Hid (b = decide (0 ≤ x ∧ x ≤ (N : Int) - 1))) (w : World) :
    Calls Try.prog 44 #[.int .i64 n, .int .i64 x] w fun e w' => e = .returned (.bool b) ∧ w = w' := by
  have Hin : Hid (true = decide (1 ≤ (n : Int) ∧ (n : Int) ≤ 5)) := (decide_eq_true (by omega)).symm
  have Hc := Lib.hid (fun w => implSetCount n N h5 hN w)
  clear h1 h5 hN
  rw [hb.out]; clear hb
  by_cases h0 : 0 ≤ x
  · go_enter Try.func44, Try.ntmps44
    go_wp2_with fail
    refine (implUnitsOk _ true Hin _).mono ?_
    rintro e w' ⟨rfl, rfl⟩
    go_wp2_with fail
    refine (Hc.out _).mono ?_
    rintro e w' ⟨rfl, rfl⟩
    go_wp2
    go_ret
    exact ⟨ret_bool (by rw [Bool.eq_iff_iff]; simp; omega), rfl⟩
  · go_enter Try.func44, Try.ntmps44
    go_wp2_with fail
    refine (implUnitsOk _ true Hin _).mono ?_
    rintro e w' ⟨rfl, rfl⟩
    go_wp2
    go_ret
    exact ⟨ret_bool (by rw [Bool.eq_iff_iff]; simp; omega), rfl⟩
set_option maxHeartbeats 400000 in
theorem implBrokenIn (X k : Nat) (hX : X < 64) (hk : k < 64) (z : Int) (hz : Hid (bitI X k = z)) (w : World) :
    Calls Try.prog 45 #[.int .i64 X, .int .i64 k] w fun e w' => e = .returned (.int .i64 z) ∧ w = w' := by
  have hb := and_bit (k := k) hX
  rw [hz.out] at hb
  have hmk : min k 64 = k := by omega
  clear hz
  go_enter Try.func45, Try.ntmps45
  go_wp2
  go_ret
  exact ⟨rfl, rfl⟩
set_option maxRecDepth 100000 in
set_option maxHeartbeats 2000000 in
theorem implRowOk (n k : Nat) (hk : k < n) (zs : List Int) (B : Nat) (v : Value) (w : World) (hr : RdInts w B v zs) :
    Calls Try.prog 41 #[.int .i64 n, .int .i64 k, v] w fun e w' => e = .returned (.bool (rowOk n k zs)) ∧ w = w' := by
  obtain ⟨ao, cap, rfl, hl, hm, hc0⟩ := hr
  have hc := Lib.hid hc0; clear hc0
  unfold maxLen at hm
  by_cases hlen : zs.length = n
  case neg =>
    have Hf := Lib.hid (rowOk_len (k := k) hlen)
    have hne : ((zs.length : Int) != (n : Int)) = true := by rw [bne_iff_ne]; omega
    clear hlen
    go_enter Try.func41, Try.ntmps41
    go_wp2
    go_ret
    exact ⟨by rw [Hf.out]; rfl, rfl⟩
  have Hof := Lib.hid (fun h1 h2 => rowOk_of (n := n) (k := k) hlen h1 h2)
  have Hent := Lib.hid (fun j hj h => rowOk_ent (n := n) (k := k) (zs := zs) (j := j) hj h)
  rw [hlen] at hl hc
  rw [hlen]
  clear hlen
  obtain ⟨b, off, hao, hb, hck⟩ := hc.out k hk
  by_cases hz : zs.getD k 0 = 0
  case neg =>
    have Hf := Lib.hid (Hent.out k hk (entOk_own hz))
    have hzn : (zs.getD k 0 != 0) = true := by rw [bne_iff_ne]; exact hz
    subst hao
    clear hz hc
    generalize zs.getD k 0 = z at *
    go_enter Try.func41, Try.ntmps41
    go_wp2
    go_ret
    exact ⟨by rw [Hf.out]; rfl, rfl⟩
  have Hof2 := Lib.hid (Hof.out hz)
  rw [hz] at hck
  subst hao
  clear hz Hof
  go_enter Try.func41, Try.ntmps41
  go_wp2
  go_loop [8, 22] (fun _ i => ∃ j : Nat, j ≤ n ∧ i = .int .i64 j ∧ Hid (∀ m, m < j → 0 ≤ zs.getD m 0 ∧ zs.getD m 0 ≤ 1)) (fun _ i => n - (intOf i).toNat)
  case atStart => exact ⟨0, Nat.zero_le _, rfl, fun m hm => absurd hm (Nat.not_lt_zero _)⟩
  case round =>
    obtain ⟨j, hj, rfl, hall⟩ := hrel
    clear hck
    by_cases hjl : j < n
    · obtain ⟨b2, off2, hao2, hb2, hcj⟩ := hc.out j hjl
      obtain ⟨⟨rfl, rfl⟩⟩ : b = b2 ∧ off = off2 := by simpa using hao2
      have Hentj := Lib.hid (Hent.out j hjl)
      have Hall2 : Hid (0 ≤ zs.getD j 0 ∧ zs.getD j 0 ≤ 1 → ∀ m, m < j + 1 → 0 ≤ zs.getD m 0 ∧ zs.getD m 0 ≤ 1) := fun h m hm => by
        by_cases hmj : m < j
        · exact hall.out m hmj
        · obtain rfl : m = j := by omega
          exact h
      clear hao2
      generalize zs.getD j 0 = z at *
      by_cases h0 : z = 0
      · subst h0
        have Hs := Lib.hid (Hall2.out ⟨by omega, by omega⟩)
        go_wp2
        go_round
        case rel => exact ⟨j + 1, by omega, by go_num, Hs.out⟩
        case measure => simp [intOf]; omega
      · by_cases h1 : z = 1
        · subst h1
          have Hs := Lib.hid (Hall2.out ⟨by omega, by omega⟩)
          clear h0
          go_wp2
          go_round
          case rel => exact ⟨j + 1, by omega, by go_num, Hs.out⟩
          case measure => simp [intOf]; omega
        · have Hf := Lib.hid (Hentj.out (entOk_out h0 h1))
          have e0 : (z != 0) = true := by rw [bne_iff_ne]; exact h0
          have e1 : (z != 1) = true := by rw [bne_iff_ne]; exact h1
          clear h0 h1
          go_wp2
          go_ret
          exact ⟨by rw [Hf.out]; rfl, rfl⟩
    · obtain rfl : j = n := Nat.le_antisymm hj (Nat.le_of_not_lt hjl)
      have Hv := Lib.hid (Hof2.out hall.out)
      go_wp2
      go_ret
      exact ⟨by rw [Hv.out]; rfl, rfl⟩
set_option maxRecDepth 100000 in
set_option maxHeartbeats 2000000 in
theorem implSyndromeOk0 (rs : List RW) (B : Nat) (v : Value) (w : World) (hr : RdRows w B v rs) :
    Calls Try.prog 12 #[v] w fun e w' => e = .returned (.bool (synOk (rs.map (·.2)))) ∧ w = w' := by
  have Hget := Lib.hid (fun j (hj : j < rs.length) => hr.get hj)
  obtain ⟨ao, cap, rfl, hl, hm, _hi, hc0⟩ := hr
  have hc := Lib.hid hc0; clear hc0 _hi
  unfold maxLen at hm
  by_cases hu : 1 ≤ (rs.length : Int) ∧ (rs.length : Int) ≤ 5
  case neg =>
    have Hin : Hid (false = decide (1 ≤ (rs.length : Int) ∧ (rs.length : Int) ≤ 5)) := (decide_eq_false hu).symm
    have Hf := Lib.hid (synOk_unit (s := rs.map (·.2)) (by rw [List.length_map]; exact hu))
    clear hu
    go_enter Try.func12, Try.ntmps12
    go_wp2_with fail
    refine (implUnitsOk _ false Hin _).mono ?_
    rintro e w' ⟨rfl, rfl⟩
    go_wp2
    go_ret
    exact ⟨by rw [Hf.out]; rfl, rfl⟩
  have Hin : Hid (true = decide (1 ≤ (rs.length : Int) ∧ (rs.length : Int) ≤ 5)) := (decide_eq_true hu).symm
  have Hall := Lib.hid (fun h => synOk_full (rs := rs) hu h)
  have Hbad := Lib.hid (fun k hk h => synOk_bad (rs := rs) (k := k) hk h)
  clear hu
  go_enter Try.func12, Try.ntmps12
  go_wp2_with fail
  refine (implUnitsOk _ true Hin _).mono ?_
  rintro e w' ⟨rfl, rfl⟩
  go_wp2
  go_loop [3, 4, 11] (fun _ _ i => ∃ k : Nat, k ≤ rs.length ∧ i = .int .i64 k ∧ Hid (∀ m, m < k → rowOk rs.length m (rs.getD m rw0).2 = true)) (fun _ _ i => rs.length - (intOf i).toNat)
  case atStart => exact ⟨0, Nat.zero_le _, rfl, fun m hm => absurd hm (Nat.not_lt_zero _)⟩
  case round =>
    obtain ⟨k, hk, rfl, hrows⟩ := hrel
    by_cases hlt : k < rs.length
    · obtain ⟨b, off, rfl, hb, hcell⟩ := hc.out k hlt
      have hrk := Hget.out k hlt
      have hbk := Hbad.out k hlt
      have Hsucc : Hid (rowOk rs.length k (rs.getD k rw0).2 = true → ∀ m, m < k + 1 → rowOk rs.length m (rs.getD m rw0).2 = true) := fun h m hm => by
        by_cases hmk : m < k
        · exact hrows.out m hmk
        · obtain rfl : m = k := by omega
          exact h
      have Hro := Lib.hid (fun w h => implRowOk rs.length k hlt (rs.getD k rw0).2 B (rs.getD k rw0).1 w h)
      obtain ⟨a2, c2, hu2⟩ : ∃ ao cap, (rs.getD k rw0).1 = .slice ao (rs.getD k rw0).2.length cap := by obtain ⟨a, c, h, _⟩ := hrk; exact ⟨a, c, h⟩
      have Hrk := Lib.hid hrk
      clear hrk
      rw [hu2] at Hro Hrk hcell
      clear hu2
      cases hrow : rowOk rs.length k (rs.getD k rw0).2 with
      | true =>
        have Hs := Lib.hid (Hsucc.out hrow)
        rw [hrow] at Hro
        clear hrow hbk Hsucc
        generalize (rs.getD k rw0).2 = zs at *
        go_wp2_with fail
        refine (Hro.out _ Hrk.out).mono ?_
        rintro e w' ⟨rfl, rfl⟩
        go_wp2
        go_round
        case rel => exact ⟨k + 1, by omega, by go_num, Hs.out⟩
        case measure => simp [intOf]; omega
      | false =>
        have Hf := Lib.hid (hbk hrow)
        rw [hrow] at Hro
        clear hrow hbk Hsucc
        generalize (rs.getD k rw0).2 = zs at *
        go_wp2_with fail
        refine (Hro.out _ Hrk.out).mono ?_
        rintro e w' ⟨rfl, rfl⟩
        go_wp2
        go_ret
        exact ⟨by rw [Hf.out]; rfl, rfl⟩
    · obtain rfl : k = rs.length := Nat.le_antisymm hk (Nat.le_of_not_lt hlt)
      have Hv := Lib.hid (Hall.out hrows.out)
      go_wp2
      go_ret
      exact ⟨by rw [Hv.out]; rfl, rfl⟩
theorem implSyndromeOk (rs : List RW) (B : Nat) (v : Value) (w : World) (hr : RdRows w B v rs) (_hB : B ≤ w.heap.size) :
    Calls Try.prog 12 #[v] w fun e w' => e = .returned (.bool (synOk (rs.map (·.2)))) ∧ Below w.heap.size w w' :=
  (implSyndromeOk0 rs B v w hr).mono (by rintro e w' ⟨rfl, rfl⟩; exact ⟨rfl, Below.refl _ _⟩)
set_option maxRecDepth 100000 in
set_option maxHeartbeats 4000000 in
theorem implFitsFaults0 (rs : List RW) (x : Int) (B : Nat) (v : Value) (w : World) (hr : RdRows w B v rs) :
    Calls Try.prog 15 #[v, .int .i64 x] w fun e w' => e = .returned (.bool (fitsV (rs.map (·.2)) x)) ∧ w = w' := by
  have Hso := Lib.hid (implSyndromeOk0 rs B v w hr)
  cases hs : synOk (rs.map (·.2)) with
  | false =>
    have Hf := Lib.hid (fitsV_no (x := x) hs)
    rw [hs] at Hso
    obtain ⟨ao, cap, rfl⟩ : ∃ ao cap, v = .slice ao rs.length cap := by obtain ⟨a, c, h, _⟩ := hr; exact ⟨a, c, h⟩
    clear hs hr
    go_enter Try.func15, Try.ntmps15
    go_wp2_with fail
    refine Hso.out.mono ?_
    rintro e w' ⟨rfl, rfl⟩
    go_wp2
    go_ret
    exact ⟨by rw [Hf.out]; rfl, rfl⟩
  | true =>
    obtain ⟨hn5, hn1, hlens⟩ := syn_rows hs
    obtain ⟨N, hN⟩ : ∃ N, N = 2 ^ rs.length := ⟨_, rfl⟩
    have hlen : (rs.map (·.2)).length = rs.length := by simp
    have hN32 : N ≤ 32 := by rw [hN]; exact two32 hn5
    have e2 : ((2 : Int) ^ rs.length) = (N : Int) := by rw [hN]; simp
    have HN := Lib.hid hN
    have Hset := Lib.hid (fun b hb w => implSetOk rs.length x N hn1 hn5 HN b hb w)
    by_cases hx : 0 ≤ x ∧ x ≤ (N : Int) - 1
    case neg =>
      have Hin : Hid (false = decide (0 ≤ x ∧ x ≤ (N : Int) - 1)) := (decide_eq_false hx).symm
      have Hc := Lib.hid (fun w => Hset.out false Hin w)
      have Hf := Lib.hid (fitsV_out (s := rs.map (·.2)) (x := x) (fun h' => by
        rw [hlen, e2] at h'
        exact hx ⟨h'.1, by omega⟩))
      rw [hs] at Hso
      obtain ⟨ao, cap, rfl⟩ : ∃ ao cap, v = .slice ao rs.length cap := by obtain ⟨a, c, h, _⟩ := hr; exact ⟨a, c, h⟩
      clear hs hr hlens hN e2 hx Hset HN Hin hlen
      go_enter Try.func15, Try.ntmps15
      go_wp2_with fail
      refine Hso.out.mono ?_
      rintro e w' ⟨rfl, rfl⟩
      go_wp2_with fail
      refine (Hc.out _).mono ?_
      rintro e w' ⟨rfl, rfl⟩
      go_wp2
      go_ret
      exact ⟨by rw [Hf.out]; rfl, rfl⟩
    obtain ⟨X, rfl⟩ := Int.eq_ofNat_of_zero_le hx.1
    have hXN : X < N := by omega
    have Hin : Hid (true = decide (0 ≤ (X : Int) ∧ (X : Int) ≤ (N : Int) - 1)) := (decide_eq_true hx).symm
    have Hc := Lib.hid (fun w => Hset.out true Hin w)
    have Hv := Lib.hid (fitsV_in hs (X := X) (by rw [hlen, ← hN]; exact hXN))
    have hX : X < 64 := by omega
    have Hget := Lib.hid (fun j (hj : j < rs.length) => hr.get hj)
    have Hall := Lib.hid (fun h => fits_all (s := rs.map (·.2)) (X := X) (n := rs.length) hlen h)
    have Hbit := Lib.hid (fun k h => fitsK_bit (s := rs.map (·.2)) (X := X) (k := k) h)
    have HallK := Lib.hid (fun k h => fitsK_all (s := rs.map (·.2)) (X := X) (k := k) (n := rs.length) hlen h)
    have HbadA := Lib.hid (fun k j (hk : k < rs.length) hb (hj : j < rs.length) h => fits_badA (X := X) (k := k) (j := j) hs (by rw [hlen]; exact hk) hb (by rw [hlen]; exact hj) h)
    have Htold := Lib.hid (told_rows rs)
    have Hlens := Lib.hid hlens
    rw [hs] at Hso
    have Hr := Lib.hid hr
    obtain ⟨ao, cap, rfl, hl, hm, _hi, hc0⟩ := hr
    have hc := Lib.hid hc0; clear hc0 _hi
    unfold maxLen at hm
    clear hs hlens hN e2 hx Hset HN Hin hlen Hr
    generalize rs.map (·.2) = s at *
    generalize hn : rs.length = n at *
    clear hn hN32 hXN
    go_enter Try.func15, Try.ntmps15
    go_wp2_with fail
    refine Hso.out.mono ?_
    rintro e w' ⟨rfl, rfl⟩
    go_wp2_with fail
    refine (Hc.out _).mono ?_
    rintro e w' ⟨rfl, rfl⟩
    go_wp2
    go_loop [5, 6, 7, 8, 21] (fun _ _ _ _ i => ∃ k : Nat, k ≤ n ∧ i = .int .i64 k ∧ Hid (∀ m, m < k → fitsK s X m = true)) (fun _ _ _ _ i => n - (intOf i).toNat)
    case atStart => exact ⟨0, Nat.zero_le _, rfl, fun m hm => absurd hm (Nat.not_lt_zero _)⟩
    case round =>
      obtain ⟨k, hk, rfl, hrows⟩ := hrel
      by_cases hlt : k < n
      · obtain ⟨b, off, rfl, hb, hcell⟩ := hc.out k hlt
        have hrk := Hget.out k hlt
        have hlk := Hlens.out k hlt
        have htk := Htold.out k
        have Hsucc : Hid (fitsK s X k = true → ∀ m, m < k + 1 → fitsK s X m = true) := fun h m hm => by
          by_cases hmk : m < k
          · exact hrows.out m hmk
          · obtain rfl : m = k := by omega
            exact h
        generalize rs.getD k rw0 = q at *
        obtain ⟨u, zs⟩ := q
        obtain ⟨ao2, cap2, hu, hzl, hzm, hzc⟩ := hrk
        dsimp only at hcell hu hzl hzc hlk htk
        subst hu
        unfold maxLen at hzm
        rw [hlk] at hcell hzl hzc
        have Hzc := Lib.hid hzc
        have Htk := Lib.hid htk
        clear hzc htk hlk
        have hk64 : k < 64 := by omega
        cases hbk : X.testBit k with
        | true =>
          have Hbr := Lib.hid (fun w => implBrokenIn X k hX hk64 1 (bitI_yes hbk) w)
          have Hs := Lib.hid (Hsucc.out (Hbit.out k hbk))
          clear hbk
          go_wp2_with fail
          refine (Hbr.out _).mono ?_
          rintro e w' ⟨rfl, rfl⟩
          go_wp2
          go_round
          case rel => exact ⟨k + 1, by omega, by go_num, Hs.out⟩
          case measure => simp [intOf]; omega
        | false =>
          have Hbr := Lib.hid (fun w => implBrokenIn X k hX hk64 0 (bitI_no hbk) w)
          have Hfk := Lib.hid (fun h => Hsucc.out (HallK.out k h))
          have Hfb := Lib.hid (fun j hj h => HbadA.out k j hlt hbk hj h)
          clear hbk
          go_wp2_with fail
          refine (Hbr.out _).mono ?_
          rintro e w' ⟨rfl, rfl⟩
          go_wp2
          go_loop [7, 8, 32] (fun _ _ i => ∃ j : Nat, j ≤ n ∧ i = .int .i64 j ∧ Hid (∀ m, m < j → toldE s k m = bitI X m)) (fun _ _ i => n - (intOf i).toNat)
          case atStart => exact ⟨0, Nat.zero_le _, rfl, fun m hm => absurd hm (Nat.not_lt_zero _)⟩
          case round =>
            obtain ⟨j, hj, rfl, hents⟩ := hrel
            by_cases hjl : j < n
            · obtain ⟨b2, off2, rfl, hb2, hc2⟩ := Hzc.out j hjl
              have hfbj := Hfb.out j hjl
              have htj := Htk.out j
              rw [← htj] at hc2
              have hj64 : j < 64 := by omega
              have Hbj := Lib.hid (fun z hz w => implBrokenIn X j hX hj64 z hz w)
              have Hents : Hid (toldE s k j = bitI X j → ∀ m, m < j + 1 → toldE s k m = bitI X m) := fun h m hm => by
                by_cases hmj : m < j
                · exact hents.out m hmj
                · obtain rfl : m = j := by omega
                  exact h
              clear htj
              by_cases he : toldE s k j = bitI X j
              · have Hs := Lib.hid (Hents.out he)
                rw [he] at hc2
                have Hb2 := Lib.hid (fun w => Hbj.out _ (rfl : bitI X j = bitI X j) w)
                clear he hfbj Hents Hbj
                generalize bitI X j = z at *
                go_wp2_with fail
                refine (Hb2.out _).mono ?_
                rintro e w' ⟨rfl, rfl⟩
                go_wp2
                go_round
                case rel => exact ⟨j + 1, by omega, by go_num, Hs.out⟩
                case measure => simp [intOf]; omega
              · have Hf := Lib.hid (hfbj he)
                have hne : (toldE s k j != bitI X j) = true := by rw [bne_iff_ne]; exact he
                have Hb2 := Lib.hid (fun w => Hbj.out _ (rfl : bitI X j = bitI X j) w)
                clear he hfbj Hents Hbj
                generalize bitI X j = z at *
                generalize toldE s k j = t at *
                go_wp2_with fail
                refine (Hb2.out _).mono ?_
                rintro e w' ⟨rfl, rfl⟩
                go_wp2
                go_ret
                exact ⟨by rw [Hv.out, Hf.out]; rfl, rfl⟩
            · obtain rfl : j = n := Nat.le_antisymm hj (Nat.le_of_not_lt hjl)
              have Hs := Lib.hid (Hfk.out (fun m hm _ => hents.out m hm))
              go_wp2
              go_round
              case rel => exact ⟨k + 1, by omega, by go_num, Hs.out⟩
              case measure => simp [intOf]; omega
      · obtain rfl : k = n := Nat.le_antisymm hk (Nat.le_of_not_lt hlt)
        have Hw := Lib.hid (Hall.out hrows.out)
        go_wp2
        go_ret
        exact ⟨by rw [Hv.out, Hw.out]; rfl, rfl⟩
theorem implFitsFaults (rs : List RW) (x : Int) (B : Nat) (v : Value) (w : World) (hr : RdRows w B v rs) (_hB : B ≤ w.heap.size) :
    Calls Try.prog 15 #[v, .int .i64 x] w fun e w' => e = .returned (.bool (fitsV (rs.map (·.2)) x)) ∧ Below w.heap.size w w' :=
  (implFitsFaults0 rs x B v w hr).mono (by rintro e w' ⟨rfl, rfl⟩; exact ⟨rfl, Below.refl _ _⟩)
set_option maxHeartbeats 2000000 in
theorem onesCount32 (x : Int) (h0 : 0 ≤ x) (h1 : x < 32) (w : World) :
    Calls Try.prog 55 #[.int .u64 x] w fun e w' => e = .returned (.int .i64 (heads x.toNat)) ∧ w = w' := by
  rcases lt32_cases h0 h1 with h | rfl | rfl | rfl | rfl | rfl | rfl | rfl | rfl | rfl | rfl | rfl | rfl | rfl | rfl | rfl | rfl
  · exact onesCount16 x h0 h w
  all_goals
    clear h0 h1
    go_enter Try.func55, Try.ntmps55
    go_wp2
    go_ret
    exact ⟨ret_int (by kernel_rfl), rfl⟩
set_option maxHeartbeats 400000 in
theorem onesCountU (X : Nat) (hX : X < 32) (w : World) :
    Calls Try.prog 49 #[.int .u64 X] w fun e w' => e = .returned (.int .i64 (heads X)) ∧ w = w' := by
  have Hc := Lib.hid (fun w => onesCount32 (X : Int) (by omega) (by omega) w)
  rw [Int.toNat_natCast] at Hc
  generalize heads X = hd at *
  go_enter Try.func49, Try.ntmps49
  go_wp2_with (first | (go_at_call 55; refine (Hc.out _).mono ?_; rintro e w' ⟨rfl, rfl⟩) | go_in)
  go_ret
  exact ⟨rfl, rfl⟩
set_option maxHeartbeats 1000000 in
theorem implSureMost (n : Int) (w : World) :
    Calls Try.prog 26 #[.int .i64 n] w fun e w' => e = .returned (.int .i64 (sureN n)) ∧ Below w.heap.size w w' := by
  by_cases h : 1 ≤ n ∧ n ≤ 5
  · have Hin : Hid (true = decide (1 ≤ n ∧ n ≤ 5)) := (decide_eq_true h).symm
    have Hv : Hid (sureN n = (n - 1) / 2) := by unfold Hid sureN; rw [if_pos h]
    obtain ⟨h1, h5⟩ := h
    go_enter Try.func26, Try.ntmps26
    go_wp2_with fail
    refine (implUnitsOk _ true Hin _).mono ?_
    rintro e w' ⟨rfl, rfl⟩
    go_wp2
    go_ret
    exact ⟨ret_int (by first | (rw [Hv.out]; done) | (rw [Hv.out]; go_num)), Below.refl _ _⟩
  · have Hin : Hid (false = decide (1 ≤ n ∧ n ≤ 5)) := (decide_eq_false h).symm
    have Hv : Hid (sureN n = -1) := by unfold Hid sureN; rw [if_neg h]
    clear h
    go_enter Try.func26, Try.ntmps26
    go_wp2_with fail
    refine (implUnitsOk _ false Hin _).mono ?_
    rintro e w' ⟨rfl, rfl⟩
    go_wp2
    go_ret
    exact ⟨ret_int (by rw [Hv.out]), Below.refl _ _⟩
set_option maxRecDepth 100000 in
set_option maxHeartbeats 4000000 in
theorem implFaultSets (rs : List RW) (m : Int) (B : Nat) (v : Value) (w : World) (hr : RdRows w B v rs) (_hB : B ≤ w.heap.size) :
    Calls Try.prog 19 #[v, .int .i64 m] w (OutN (setsN (rs.map (·.2)) m) w) := by
  obtain ⟨i0, hi, hz0, hz1, hz2⟩ := info_parts Try.info3
  have Hi := Lib.hid hi; clear hi
  have Hz0 := Lib.hid hz0; clear hz0
  have Hz1 := Lib.hid hz1; clear hz1
  have Hz2 := Lib.hid hz2; clear hz2
  have Hso := Lib.hid (fun w h => implSyndromeOk0 rs B v w h)
  have Hr := Lib.hid hr
  obtain ⟨wo, rfl⟩ : ∃ wo : World, wo = w := ⟨_, rfl⟩
  cases hs : synOk (rs.map (·.2)) with
  | false =>
    have Hf := Lib.hid (setsN_no (m := m) hs)
    rw [hs] at Hso
    clear hs hr
    go_enter Try.func19, Try.ntmps19
    go_wp2_with fail
    refine (Hso.out _ Hr.out).mono ?_
    rintro e w' ⟨rfl, rfl⟩
    go_wp2
    go_ret
    exact ⟨_, rfl, by rw [Hf.out]; exact World.ownsRow_nil _ _ _ _, Below.refl _ _⟩
  | true =>
    obtain ⟨hn5, hn1, _⟩ := syn_rows hs
    obtain ⟨N, hN⟩ : ∃ N, N = 2 ^ rs.length := ⟨_, rfl⟩
    have hlen : (rs.map (·.2)).length = rs.length := by simp
    have hN32 : N ≤ 32 := by rw [hN]; exact two32 hn5
    have Hcnt := Lib.hid (fun w => implSetCount rs.length N hn5 (Lib.hid hN) w)
    have Hf := Lib.hid (setsN_yes (m := m) hs)
    rw [hlen, ← hN] at Hf
    have Hin := Lib.hid (fun X (h : X < N) => fitsV_in hs (X := X) (by rw [hlen, ← hN]; exact h))
    have Hfit := Lib.hid (fun (X : Nat) w h => implFitsFaults0 rs X B v w h)
    obtain ⟨ao, cap, rfl⟩ : ∃ ao cap, v = .slice ao rs.length cap := by obtain ⟨a, c, h, _⟩ := hr; exact ⟨a, c, h⟩
    rw [hs] at Hso
    clear hs hr hN hlen
    generalize rs.map (·.2) = s at *
    have HF0 : Hid (setsF s m 0 = []) := setsF_zero s m
    have Hyes := Lib.hid (fun X h1 h2 => setsF_yes (s := s) (m := m) (N := X) h1 h2)
    have Hno1 := Lib.hid (fun X h1 => setsF_no1 (s := s) (m := m) (N := X) h1)
    have Hno2 := Lib.hid (fun X h2 => setsF_no2 (s := s) (m := m) (N := X) h2)
    have Hlen := Lib.hid (fun X => setsF_len s m X)
    generalize hnn : rs.length = n at *
    clear hnn
    go_enter Try.func19, Try.ntmps19
    go_wp2_with fail
    refine (Hso.out _ Hr.out).mono ?_
    rintro e w' ⟨rfl, rfl⟩
    go_wp2_with fail
    refine (Hcnt.out _).mono ?_
    rintro e w' ⟨rfl, rfl⟩
    go_wp2
    go_loopw [5, 6, 13] (fun v _ i wr => ∃ X : Nat, X ≤ N ∧ i = .int .i64 X ∧ wr.ownsRow wo.heap.size 3 1 v (setsF s m X).length (vals (setsF s m X)) ∧ Below wo.heap.size wo wr) (fun _ _ i _ => N - (intOf i).toNat)
    case atStart => exact ⟨0, Nat.zero_le _, rfl, by rw [HF0.out]; exact World.ownsRow_nil _ _ _ _, Below.refl _ _⟩
    case round =>
      obtain ⟨X, hX, rfl, hown, hbr⟩ := hrel
      have Hr1 := Lib.hid (Hr.out.below (w' := wr) (fun q hq => hbr.block q (by omega)))
      have hll := Hlen.out X
      have Hbr := Lib.hid hbr
      have hsr := hbr.size
      clear hbr
      by_cases hlt : X < N
      · have Hy := Lib.hid (Hyes.out X)
        have Hn1 := Lib.hid (Hno1.out X)
        have Hn2 := Lib.hid (Hno2.out X)
        have hc0 := fun w h => Hfit.out X w h
        rw [Hin.out X hlt] at hc0
        have Hc := Lib.hid hc0
        clear hc0
        have hls : (setsF s m (X + 1)).length ≤ X + 1 := Hlen.out (X + 1)
        have Hh := Lib.hid (fun w => onesCountU X (by omega) w)
        by_cases hm : (heads X : Int) ≤ m
        · cases hf : fitsN s X with
          | true =>
            have hs1 := Hy.out hm hf
            rw [hf] at Hc
            generalize setsF s m X = L at *
            generalize heads X = hd at *
            have Hs1 := Lib.hid hs1
            have Hl' := Lib.hid hls
            clear Hy Hn1 Hn2 hf hs1 hls
            go_wp2_with fail
            refine (Hh.out _).mono ?_
            rintro e w' ⟨rfl, rfl⟩
            go_wp2_with fail
            refine (Hc.out _ Hr1.out).mono ?_
            rintro e w' ⟨rfl, rfl⟩
            go_wp2_with (first
              | (at_builtin
                 refine wpList_append_own _ rfl (.tmp 26) (.tmp 28) 26 rfl wo.heap.size 3 i0 (.int .i64 0) 1 8 Try.underlying26 Hi.out Hz0.out Hz1.out Hz2.out rfl (by decide) _ _ _ rfl (hown.alloc _) ⟨_, 0, none⟩ 1 1 [.int .i64 X] rfl rfl (cell_one_new _ _ _) (by simp [Value.oneCell']) (by unfold maxLen; omega) (by omega) (by simp; omega) ?_
                 go_must (intro v' w1 hown' hgrow _
                          have Hb1 := Lib.hid ((Hbr.out.alloc hsr (.cells #[.int .i64 X] 3)).grown hgrow (by simp; omega) (fun k hk => (hown.lt k hk).1))
                          have Ho1 : Hid (w1.ownsRow wo.heap.size 3 1 v' (setsF s m (X + 1)).length (vals (setsF s m (X + 1)))) := by
                            unfold Hid; rw [Hs1.out, vals_snoc]; simpa using hown'
                          clear hown' hgrow hown))
              | fail)
            go_roundw
            case rel => exact ⟨X + 1, by omega, by go_num, Ho1.out, Hb1.out⟩
            case measure => simp [intOf]; omega
          | false =>
            have hs1 := Hn2.out hf
            rw [hf] at Hc
            have Hown : Hid (wr.ownsRow wo.heap.size 3 1 u5 (setsF s m (X + 1)).length (vals (setsF s m (X + 1)))) := by unfold Hid; rw [hs1]; exact hown
            generalize setsF s m X = L at *
            generalize heads X = hd at *
            clear Hy Hn1 Hn2 hf hs1 hls hown
            go_wp2_with fail
            refine (Hh.out _).mono ?_
            rintro e w' ⟨rfl, rfl⟩
            go_wp2_with fail
            refine (Hc.out _ Hr1.out).mono ?_
            rintro e w' ⟨rfl, rfl⟩
            go_wp2
            go_roundw
            case rel => exact ⟨X + 1, by omega, by go_num, Hown.out, Hbr.out⟩
            case measure => simp [intOf]; omega
        · have hs1 := Hn1.out (by omega)
          have Hown : Hid (wr.ownsRow wo.heap.size 3 1 u5 (setsF s m (X + 1)).length (vals (setsF s m (X + 1)))) := by unfold Hid; rw [hs1]; exact hown
          generalize setsF s m X = L at *
          generalize heads X = hd at *
          have hm' : m < (hd : Int) := by omega
          clear Hy Hn1 Hn2 hm hs1 hls hown Hc
          go_wp2_with fail
          refine (Hh.out _).mono ?_
          rintro e w' ⟨rfl, rfl⟩
          go_wp2
          go_roundw
          case rel => exact ⟨X + 1, by omega, by go_num, Hown.out, Hbr.out⟩
          case measure => simp [intOf]; omega
      · obtain rfl : X = N := Nat.le_antisymm hX (Nat.le_of_not_lt hlt)
        have Hown := Lib.hid hown
        clear hown
        go_wp2
        go_ret
        exact ⟨_, rfl, by rw [Hf.out]; exact Hown.out, Hbr.out⟩
set_option maxRecDepth 100000 in
set_option maxHeartbeats 2000000 in
theorem implOnlyFaults (rs : List RW) (B : Nat) (v : Value) (w : World) (hr : RdRows w B v rs) (hB : B ≤ w.heap.size) :
    Calls Try.prog 29 #[v] w fun e w' => e = .returned (.tuple #[.int .i64 (onlyFN (rs.map (·.2))), .bool (onlyFOk (rs.map (·.2)))]) ∧ Below w.heap.size w w' := by
  have Hc := Lib.hid (fun w1 (hb : Below w.heap.size w w1) => implFaultSets rs (sureN rs.length) B v w1 (hr.below (w' := w1) (fun q hq => hb.block q (by omega))) (by have := hb.size; omega))
  have Hyes : Hid (onlyFOk (rs.map (·.2)) = true → onlyFN (rs.map (·.2)) = ((setsN (rs.map (·.2)) (sureN rs.length)).getD 0 0 : Nat)) := fun h => by
    unfold onlyFN; rw [if_pos h, List.length_map]
  have Hno : Hid (onlyFOk (rs.map (·.2)) = false → onlyFN (rs.map (·.2)) = 0) := fun h => by
    unfold onlyFN; rw [if_neg (by rw [h]; simp)]
  have Heq : Hid (onlyFOk (rs.map (·.2)) = decide ((setsN (rs.map (·.2)) (sureN rs.length)).length = 1)) := by
    unfold Hid; rw [onlyF_eq, List.length_map]
  have hone : setsN (rs.map (·.2)) (sureN rs.length) ≠ [] → (setsN (rs.map (·.2)) (sureN rs.length)).length = 1 := fun h => by
    have := only_one (s := rs.map (·.2))
    rw [List.length_map] at this
    exact this h
  have Hone := Lib.hid hone
  have Hss := Lib.hid (fun w => implSureMost (rs.length : Int) w)
  obtain ⟨ao, cap, rfl⟩ : ∃ ao cap, v = .slice ao rs.length cap := by obtain ⟨a, c, h, _⟩ := hr; exact ⟨a, c, h⟩
  clear hr hone
  generalize setsN (rs.map (·.2)) (sureN rs.length) = L at *
  generalize onlyFN (rs.map (·.2)) = FN at *
  generalize onlyFOk (rs.map (·.2)) = FO at *
  generalize sureN rs.length = sn at *
  go_enter Try.func29, Try.ntmps29
  go_wp2_with fail
  refine (Hss.out _).mono ?_
  rintro e w1 ⟨rfl, hb1⟩
  have Hb1 := Lib.hid hb1
  clear hb1
  go_wp2_with fail
  refine (Hc.out _ Hb1.out).mono ?_
  rintro e w2 ⟨v2, rfl, ho, hb⟩
  have Hb := Lib.hid (Hb1.out.trans (hb.mono Hb1.out.size))
  have hrd := RdInts.of_own (zs := nums L) (by rw [show (nums L).length = L.length by simp [nums], ← vals_nums]; exact ho)
  have hnl : (nums L).length = L.length := by simp [nums]
  obtain ⟨a2, c2, hv2, hl2, hm2, hcell⟩ := hrd
  rw [hnl] at hv2 hl2 hcell
  unfold maxLen at hm2
  by_cases h1 : L.length = 1
  · have hfo : FO = true := by rw [Heq.out]; exact decide_eq_true h1
    have Hfn := Lib.hid (Hyes.out hfo)
    obtain ⟨b, off, rfl, _, hc1⟩ := hcell 0 (by omega)
    rw [h1] at hv2 hl2
    subst hv2
    have hX : (nums L).getD 0 0 = ((L.getD 0 0 : Nat) : Int) := by
      obtain ⟨X, rfl⟩ := List.length_eq_one_iff.1 h1
      rfl
    rw [hX, Nat.add_zero] at hc1
    generalize L.getD 0 0 = X at *
    subst hfo
    clear ho hb Heq Hyes Hno hcell h1 hnl hX Hc Hone
    go_wp2
    go_ret2
    exact ⟨by rw [Hfn.out]; rfl, Hb.out⟩
  · have hfo : FO = false := by rw [Heq.out]; exact decide_eq_false h1
    have Hfn := Lib.hid (Hno.out hfo)
    have hl0 : L = [] := Classical.byContradiction fun h => h1 (Hone.out h)
    have hn0 : L.length = 0 := by rw [hl0]; rfl
    rw [hn0] at hv2 hl2
    subst hv2
    subst hfo
    clear ho hb Heq Hyes Hno hcell hnl Hc Hone h1 hl0 hn0
    go_wp2
    go_ret2
    exact ⟨by rw [Hfn.out]; rfl, Hb.out⟩
set_option maxRecDepth 100000 in
set_option maxHeartbeats 2000000 in
theorem implVotesAgainst (rs : List RW) (u : Int) (B : Nat) (v : Value) (w : World) (hr : RdRows w B v rs) (_hB : B ≤ w.heap.size) :
    Calls Try.prog 32 #[v, .int .i64 u] w fun e w' => e = .returned (.int .i64 (votesN (rs.map (·.2)) u)) ∧ Below w.heap.size w w' := by
  have Hso := Lib.hid (implSyndromeOk0 rs B v w hr)
  cases hs : synOk (rs.map (·.2)) with
  | false =>
    have Hf := Lib.hid (votesN_no (u := u) hs)
    rw [hs] at Hso
    obtain ⟨ao, cap, rfl⟩ : ∃ ao cap, v = .slice ao rs.length cap := by obtain ⟨a, c, h, _⟩ := hr; exact ⟨a, c, h⟩
    clear hs hr
    go_enter Try.func32, Try.ntmps32
    go_wp2_with fail
    refine Hso.out.mono ?_
    rintro e w' ⟨rfl, rfl⟩
    go_wp2
    go_ret
    exact ⟨ret_int (by rw [Hf.out]), Below.refl _ _⟩
  | true =>
    obtain ⟨hn5, hn1, hlens⟩ := syn_rows hs
    have hlen : (rs.map (·.2)).length = rs.length := by simp
    have Hget := Lib.hid (fun j (hj : j < rs.length) => hr.get hj)
    have Hlens := Lib.hid hlens
    have Htold := Lib.hid (told_rows rs)
    have Hrange : Hid (∀ k U, k < rs.length → U < rs.length → 0 ≤ toldE (rs.map (·.2)) k U ∧ toldE (rs.map (·.2)) k U ≤ 1) := fun k U hk hU => by
      have := ((synOk_iff.1 hs).1 k (by rw [hlen]; exact hk)).2 U (by rw [hlen]; exact hU)
      exact this.1
    rw [hs] at Hso
    by_cases hu : 0 ≤ u ∧ u < (rs.length : Int)
    · obtain ⟨U, rfl⟩ := Int.eq_ofNat_of_zero_le hu.1
      have hU : U < rs.length := by omega
      have Hf := Lib.hid (votesN_yes hs (by rw [hlen]; exact hU))
      rw [hlen] at Hf
      obtain ⟨ao, cap, rfl, hl, hm, _, hc0⟩ := hr
      have Hc := Lib.hid hc0
      unfold maxLen at hm
      clear hs hlens hc0 hu
      generalize rs.map (·.2) = s at *
      have Hvs := Lib.hid (fun k => votesF_succ s U k)
      have Hv0 : Hid (votesF s U 0 = 0) := votesF_zero s U
      generalize hn : rs.length = n at *
      clear hn hlen
      go_enter Try.func32, Try.ntmps32
      go_wp2_with fail
      refine Hso.out.mono ?_
      rintro e w' ⟨rfl, rfl⟩
      go_wp2
      go_loop [5, 7, 23] (fun q _ i => ∃ (k : Nat) (z : Int), k ≤ n ∧ i = .int .i64 k ∧ q = .int .i64 z ∧ Hid (z = votesF s U k) ∧ 0 ≤ z ∧ z ≤ k) (fun _ _ i => n - (intOf i).toNat)
      case atStart => exact ⟨0, 0, Nat.zero_le _, rfl, rfl, Hv0.out.symm, by omega, by omega⟩
      case round =>
        obtain ⟨k, z, hk, rfl, rfl, hz, hz0, hz1⟩ := hrel
        by_cases hlt : k < n
        · obtain ⟨b, off, rfl, _, hcell⟩ := Hc.out k hlt
          have hrk := Hget.out k hlt
          have hlk := Hlens.out k hlt
          have htk := Htold.out k U
          have hrg := Hrange.out k U hlt hU
          have hvs := Hvs.out k
          generalize rs.getD k rw0 = q at *
          obtain ⟨u2, zs⟩ := q
          obtain ⟨ao2, cap2, hu2, hzl, hzm, hzc⟩ := hrk
          dsimp only at hcell hu2 hzl hzc hlk htk
          subst hu2
          unfold maxLen at hzm
          obtain ⟨b2, off2, rfl, _, hc2⟩ := hzc U (by omega)
          rw [← htk] at hc2
          rw [hlk] at hcell hzl
          generalize toldE s k U = t at *
          have Hvs2 : Hid (z + t = votesF s U (k + 1)) := by unfold Hid; rw [hvs, hz.out]
          clear hvs hzc hlk htk
          go_wp2
          go_round
          case rel => exact ⟨k + 1, z + t, by omega, by go_num, rfl, Hvs2, by omega, by omega⟩
          case measure => simp [intOf]; omega
        · obtain rfl : k = n := Nat.le_antisymm hk (Nat.le_of_not_lt hlt)
          go_wp2
          go_ret
          exact ⟨ret_int (by rw [Hf.out, hz.out]), Below.refl _ _⟩
    · have Hf := Lib.hid (votesN_out (s := rs.map (·.2)) (u := u) (by rw [hlen]; omega))
      obtain ⟨ao, cap, rfl⟩ : ∃ ao cap, v = .slice ao rs.length cap := by obtain ⟨a, c, h, _⟩ := hr; exact ⟨a, c, h⟩
      clear hs hlens hr
      by_cases h0 : u < 0
      all_goals
        go_enter Try.func32, Try.ntmps32
        go_wp2_with fail
        refine Hso.out.mono ?_
        rintro e w' ⟨rfl, rfl⟩
        go_wp2
        go_ret
        exact ⟨ret_int (by rw [Hf.out]), Below.refl _ _⟩
theorem Fill.drewN {w : World} {base g0 g n X W k j : Nat} {rs : List RW} (h : Fill w base g0 g n X W k j rs) (d : Nat) : Fill (w.drewN d) base g0 g n X W k j rs := ⟨h.rows, h.far, h.made, h.at_⟩
theorem Fill.drew {w : World} {base g0 g n X W k j : Nat} {rs : List RW} (h : Fill w base g0 g n X W k j rs) : Fill w.drew base g0 g n X W k j rs := ⟨h.rows, h.far, h.made, h.at_⟩
theorem below_drewF {B : Nat} {a w : World} (h : Below B a w) : Below B a w.drew := ⟨h.os, h.tape, h.output, h.size, h.block⟩
theorem made_right {n X W k j : Nat} (hb : X.testBit k = false) : madeE n X W k j = bitI X j := by
  by_cases hjk : j = k
  · rw [hjk, madeE_own, bitI_no hb]
  · exact madeE_right hjk hb
theorem fill_frozen {w : World} {base g0 g n X W k j : Nat} {rs : List RW} (h : Fill w base g0 g n X W k j rs) (hk : k < n) (hj : j ≤ n) (i : Nat) : w.frozen? ⟨g, i, none⟩ = false := (h.base hk hj).frozenAt i
set_option maxRecDepth 100000 in
set_option maxHeartbeats 8000000 in
theorem implMadeSyndrome (n x wd : Int) (hwd : -9223372036854775808 ≤ wd ∧ wd ≤ 9223372036854775807) (w : World) :
    Calls Try.prog 35 #[.int .i64 n, .int .i64 x, .int .i64 wd] w (OutRows (madeV n x wd) w) := by
  have hempty : ∀ w : World, OutRows [] w (.returned (.slice none 0 0)) w := fun w =>
    ⟨_, [], rfl, rfl, ⟨World.ownsRow_nil _ _ _ _, fun r hr => by simp at hr⟩, Apart9.nil, Below.refl _ _⟩
  have Hempty := Lib.hid hempty; clear hempty
  by_cases hn : 1 ≤ n ∧ n ≤ 5
  case neg =>
    have Hs := Lib.hid (fun w => implSetOk_units n x hn w)
    have hv := madeV_no (madeOk_n (x := x) (w := wd) hn)
    rw [hv]
    clear hv hn
    go_enter Try.func35, Try.ntmps35
    go_wp2_with fail
    refine (Hs.out _).mono ?_
    rintro e w' ⟨rfl, rfl⟩
    go_wp2
    go_ret
    exact Hempty.out _
  obtain ⟨n, rfl⟩ := Int.eq_ofNat_of_zero_le (show 0 ≤ n by omega)
  obtain ⟨N, hN⟩ : ∃ N, N = 2 ^ n := ⟨_, rfl⟩
  have hn5 : n ≤ 5 := by omega
  have hn1 : 1 ≤ n := by omega
  have hN32 : N ≤ 32 := by rw [hN]; exact two32 hn5
  have Hset := Lib.hid (fun b hb w => implSetOk n x N hn1 hn5 (Lib.hid hN) b hb w)
  clear hn
  by_cases hx : 0 ≤ x ∧ x ≤ (N : Int) - 1
  case neg =>
    have Hs := Lib.hid (fun w => Hset.out false (decide_eq_false hx).symm w)
    have e2 : ((2 : Int) ^ n) = (N : Int) := by rw [hN]; simp
    have hv := madeV_no (madeOk_x (n := (n : Int)) (x := x) (w := wd) (fun h => by
      rw [Int.toNat_natCast, e2] at h
      exact hx ⟨h.1, by omega⟩))
    clear e2
    rw [hv]
    clear hv hx hN Hset
    go_enter Try.func35, Try.ntmps35
    go_wp2_with fail
    refine (Hs.out _).mono ?_
    rintro e w' ⟨rfl, rfl⟩
    go_wp2
    go_ret
    exact Hempty.out _
  obtain ⟨X, rfl⟩ := Int.eq_ofNat_of_zero_le hx.1
  have Hs := Lib.hid (fun w => Hset.out true (decide_eq_true hx).symm w)
  have hXN : X < N := by omega
  have hX64 : X < 64 := by omega
  clear hx Hset
  by_cases hw0 : 0 ≤ wd
  case neg =>
    have hv := madeV_no (madeOk_w (n := (n : Int)) (x := (X : Int)) hw0)
    have hw1 : wd < 0 := by omega
    rw [hv]
    clear hv hw0 hN
    go_enter Try.func35, Try.ntmps35
    go_wp2_with fail
    refine (Hs.out _).mono ?_
    rintro e w' ⟨rfl, rfl⟩
    go_wp2
    go_ret
    exact Hempty.out _
  obtain ⟨W, rfl⟩ := Int.eq_ofNat_of_zero_le hw0
  clear hw0
  have Hv := Lib.hid (madeV_yes (W := W) hn1 hn5 (by rw [← hN]; exact hXN))
  obtain ⟨i0, hi, hz0, hz1, hz2⟩ := info_parts Try.info3
  have Hi := Lib.hid hi; clear hi
  have Hz0 := Lib.hid hz0; clear hz0
  have Hz1 := Lib.hid hz1; clear hz1
  have Hz2 := Lib.hid hz2; clear hz2
  obtain ⟨j0, hj, hy0, hy1, hy2⟩ := info_parts Try.infoI
  have Hj := Lib.hid hj; clear hj
  have Hy0 := Lib.hid hy0; clear hy0
  have Hy1 := Lib.hid hy1; clear hy1
  have Hy2 := Lib.hid hy2; clear hy2
  have hW63 : W ≤ 9223372036854775807 := by have := hwd.2; omega
  have Hlz := Lib.hid (leftW_zero n X W)
  have Hll := Lib.hid (fun k j => leftW_le n X W k j)
  have Hrz := Lib.hid (fun k => rowTo_zero n X W k)
  clear hN hwd hXN hN32
  obtain ⟨wo, rfl⟩ : ∃ wo : World, wo = w := ⟨_, rfl⟩
  go_enter Try.func35, Try.ntmps35
  go_wp2_with fail
  refine (Hs.out _).mono ?_
  rintro e w' ⟨rfl, rfl⟩
  go_wp2_with (at_make; refine wpList_make_full _ rfl _ _ 23 rfl wo.heap.size 26 j0 (.slice none 0 0) 1 Try.underlying23 Hj.out Hy0.out Hy1.out _ _ _ _ n rfl rfl rfl rfl ?b1 ?b2 ?b3 ?_)
  case b1 => rw [Hy2.out]; omega
  case b2 => unfold maxLen; omega
  case b3 => exact Nat.le_refl _
  intro w1 hown hgrow
  have hb1 : Below wo.heap.size wo w1 := (Below.refl _ _).grown hgrow (Nat.le_refl _) (fun k hk => by cases hk)
  clear hgrow
  have hown0 : w1.ownsRow wo.heap.size 26 1 (.slice (some ⟨wo.heap.size, 0, none⟩) n n) n (List.replicate n (.slice none 0 0)) := by
    have e : (madeCells #[Value.slice none 0 0] n).toList = List.replicate n (.slice none 0 0) := toList_madeCells_one _ _
    rw [← e]; simpa [Value.cells] using hown
  clear hown
  have Hown0 := Lib.hid (rows_new hown0)
  have Hb1 := Lib.hid hb1
  clear hown0 hb1
  obtain ⟨g0, hg0⟩ : ∃ g0, g0 = wo.heap.size := ⟨_, rfl⟩
  rw [← hg0]
  rw [← hg0] at Hown0
  have Hg0 := Lib.hid hg0
  clear hg0
  go_wp2
  go_loopw [2, 8, 9, 22] (fun q _ _ i wr => ∃ (k : Nat) (rs : List RW), k ≤ n ∧ i = .int .i64 k ∧ q = .int .i64 (leftW n X W k 0 : Nat) ∧ MadeTo n X W k rs ∧ RowsIn wr g0 (.slice (some ⟨g0, 0, none⟩) n n) rs ∧ Apart9 rs ∧ Below wo.heap.size wo wr)
    (fun _ _ _ i _ => n - (intOf i).toNat)
  case atStart => exact ⟨0, _, Nat.zero_le _, rfl, by rw [Hlz.out], madeTo_new n X W, Hown0.out, apart_new n, Hb1.out⟩
  case round =>
    obtain ⟨k, rs, hk, rfl, rfl, hmt, hri, hap, hbr⟩ := hrel
    have Hmt := Lib.hid hmt
    have Hri := Lib.hid hri
    have Hap := Lib.hid hap
    have Hbr := Lib.hid hbr
    have hsr := hbr.size
    clear hmt hri hap hbr Hown0 Hb1
    by_cases hlt : k < n
    · have hk64 : k < 64 := by omega
      have hlk := Hll.out k 0
      have Hrow := Lib.hid (leftW_row (X := X) (w := W) hlt)
      go_wp2_with (at_make; refine wpList_make_full _ rfl _ _ 26 rfl wr.heap.size 3 i0 (.int .i64 0) 1 Try.underlying26 Hi.out Hz0.out Hz1.out _ _ _ _ n rfl rfl rfl rfl ?b1 ?b2 ?b3 ?_)
      case b1 => rw [Hz2.out]; omega
      case b2 => unfold maxLen; omega
      case b3 => exact Nat.le_refl _
      intro w1 hown hgrow
      have hb1 : Below wr.heap.size wr w1 := (Below.refl _ _).grown hgrow (Nat.le_refl _) (fun k hk => by cases hk)
      clear hgrow
      have hown0 : w1.ownsRow wr.heap.size 3 1 (.slice (some ⟨wr.heap.size, 0, none⟩) n n) n (ints (rowTo n X W k 0)) := by
        have e : (madeCells #[Value.int .i64 0] n).toList = ints (rowTo n X W k 0) := by
          rw [toList_madeCells_one, Hrz.out]; simp [ints]
        rw [← e]; simpa [Value.cells] using hown
      clear hown
      have hbase : g0 ≤ wr.heap.size := by rw [Hg0.out]; exact hsr
      have hr1 := Hri.out.below hb1
      have hl1 := Hmt.out.len
      have h11 := hr1.1
      rw [hl1] at h11
      have hck := h11.cellAt k (by omega)
      have hfk := h11.frozenAt k
      obtain ⟨uo, huo⟩ : ∃ u, w1.cell? ⟨g0, k, none⟩ = some u := ⟨_, by rw [hck]; exact List.getElem?_eq_getElem (by simp; omega)⟩
      obtain ⟨rs1, hfill⟩ := fill_new Hri.out Hap.out Hmt.out hlt hb1 hbase hown0
      have hbw1 : Below wo.heap.size wo (w1.setCell ⟨g0, k, none⟩ (.slice (some ⟨wr.heap.size, 0, none⟩) n n)) := (Hbr.out.trans (hb1.mono hsr)).setCell (by show wo.heap.size ≤ g0; rw [Hg0.out]; exact Nat.le_refl _) _
      clear hown0 hr1 h11 hck hb1 hl1
      obtain ⟨g, hg⟩ : ∃ g, g = wr.heap.size := ⟨_, rfl⟩
      rw [← hg] at hfill hbw1
      rw [← hg]
      clear hg
      go_upto_region 8 with fail
      obtain ⟨w2, hw2⟩ : ∃ w2 : World, w2 = w1.setCell ⟨g0, k, none⟩ (.slice (some ⟨g, 0, none⟩) n n) := ⟨_, rfl⟩
      rw [← hw2] at hfill hbw1
      first
        | rw [← hw2]
        | (rw [Nat.zero_add, ← hw2])
        | skip
      have hout := hfill.outer hlt
      have Hfill := Lib.hid hfill
      have Hbw1 := Lib.hid hbw1
      clear hw2 hfill hbw1 huo hfk
      go_wp2
      go_loopw [2, 9, 35] (fun q _ i wr => ∃ (j : Nat) (rs : List RW), j ≤ n ∧ i = .int .i64 j ∧ q = .int .i64 (leftW n X W k j : Nat) ∧ Fill wr g0 g0 g n X W k j rs ∧ Below wo.heap.size wo wr)
        (fun _ _ i _ => n - (intOf i).toNat)
      case atStart => exact ⟨0, rs1, Nat.zero_le _, rfl, rfl, Hfill.out, Hbw1.out⟩
      case round =>
        obtain ⟨j, rs2, hj, rfl, rfl, hfill2, hb2⟩ := hrel
        have Hb2 := Lib.hid hb2
        have Hfill2 := Lib.hid hfill2
        have hllj := Hll.out k j
        clear hb2 hout Hfill Hbw1
        by_cases hjl : j < n
        · have hj64 : j < 64 := by omega
          have hout := hfill2.outer hlt
          cases hbk : X.testBit k with
          | false =>
            have Hbr1 := Lib.hid (fun w => implBrokenIn X k hX64 hk64 0 (bitI_no hbk) w)
            have Hsame := Lib.hid (leftW_right (n := n) (w := W) (j := j) hbk)
            have hval := made_right (n := n) (W := W) (j := j) hbk
            have Hbr2 := Lib.hid (fun w => implBrokenIn X j hX64 hj64 _ (rfl : bitI X j = bitI X j) w)
            generalize bitI X j = y at *
            obtain ⟨uu, hcu⟩ := hfill2.cell hlt hj hjl
            have hfz := fill_frozen hfill2 hlt hj j
            have Hst : Hid (∀ d, ∃ rs', Fill ((wr.drewN d).setCell ⟨g, j, none⟩ (.int .i64 y)) g0 g0 g n X W k (j + 1) rs') := fun d => ((hfill2.drewN d).store hlt hjl hval).1
            have hgg := (hfill2.store hlt hjl hval).2
            have Hb3 : Hid (∀ d, Below wo.heap.size wo ((wr.drewN d).setCell ⟨g, j, none⟩ (.int .i64 y))) := fun d => (below_drewN9 Hb2.out d).setCell (by show wo.heap.size ≤ g; rw [← Hg0.out]; exact hgg) _
            clear hfill2 hval hbk hgg
            generalize leftW n X W k j = L at *
            go_wp2_with fail
            refine (Hbr1.out _).mono ?_
            rintro e w' ⟨rfl, rfl⟩
            go_upto_region 12 with fail
            have hkeep : (wr.setCell ⟨g, j, none⟩ (.int .i64 y)).cell? ⟨g0, k, none⟩ = some (.slice (some ⟨g, 0, none⟩) n n) := by
              obtain ⟨rs3, h3⟩ := Hst.out 0
              exact h3.outer hlt
            go_region_held3 (fun w' => w'.cell? ⟨g0, k, none⟩ = some (.slice (some ⟨g, 0, none⟩) n n))
              (first | exact hkeep | go_keep | assumption)
              (first
                | (go_at_call 45
                   (with_reducible refine (Hbr2.out _).mono ?_)
                   rintro e w' ⟨rfl, rfl⟩)
                | fail)
            all_goals go_wp2
            all_goals
              go_roundw
              case rel =>
                obtain ⟨rs3, h3⟩ := Hst.out 0
                exact ⟨j + 1, rs3, by omega, by go_num, by rw [Hsame.out], h3.drew, below_drewF (Hb3.out 0)⟩
              case measure => simp [intOf]; omega
          | true =>
            have Hbr1 := Lib.hid (fun w => implBrokenIn X k hX64 hk64 1 (bitI_yes hbk) w)
            by_cases hjk : j = k
            · have hjk' : ((j : Int) != (k : Int)) = false := by rw [bne_eq_false_iff_eq]; omega
              have hsame : leftW n X W k (j + 1) = leftW n X W k j := by rw [hjk]; exact leftW_same
              have Hsame := Lib.hid hsame
              have Hsk := Lib.hid (hfill2.skip hjl (by rw [hjk]; exact madeE_own n X W k))
              clear hsame hjk hbk hfill2
              generalize leftW n X W k j = L at *
              go_wp2_with fail
              refine (Hbr1.out _).mono ?_
              rintro e w' ⟨rfl, rfl⟩
              go_wp2
              go_roundw
              case rel => exact ⟨j + 1, rs2, by omega, by go_num, by rw [Hsame.out], Hsk.out, Hb2.out⟩
              case measure => simp [intOf]; omega
            · have hjk' : ((j : Int) != (k : Int)) = true := by rw [bne_iff_ne]; omega
              have Hnext := Lib.hid (leftW_next (n := n) (w := W) hbk hjk)
              have hval := madeE_wrong (n := n) (w := W) hjk hbk
              rw [show W / 2 ^ usedW n X k j = leftW n X W k j from leftW_def n X W k j] at hval
              generalize leftW n X W k j = L at *
              have hand := and_low (L := L) (by omega)
              have ht3 : (L : Int) / 2 ^ 1 = ((L / 2 : Nat) : Int) := by omega
              have ht4 : (L : Int) / 2 = ((L / 2 : Nat) : Int) := by omega
              obtain ⟨uu, hcu⟩ := hfill2.cell hlt hj hjl
              have hfz := fill_frozen hfill2 hlt hj j
              have Hst := Lib.hid (hfill2.store hlt hjl hval).1
              have hgg := (hfill2.store hlt hjl hval).2
              have Hb3 : Hid (Below wo.heap.size wo (wr.setCell ⟨g, j, none⟩ (.int .i64 ((L % 2 : Nat) : Int)))) := Hb2.out.setCell (by show wo.heap.size ≤ g; rw [← Hg0.out]; exact hgg) _
              have hL2 : L / 2 ≤ 9223372036854775807 := by omega
              have hL0 : L % 2 ≤ 1 := by omega
              clear hfill2 hval hbk hgg hjk
              generalize L % 2 = lm at *
              generalize L / 2 = ld at *
              go_wp2_with fail
              refine (Hbr1.out _).mono ?_
              rintro e w' ⟨rfl, rfl⟩
              go_wp2
              obtain ⟨rs3, hrs3⟩ := Hst.out
              go_roundw
              case rel => exact ⟨j + 1, rs3, by omega, by go_num, by rw [Hnext.out], hrs3, Hb3.out⟩
              case measure => simp [intOf]; omega
        · obtain rfl : j = n := Nat.le_antisymm hj (Nat.le_of_not_lt hjl)
          have Hd := Lib.hid hfill2.done
          clear hfill2
          go_wp2
          go_roundw
          case rel => exact ⟨k + 1, rs2, by omega, by go_num, by rw [Hrow.out], Hd.out, Hfill2.out.rows, Hfill2.out.far, Hb2.out⟩
          case measure => simp [intOf]; omega
    · obtain rfl : k = n := Nat.le_antisymm hk (Nat.le_of_not_lt hlt)
      have hg0 := Hg0.out
      subst hg0
      go_wp2
      go_ret
      exact ⟨_, rs, rfl, by rw [Hv.out]; exact Hmt.out.all, Hri.out, Hap.out, Hbr.out⟩
end Go.Proofs.Ytnkgbolgcmjadaa
