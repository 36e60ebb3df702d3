/- A law of chapter 2: each person who is read has a letter. It answers true, whatever the code. No condition. The three tables of Go's library are laid; no walk reads them. -/
import Derived.Test.YtmcdfbjmbelklaaDoorDrawN
import Derived.Test.YtmcdfbjmbelklaaDoorMarksC
import Derived.Test.YtmcdfbjmbelklaaDoorTextS
import Derived.Test.YtmcdfbjmbelklaaDoorLawsA
import Derived.Test.YtmcdfbjmbelklaaDoorDoor
namespace Go.Proofs.YtmcdfbjmbelklaaDoor
open Go.RowKit Go.Joins
theorem mem_within {c : UInt8} (h1 : c ≠ 40) (h2 : c ≠ 41) (l : List UInt8) (a m : Int) : c ∈ within l a m ↔ c ∈ l := by
  unfold within
  split <;> simp [h1, h2]
theorem mem_txt {p : Int} (hp : p ≤ 4) {k : Nat} (hk : k < 4) : ∀ t : Tm, t.ok p → (UInt8.ofNat (97 + k) ∈ txt t ↔ ((0 : Int), (k : Int)) ∈ t.post)
  | .leaf c x, h => by
    have hk' : k = 0 ∨ k = 1 ∨ k = 2 ∨ k = 3 := by omega
    simp only [Tm.ok] at h
    rcases h with ⟨rfl, h0, h1⟩ | ⟨rfl, h0, h1⟩
    · have hx : x = 0 ∨ x = 1 ∨ x = 2 ∨ x = 3 := by omega
      rcases hx with rfl | rfl | rfl | rfl <;> rcases hk' with rfl | rfl | rfl | rfl <;> simp [txt, Tm.post]
    · have hx : x = 0 ∨ x = 1 ∨ x = 2 ∨ x = 3 ∨ x = 4 ∨ x = 5 := by omega
      rcases hx with rfl | rfl | rfl | rfl | rfl | rfl <;> rcases hk' with rfl | rfl | rfl | rfl <;> simp [txt, Tm.post]
  | .un t, h => by
    have ih := mem_txt hp hk t (by simpa only [Tm.ok] using h)
    have hk' : k = 0 ∨ k = 1 ∨ k = 2 ∨ k = 3 := by omega
    rw [txt, Tm.post, List.mem_cons, List.mem_append, ← ih, mem_within]
    · rcases hk' with rfl | rfl | rfl | rfl <;> simp
    · rcases hk' with rfl | rfl | rfl | rfl <;> decide
    · rcases hk' with rfl | rfl | rfl | rfl <;> decide
  | .bin c a b, h => by
    simp only [Tm.ok] at h
    obtain ⟨h3, h5, ha, hb⟩ := h
    have iha := mem_txt hp hk a ha
    have ihb := mem_txt hp hk b hb
    have hk' : k = 0 ∨ k = 1 ∨ k = 2 ∨ k = 3 := by omega
    have hc : c = 3 ∨ c = 4 ∨ c = 5 := by omega
    have n0 : ¬ (0 : Int) = c := by omega
    have hs : UInt8.ofNat (97 + k) ≠ sign c := by
      rcases hc with rfl | rfl | rfl <;> rcases hk' with rfl | rfl | rfl | rfl <;> decide
    have e40 : UInt8.ofNat (97 + k) ≠ 40 := by rcases hk' with rfl | rfl | rfl | rfl <;> decide
    have e41 : UInt8.ofNat (97 + k) ≠ 41 := by rcases hk' with rfl | rfl | rfl | rfl <;> decide
    rw [txt, Tm.post, List.mem_append, List.mem_append, List.mem_append, List.mem_cons, ← iha, ← ihb, mem_within e40 e41, mem_within e40 e41]
    generalize UInt8.ofNat (97 + k) = ch at *
    simp [n0, hs]
theorem readN_bit (k : Nat) : ∀ (ms : List (Int × Int)) (n : Nat), (∀ m ∈ ms, m.1 = 0 → 0 ≤ m.2) → (ms.foldl rdStep n).testBit k = (n.testBit k || decide (((0 : Int), (k : Int)) ∈ ms))
  | [], n, _ => by simp
  | (c, x) :: r, n, h => by
    rw [List.foldl_cons, readN_bit k r _ (fun m hm => h m (by simp [hm]))]
    have h1 := h (c, x) (by simp)
    unfold rdStep
    dsimp only at h1 ⊢
    by_cases hc : c = 0
    · subst hc
      have h2 := h1 rfl
      obtain ⟨y, rfl⟩ := Int.eq_ofNat_of_zero_le h2
      rw [if_pos rfl, Nat.testBit_or, Nat.one_shiftLeft, Nat.testBit_two_pow]
      simp only [Int.toNat_natCast, List.mem_cons, Prod.mk.injEq, true_and, Int.natCast_inj]
      rw [Bool.or_assoc]
      congr 1
      rw [← Bool.decide_or]
      congr 1
      rw [eq_comm (a := y)]
    · rw [if_neg hc]
      have : ¬ (0 : Int) = c := fun e => hc e.symm
      simp [this]
theorem letters {p : Int} {ms : List (Int × Int)} (h : termOk p ms = true) : p ≤ 4 ∧ readN ms < 2 ^ p.toNat ∧ 1 ≤ (textV p ms).length ∧ (textV p ms).length ≤ 75 ∧ ∀ k, k < 4 → decide (UInt8.ofNat (97 + k) ∈ textV p ms) = (readN ms).testBit k := by
  have hmk := termOk_mkOk h
  obtain ⟨⟨hp1, hp4⟩, hlen, t, ht, rfl⟩ := termOk_iff.1 h
  have hlt := readN_lt hp1 hp4 hmk
  rw [textV_of h ht]
  have hl := txt_len t
  refine ⟨hp4, hlt, ?_, by omega, fun k hk => ?_⟩
  · cases t with
    | leaf c x => rw [txt]; split <;> simp
    | un t => simp [txt]
    | bin c a b => simp [txt]; omega
  · have h1 := mem_txt hp4 hk t ht
    have h2 := readN_bit k t.post 0 (fun m hm h0 => by
      have := hmk m hm
      unfold mkOk at this
      rw [decide_eq_true_eq] at this
      omega)
    show _ = (t.post.foldl rdStep 0).testBit k
    rw [h2, Nat.zero_testBit, Bool.false_or]
    exact decide_eq_decide.2 h1
theorem sign_eq {T : List UInt8} {j : Nat} (h : j < T.length) (h' : j < (⟨T.toArray⟩ : ByteArray).size) (k : Nat) :
    (wrap64 (((⟨T.toArray⟩ : ByteArray)[j]'h').toNat : Int) == 97 + (k : Int)) = decide (((T.getD j 0).toNat : Int) = 97 + (k : Int)) := by
  have e : (⟨T.toArray⟩ : ByteArray)[j]'h' = T.getD j 0 := by
    show T.toArray[j]'(by simpa using h) = _
    simp [List.getD, h]
  have hb := (T.getD j 0).toNat_lt
  have hw := IntWalk.i64_in ((T.getD j 0).toNat : Int) (by omega)
  have hw' : wrap64 ((T.getD j 0).toNat : Int) = ((T.getD j 0).toNat : Int) := by unfold wrap64; omega
  rw [e, hw']
  rfl
def sn (T : List UInt8) (k j : Nat) : Bool := decide (UInt8.ofNat (97 + k) ∈ T.take j)
theorem sn_zero (T : List UInt8) (k : Nat) : sn T k 0 = false := by simp [sn]
theorem sn_all (T : List UInt8) (k : Nat) : sn T k T.length = decide (UInt8.ofNat (97 + k) ∈ T) := by simp [sn]
theorem sn_succ {T : List UInt8} {k j : Nat} (hk : k < 4) (hj : j < T.length) : sn T k (j + 1) = (sn T k j || decide (((T.getD j 0).toNat : Int) = 97 + (k : Int))) := by
  unfold sn
  rw [take_snoc 0 T j hj]
  have e : (UInt8.ofNat (97 + k) = T.getD j 0) ↔ (((T.getD j 0).toNat : Int) = 97 + (k : Int)) := by
    constructor
    · intro h
      rw [← h]
      simp
      omega
    · intro h
      have h' : (T.getD j 0).toNat = 97 + k := by omega
      rw [← h']
      simp
  simp only [List.mem_append, List.mem_singleton, Bool.decide_or]
  congr 1
  exact decide_eq_decide.2 e
end Go.Proofs.YtmcdfbjmbelklaaDoor

namespace Go.Proofs.YtmcdfbjmbelklaaDoor.fnPeopleRead
open Go.ChangeShapes Go.WideShapes Go.ChangeAt Go.RowKit Go.Joins
attribute [local irreducible] txt textV readN sn
open Go.ChangeMaps (open_string shut_string)
set_option linter.unusedVariables false
set_option maxRecDepth 100000 in
set_option maxHeartbeats 2000000 in
theorem walk (a0 : Value) (n0 : Nat) (w : World) (w0 : RdBytes w w.heap.size a0 n0) :
    Calls Tryd.prog 5 #[a0] w fun e w' => e = .returned (.bool true) ∧ Below w.heap.size w w' := by
  have hr := w0
  by_cases hbig : n0 ≤ 1048576
  case neg =>
    obtain ⟨ao, cap, rfl, hl, hm, hc⟩ := w0
    have hbig' := code_big hbig
    unfold maxLen at hm
    clear hc hr hbig
    go_enter Tryd.func5, Tryd.ntmps5
    go_wp2
    go_ret
    exact ⟨rfl, Below.refl _ _⟩
  have hbig' : (n0 : Int) ≤ 1048576 := by omega
  clear hbig
  obtain ⟨ao, cap, rfl, hl, hm, hc⟩ := w0
  have Hr := Lib.hid hr
  clear hc hr hl hm
  go_enter Tryd.func5, Tryd.ntmps5
  go_wp2_with fail
  refine (drawPeopleRead _ _ _ Hr.out).mono ?_
  rintro e w1 ⟨p, g, n, cp, ms, hp1, hp8, rfl, hlen, hown, hi, hn, hB⟩
  have Hlen := Lib.hid hlen; clear hlen
  have Hi := Lib.hid hi; clear hi
  have hrd : RdMarks w1 w1.heap.size (.slice (some ⟨g, 0, none⟩) n cp) ms := by
    have h0 := RdMarks.of_own (ms := ms) (v := .slice (some ⟨g, 0, none⟩) n cp) (e := TM) (base := w.heap.size) (by rw [Hlen.out]; exact hown) Hi.out
    exact h0
  clear hown
  have Hrd1 := Lib.hid hrd; clear hrd
  have hB1 := hB; clear hB
  go_wp2_with fail
  refine (implPeopleRead _ ms _ _ _ Hrd1.out (Nat.le_refl _)).mono ?_
  rintro e w2 ⟨rfl, hb2⟩
  have Hrd2 := Lib.hid (Hrd1.out.kept hb2)
  have hB2 : Below w.heap.size w w2 := hB1.trans (hb2.mono hB1.size)
  clear hb2 Hrd1
  cases hok : termOk p ms with
  | false =>
    have Hok := Lib.hid hok; clear hok
    rw [readV_no Hok.out]
    go_wp2_with fail
    refine (specPeopleRead _ ms _ _ _ Hrd2.out).mono ?_
    rintro e w2' ⟨rfl, rfl⟩
    rw [readV_no Hok.out]
    go_wp2_with fail
    refine (implTermOk _ ms _ _ _ Hrd2.out (Nat.le_refl _)).mono ?_
    rintro e w3 ⟨rfl, hb3⟩
    have hB3 : Below w.heap.size w w3 := hB2.trans (hb3.mono hB2.size)
    rw [Hok.out]
    clear hb3
    go_wp2_with fail
    refine (alive _).mono ?_
    rintro e w' ⟨rfl, rfl⟩
    go_wp2
    go_ret
    exact ⟨rfl, hB3⟩
  | true =>
    have Hok := Lib.hid hok; clear hok
    obtain ⟨hp4, hRlt, hT1, hT75, hbits⟩ := letters Hok.out
    rw [readV_yes Hok.out]
    have hsp := fun (B : Nat) (v : Value) (W : World) h => specPeopleRead p ms B v W h
    have htx := fun (B : Nat) (v : Value) (W : World) h h2 => implTermText p ms B v W h h2
    rw [readV_yes Hok.out] at hsp
    generalize readN ms = R at *
    generalize textV p ms = T at *
    have Hsp := Lib.hid hsp; clear hsp
    have Htx := Lib.hid htx; clear htx
    have Hbits := Lib.hid hbits; clear hbits
    obtain ⟨P, rfl⟩ : ∃ P : Nat, p = P := Int.eq_ofNat_of_zero_le (by omega)
    have hR16 : R < 16 := by
      have h2 : 2 ^ (P : Int).toNat ≤ 2 ^ 4 := Nat.pow_le_pow_right (by decide) (by omega)
      omega
    rw [Int.toNat_natCast] at hRlt
    have HR := Lib.hid hRlt; clear hRlt
    go_wp2_with fail
    refine (Hsp.out _ _ _ Hrd2.out).mono ?_
    rintro e w2' ⟨rfl, rfl⟩
    go_wp2_with fail
    refine (Htx.out _ _ _ Hrd2.out (Nat.le_refl _)).mono ?_
    rintro e w3 ⟨rfl, hb3⟩
    have hB3 : Below w.heap.size w w3 := hB2.trans (hb3.mono hB2.size)
    clear hb3 Htx Hsp Hrd2
    go_wp2_with fail
    go_loop [7, 8, 9] (fun i _ _ => ∃ k : Nat, k ≤ P ∧ i = .int .i64 k) (fun i _ _ => P - (intOf i).toNat)
    case atStart => exact ⟨0, Nat.zero_le _, rfl⟩
    case round =>
      obtain ⟨k, hk, rfl⟩ := hrel
      by_cases hlt : k < P
      · have hk4 : k < 4 := by omega
        go_wp2_with fail
        go_loop [8, 9] (fun s i => ∃ j : Nat, j ≤ T.length ∧ i = .int .i64 j ∧ s = .bool (sn T k j)) (fun _ i => T.length - (intOf i).toNat)
        case atStart => exact ⟨0, Nat.zero_le _, rfl, by rw [sn_zero]⟩
        case round =>
          obtain ⟨j, hj, rfl, rfl⟩ := hrel
          by_cases hjt : j < T.length
          · have Hs := Lib.hid (sn_succ hk4 hjt)
            have hget : T[j]'hjt = T.getD j 0 := by simp [List.getD, hjt]
            have hb256 : (T.getD j 0).toNat < 256 := (T.getD j 0).toNat_lt
            cases hs : sn T k j with
            | true =>
              have Hs' : Hid (sn T k (j + 1) = true) := by unfold Hid; rw [Hs.out, hs]; rfl
              clear hs Hs hget hb256
              go_wp2
              go_round
              case rel => exact ⟨j + 1, by omega, by go_num, by rw [Hs'.out]⟩
              case measure => simp [intOf]; omega
            | false =>
              rw [hs, Bool.false_or] at Hs
              clear hs
              go_wp2
              go_round
              case rel => exact ⟨j + 1, by omega, by go_num, by rw [Hs.out]; exact congrArg Value.bool (sign_eq hjt _ k)⟩
              case measure => simp [intOf]; omega
          · obtain rfl : j = T.length := by omega
            have hb := Hbits.out k hk4
            rw [← sn_all] at hb
            rw [hb]
            clear hb
            have htm := tmod_two_val (T := R) (k := k)
            cases hbt : R.testBit k with
            | true =>
              have hq : ((R : Int) / 2 ^ k).tmod 2 = 1 := by rw [htm, hbt]; rfl
              clear htm hbt
              go_wp2
              go_round
              case rel => exact ⟨k + 1, by omega, by go_num⟩
              case measure => simp [intOf]; omega
            | false =>
              have hq : ((R : Int) / 2 ^ k).tmod 2 = 0 := by rw [htm, hbt]; rfl
              clear htm hbt
              go_wp2
              go_round
              case rel => exact ⟨k + 1, by omega, by go_num⟩
              case measure => simp [intOf]; omega
      · obtain rfl : k = P := by omega
        have hR := HR.out
        have hT0 : (0 : Int) < (T.length : Int) := by omega
        have hk' : k = 1 ∨ k = 2 ∨ k = 3 ∨ k = 4 := by omega
        rcases hk' with rfl | rfl | rfl | rfl
        · have hR' : (R : Int) < 2 := by omega
          clear hR
          go_wp2
          go_ret
          exact ⟨ret_bool (decide_eq_true (by omega)), hB3⟩
        · have hR' : (R : Int) < 4 := by omega
          clear hR
          go_wp2
          go_ret
          exact ⟨ret_bool (decide_eq_true (by omega)), hB3⟩
        · have hR' : (R : Int) < 8 := by omega
          clear hR
          go_wp2
          go_ret
          exact ⟨ret_bool (decide_eq_true (by omega)), hB3⟩
        · have hR' : (R : Int) < 16 := by omega
          clear hR
          go_wp2
          go_ret
          exact ⟨ret_bool (decide_eq_true (by omega)), hB3⟩

set_option maxRecDepth 100000 in
theorem lifted (os : Os) (started : os.Started) (H : Type) (enc : TypeId × Value → H) :
    ReturnsInHanded {} Tryd.checked os 5 .any (fun w args => (Rows.fnPeopleReadSpec.pre enc Tryd.prog Tryd.f5 Rows.fnPeopleReadRow.domain false w args ∧ laidMet Tryd.prog tabs w) ∧ sizedMet enc Tryd.prog Tryd.f5 (OpenSpec.ofChange Rows.fnPeopleReadSpec) false w args) (Rows.fnPeopleReadSpec.post enc Tryd.prog Tryd.f5 false true false false) := by
  refine returnsInHanded_of_change_and (C := Tryd.checked) (X := fun w _ => laidMet Tryd.prog tabs w) (fun _ _ _ hh h => h.of_heap hh) Tryd.own started (by kernel_rfl) Tryd.func5
    (ChangeSpec.witness_at (enc := enc) (C := Tryd.checked) (os := os) (X := fun w _ => laidMet Tryd.prog tabs w) false (laidWorld os) #[.slice none 0 0] 8 rfl (by kernel_rfl) (by kernel_rfl) (by kernel_rfl) (by kernel_rfl) (by kernel_rfl) (laidWorld_met os _)) ?_
  intro W base args ds gs before hval0 hW hcnd _ hL _
  have hval : ∀ (j : Nat) t v, Tryd.f5.params[j]? = some t → args[j]? = some v → Value.okWide Tryd.prog W .any base t v := hval0
  have hW' := hW
  obtain ⟨p, q, hA0, hV, rfl, hfz, hnd⟩ := hW
  have hA : DataW.TrodAll enc Tryd.prog W 0 (fun _ => true) true Tryd.f5.params.toList args.toList ds p := hA0
  rw [Tryd.params5] at hA hval
  obtain ⟨v0, vs0, d0, ds0, p0, q0, hargs, rfl, rfl, h0, r0⟩ := trodAll_cons hA
  obtain ⟨rfl, rfl, rfl⟩ := trodAll_nil r0
  obtain rfl : args = #[v0] := by cases args; simp_all
  obtain ⟨rfl, rfl⟩ := trodVars_none hV
  obtain ⟨a0, len0, cap0, rfl⟩ := okWide_slice Tryd.underlying22 (hval 0 22 v0 rfl rfl)
  have k0 := h0
  have lt0 : ∀ x ∈ p0, x.block < W.heap.size := by obtain ⟨m, hm⟩ := k0; exact DataW.trod_lt m _ _ _ hm
  obtain ⟨z0, w0⟩ : ∃ zs, IsRow .u8 W a0 len0 cap0 zs := by
    obtain ⟨fuel, hf⟩ := h0
    rcases open_ints Tryd.underlying22 Tryd.underlying5 (by kernel_rfl) hf with ⟨hcs, _⟩ | ⟨x, l, c, zs, hcs, _, hl, hm, hz, _, hcell, hwz⟩
    · simp [Value.cells] at hcs
      obtain ⟨rfl, rfl, rfl⟩ := hcs
      exact ⟨[], .inl ⟨rfl, rfl, rfl, rfl⟩⟩
    · simp [Value.cells] at hcs
      obtain ⟨rfl, rfl, rfl⟩ := hcs
      exact ⟨zs, .inr ⟨_, rfl, hl, hm, by simpa using hz, hcell, hwz⟩⟩
  clear hA0 hval0
  refine (walk _ _ W (RdBytes.of_row w0)).mono fun e W' ⟨he, bel⟩ => ?_
  subst he
  exact ⟨_, rfl, _, _, _, [], _, [], hW', trodAll_mk1 (shut_bool Tryd.underlying4 _), (trodAll_cons_mk (Below.trod Tryd.laidOut (by kernel_rfl) (of_decide_eq_true (by kernel_rfl)) k0 bel lt0) trodAll_mk0), rfl, bel.frame _, fun h => by cases h⟩

theorem closed : joinedFacts Tryd.pinned.checked.prog 5 Tryd.f5 Rows.fnPeopleReadSpec Rows.fnPeopleReadRow = true := by
  unfold joinedFacts
  exact (and_tt (and_tt (and_tt (and_tt (and_tt (and_tt (and_tt (and_tt (and_tt (and_tt (and_tt (and_tt (and_tt (and_tt (and_tt (and_tt (and_tt (and_tt (and_tt (and_tt (and_tt (and_tt (and_tt (and_tt (and_tt (and_tt (and_tt (and_tt (and_tt (and_tt (and_tt (by kernel_rfl) (by kernel_rfl)) (by kernel_rfl)) (by kernel_rfl)) (by kernel_rfl)) (by kernel_rfl)) (by kernel_rfl)) (by kernel_rfl)) (by kernel_rfl)) (by kernel_rfl)) (by kernel_rfl)) (by kernel_rfl)) (by kernel_rfl)) (by kernel_rfl)) (by kernel_rfl)) (by kernel_rfl)) (by kernel_rfl)) (by kernel_rfl)) (by kernel_rfl)) (by kernel_rfl)) (by kernel_rfl)) (by kernel_rfl)) (by kernel_rfl)) (by kernel_rfl)) (by kernel_rfl)) Tryd.mayEnter0) (lifted_tt Tryd.lifts0 rfl)) (make_tt Tryd.make0 rfl)) (by kernel_rfl)) (by kernel_rfl)) (by kernel_rfl)) (by kernel_rfl))
theorem over : Rows.fnPeopleReadRow.holds Tryd.pinned (OpenSpec.ofChange Rows.fnPeopleReadSpec) :=
  OpenClaim.holds_of_wide 5 Tryd.f5 rfl rfl rfl rfl rfl rfl rfl ⟨rfl, rfl, rfl, rfl, rfl⟩ rfl rfl rfl rfl rfl (by kernel_rfl) Tryd.func5 closed
    (of_decide_eq_true (by kernel_rfl)) (by unfold Func.isWrapper; first | (rw [if_pos (by decide +kernel)]; kernel_rfl) | (rw [if_neg (by decide +kernel)]; exact ⟨rfl, rfl⟩))
    (fun os started H enc _ => lifted os started H enc)

theorem proved : Rows.FnPeopleReadCardSaid :=
  Claim7.holds_tied_plain_at .later [] [.data, .data, .data] true Rows.fnPeopleReadCard.stood.harness false
    over (fun _ h => by cases h) (by kernel_rfl) (fun _ h => by cases h) fnPeopleRead_row_tie rfl ⟨rfl, rfl⟩ (by kernel_rfl) rfl
    (fun f fn hf hfn => by
      obtain rfl : f = 5 := Option.some.inj ((show Tryd.prog.funcNamed "loop.example/tellersandliars/laws.FnPeopleRead" = some 5 by kernel_rfl).symm.trans hf) |>.symm
      obtain rfl : fn = Tryd.f5 := (Option.some.inj (Tryd.func5.symm.trans hfn)).symm
      exact ⟨by kernel_rfl, fun j t ht => by
        rw [Tryd.params5] at ht
        have h3 : t = 22 := by
          rcases j with _ | j
          · simpa using ht.symm
          · simp at ht
        subst h3
        exact (show Tryd.prog.wantsStandIn 22 = false by kernel_rfl)⟩)
    (by kernel_rfl)
end Go.Proofs.YtmcdfbjmbelklaaDoor.fnPeopleRead
