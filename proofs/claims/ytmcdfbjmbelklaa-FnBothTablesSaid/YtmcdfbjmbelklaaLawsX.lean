/- A law of chapter 1: tables are cut and joined as lists. It answers true, whatever the code. No condition. -/
import Derived.Test.YtmcdfbjmbelklaaLawsV
namespace Go.Proofs.Ytmcdfbjmbelklaa
open Go.RowKit Go.Joins
attribute [local irreducible] heads turned tabOf wl common
theorem vals_len (l : List Nat) : (vals l).length = l.length := by simp [vals]
theorem vals_one (l : List Nat) : ∀ u ∈ vals l, u.oneCell' = true := by
  intro u hu
  obtain ⟨z, _, rfl⟩ := List.mem_map.1 hu
  rfl
theorem vals_snoc (l : List Nat) (x : Nat) : vals (l ++ [x]) = vals l ++ [.int .i64 x] := by simp [vals]
theorem vals_append (l m : List Nat) : vals (l ++ m) = vals l ++ vals m := by simp [vals]
theorem common_lt {l m : List Nat} {N : Nat} (h : ∀ x ∈ l, x < N) : ∀ x ∈ common l m, x < N := fun x hx => h x (by unfold common at hx; exact (List.mem_filter.1 hx).1)
theorem common_len (l m : List Nat) : (common l m).length ≤ l.length := by unfold common; exact List.length_filter_le _ _
theorem common_nil (m : List Nat) : common [] m = [] := by unfold common; rfl
theorem common_take {l m : List Nat} {k : Nat} (hk : k < l.length) : common (l.take (k + 1)) m = if l.getD k 0 ∈ m then common (l.take k) m ++ [l.getD k 0] else common (l.take k) m := by
  rw [take_snoc 0 l k hk, common_snoc]
theorem own_kept0 {w : World} {base n : Nat} {e : TypeId} {v : Value} {xs : List Value} (h : w.ownsRow base e 1 v n xs) : (v = .slice none 0 0 ∧ n = 0) ∨ ∃ g cap, v = .slice (some ⟨g, 0, none⟩) n cap := ownsRow_forms h
theorem turned_small (T N : Nat) : turned T N N < 2 ^ N := by
  unfold turned
  refine tabOf_lt _ N fun i hi => ?_
  obtain ⟨j, hj, rfl⟩ := List.mem_map.1 hi
  have := (wl_mem.1 hj).1
  omega
theorem getD_mem' {l : List Nat} {k : Nat} (hk : k < l.length) : (nums l).getD k 0 = ((l.getD k 0 : Nat) : Int) := by simp [nums, List.getD, hk]
theorem nums_mem {x : Nat} {m : List Nat} : ((x : Int) ∈ nums m) ↔ x ∈ m := by
  unfold nums
  rw [List.mem_map]
  constructor
  · rintro ⟨y, hy, he⟩
    have : y = x := by omega
    subst this; exact hy
  · intro h; exact ⟨x, h, rfl⟩
/-- the facts of both tables that the law's end asks -/
theorem both_facts {p : Int} {T N : Nat} (h1 : 1 ≤ p) (h2 : p ≤ 4) (hN : (N : Int) = 2 ^ p.toNat) (hN16 : N ≤ 16) (hT : tOk p T = true) :
    ∃ U : Nat, opt p T = (U : Int) ∧ tOk p U = true ∧ (wl T N).length ≤ 16 ∧ (wl U N).length ≤ 16 ∧ (common (wl T N) (wl U N)).length ≤ 16 ∧
      tow p (nums (wl T N ++ wl U N)) = bits .or .i64 (T : Int) (U : Int) ∧ tow p (nums (common (wl T N) (wl U N))) = bits .and .i64 (T : Int) (U : Int) ∧ (common (wl T N) (wl U N)).length % 2 = 0 ∧ (U : Int) ≤ 65536 := by
  have hTN := tOk_ltN hT hN
  have hNN := N_eq hN
  have hU : turned T N N < 2 ^ N := turned_small T N
  have hT6 : T < 65536 := Nat.lt_of_lt_of_le hTN (by exact Nat.pow_le_pow_right (by decide) hN16)
  have hU6 : turned T N N < 65536 := Nat.lt_of_lt_of_le hU (by exact Nat.pow_le_pow_right (by decide) hN16)
  refine ⟨turned T N N, by rw [opt_yes hT, ← hNN], tOk_of h1 h2 hN hU, ?_, ?_, ?_, ?_, ?_, common_even (N_even h1 h2 hN), by omega⟩
  · have := wl_le T N; omega
  · have := wl_le (turned T N N) N; omega
  · have := common_len (wl T N) (wl (turned T N N) N); have := wl_le T N; omega
  · rw [bits_or_nat _ _ (by omega) (by omega), tow_list h1 h2 hN (fun x hx => by
      rcases List.mem_append.1 hx with hx | hx
      · exact (wl_mem.1 hx).1
      · exact (wl_mem.1 hx).1), tabOf_append, tabOf_wl hTN, tabOf_wl hU]
  · rw [bits_and_nat _ _ (by omega) (by omega), tow_list h1 h2 hN (common_lt fun x hx => (wl_mem.1 hx).1), tabOf_common hTN]
end Go.Proofs.Ytmcdfbjmbelklaa

namespace Go.Proofs.Ytmcdfbjmbelklaa.fnBothTables
open Go.ChangeShapes Go.WideShapes Go.ChangeAt Go.RowKit Go.Joins
open Go.ChangeMaps (open_string shut_string)
set_option linter.unusedVariables false
attribute [local irreducible] heads turned tabOf wl tow nums common
set_option maxRecDepth 100000 in
set_option maxHeartbeats 2000000 in
theorem walk (a0 : Value) (n0 : Nat) (w : World) (w0 : RdBytes w w.heap.size a0 n0) :
    Calls Try.prog 4 #[a0] w fun e w' => e = .returned (.bool true) ∧ Below w.heap.size w w' := by
  have hr := w0
  by_cases hbig : n0 ≤ 1048576
  case neg =>
    obtain ⟨ao, cap, rfl, hl, hm, hc⟩ := w0
    have hbig' := code_big hbig
    unfold maxLen at hm
    clear hc hr hbig
    go_enter Try.func4, Try.ntmps4
    go_wp2
    go_ret
    exact ⟨rfl, Below.refl _ _⟩
  have hbig' : (n0 : Int) ≤ 1048576 := by omega
  clear hbig
  obtain ⟨ao, cap, rfl, hl, hm, hc⟩ := w0
  have Hr := Lib.hid hr
  clear hc hr hl hm
  go_enter Try.func4, Try.ntmps4
  go_wp2_with fail
  refine (drawOppositeTable _ _ _ Hr.out).mono ?_
  rintro e w1 ⟨p, x, ⟨hp1, hp8, hx0, hx1⟩, rfl, hB1⟩
  have HT := Lib.hid (And.intro hx0 hx1)
  clear hx0 hx1
  obtain ⟨i0, hi, hz0, hz1, hz2⟩ := info_parts Try.info3
  have Hi := Lib.hid hi; clear hi
  have Hz0 := Lib.hid hz0; clear hz0
  have Hz1 := Lib.hid hz1; clear hz1
  have Hz2 := Lib.hid hz2; clear hz2
  go_wp2_with fail
  refine (implOppositeTable _ _ _).mono ?_
  rintro e w2 ⟨rfl, hb2⟩
  have hB2 : Below w.heap.size w w2 := hB1.trans (hb2.mono hB1.size)
  clear hb2
  cases hok : tOk p x with
  | false =>
    have Hok := Lib.hid hok
    have Hv := Lib.hid (opt_no hok); clear hok
    rw [Hv.out]
    go_wp2_with fail
    refine (specTableOk _ _ _).mono ?_
    rintro e w' ⟨rfl, rfl⟩
    rw [Hok.out]
    go_wp2_with fail
    refine (alive _).mono ?_
    rintro e w' ⟨rfl, rfl⟩
    go_wp2
    go_ret
    exact ⟨rfl, hB2⟩
  | true =>
    obtain ⟨h1, h2, h3, h4⟩ := tOk_lt hok
    obtain ⟨T, rfl⟩ := Int.eq_ofNat_of_zero_le h3
    have HN := cnt_of p
    obtain ⟨hN2, hN16⟩ := two_pow_N h1 h2
    generalize (2 : Nat) ^ p.toNat = N at *
    obtain ⟨U, hU1, hU2, hl1, hl2, hl3, hor, hand, hev, hU6⟩ := both_facts h1 h2 HN.out hN16 hok
    have Hok := Lib.hid hok; clear hok
    have HU2 := Lib.hid hU2; clear hU2
    have Hor := Lib.hid hor; clear hor
    have Hand := Lib.hid hand; clear hand
    have Hev := Lib.hid hev; clear hev
    have HU6 := Lib.hid hU6; clear hU6
    rw [hU1]
    clear hU1 h3 h4 HT
    go_wp2_with fail
    refine (specTableOk _ _ _).mono ?_
    rintro e w' ⟨rfl, rfl⟩
    rw [Hok.out]
    go_wp2_with fail
    refine (implWorldsIn_yes p T N Hok.out HN hN16 _).mono ?_
    rintro e w3 ⟨va, rfl, howna, hb3⟩
    have hB3 : Below w.heap.size w w3 := hB2.trans (hb3.mono hB2.size)
    clear hb3
    go_wp2_with fail
    refine (implWorldsIn_yes p U N HU2.out HN hN16 _).mono ?_
    rintro e w4 ⟨vb, rfl, hownb, hb4⟩
    have hB4 : Below w.heap.size w w4 := hB3.trans (hb4.mono hB3.size)
    have howna4 := own_below howna hb4
    clear hb4 howna
    generalize wl T N = l at *
    generalize wl U N = m at *
    have hra4 := RdInts.of_own (zs := nums l) (v := va) (by rw [nums_length, ← vals_nums]; exact howna4)
    have hrb4 := RdInts.of_own (zs := nums m) (v := vb) (by rw [nums_length, ← vals_nums]; exact hownb)
    have Hrb4 := Lib.hid hrb4
    obtain ⟨aa, ca, hva, hla, hma, hca⟩ := hra4
    obtain ⟨ab, cb, hvb, hlb, hmb, hcb⟩ := hrb4
    rw [nums_length] at hva hla hca hvb hlb hcb
    subst hva
    subst hvb
    have Hna := Lib.hid (fun he => own_nil howna4 aa l.length ca rfl he)
    have Hnb := Lib.hid (fun he => own_nil hownb ab m.length cb rfl he)
    have Hca := Lib.hid hca; clear hca
    have Hcb := Lib.hid hcb; clear hcb
    unfold maxLen at hma hmb
    clear howna4 hownb
    go_wp2_with fail
    go_loopw [8, 9] (fun v i wr => ∃ k : Nat, k ≤ l.length ∧ i = .int .i64 k ∧ wr.ownsRow w4.heap.size 3 1 v (common (l.take k) m).length (vals (common (l.take k) m)) ∧ Below w4.heap.size w4 wr) (fun _ i _ => l.length - (intOf i).toNat)
    case atStart => exact ⟨0, Nat.zero_le _, rfl, by rw [List.take_zero, common_nil]; exact World.ownsRow_made _ _ 0 (Nat.le_refl _) (Nat.zero_le _) rfl, (Below.refl _ _).alloc (Nat.le_refl _) _⟩
    case round =>
      obtain ⟨k, hk, rfl, hownc, hbw⟩ := hrel
      have hsw := hbw.size
      have hcl := common_len (l.take k) m
      have hkl : (l.take k).length ≤ k := List.length_take_le _ _
      by_cases hlt : k < l.length
      · obtain ⟨b1, o1, he1, hb1, hc1⟩ := Hca.out k hlt
        have Haa := Lib.hid he1; clear he1
        have hc1' := (hbw.cell (p := ⟨b1, o1 + k, none⟩) hb1).trans hc1
        rw [getD_mem' hlt] at hc1'
        have Hrbr := Lib.hid (Hrb4.out.below (w' := wr) hbw.block)
        have Hct := Lib.hid (common_take (m := m) hlt)
        clear hc1
        generalize hX : l.getD k 0 = X at *
        clear hX
        obtain ⟨aa', rfl⟩ : ∃ aa', aa' = aa := ⟨_, rfl⟩
        have hAA : aa' = some ⟨b1, o1, none⟩ := Haa.out
        subst hAA
        by_cases hin : X ∈ m
        · have Hin : Hid (decide ((X : Int) ∈ nums m) = true) := by unfold Hid; rw [decide_eq_true_eq]; exact nums_mem.2 hin
          have Hct' : Hid (common (l.take (k + 1)) m = common (l.take k) m ++ [X]) := by unfold Hid; rw [Hct.out, if_pos hin]
          clear hin Hct
          generalize common (l.take k) m = cs at *
          generalize hL : cs.length = L at *
          have HL := Lib.hid hL; clear hL
          have hL16 : L ≤ 16 := by omega
          go_wp2_with (first
            | (go_at_call 15
               refine (hasInt (nums m) X _ _ _ Hrbr.out).mono ?_
               rintro e w' ⟨rfl, rfl⟩
               rw [Hin.out])
            | (at_builtin
               refine wpList_append_own _ rfl (.tmp 49) (.tmp 54) 23 rfl w4.heap.size 3 i0 (.int .i64 0) 1 8 Try.underlying23 Hi.out Hz0.out Hz1.out Hz2.out rfl (by decide) u8 L (vals cs) rfl (hownc.alloc _) ⟨wr.heap.size, 0, none⟩ 1 1 [.int .i64 X] rfl rfl (news1 _ _ rfl _ _) (by simp [Value.oneCell']) (by unfold maxLen; omega) (by omega) (by simp; omega) ?_
               go_must (intro v6 w6 hown6 hgr6 _
                        have Hb6 := Lib.hid ((hbw.alloc hsw _).grown hgr6 (by simp; omega) (fun k hk => (hownc.lt k hk).1))
                        have Hown6 : Hid (w6.ownsRow w4.heap.size 3 1 v6 (cs ++ [X]).length (vals (cs ++ [X]))) := by
                          unfold Hid; rw [vals_snoc, List.length_append, HL.out]; exact hown6
                        clear hgr6 hown6))
            | fail)
          go_roundw
          case rel => exact ⟨k + 1, by omega, by go_num, by rw [Hct'.out]; exact Hown6.out, Hb6.out⟩
          case measure => simp [intOf]; omega
        · have Hin : Hid (decide ((X : Int) ∈ nums m) = false) := by unfold Hid; rw [decide_eq_false_iff_not]; exact fun h => hin (nums_mem.1 h)
          have Hct' : Hid (common (l.take (k + 1)) m = common (l.take k) m) := by unfold Hid; rw [Hct.out, if_neg hin]
          have Hownc := Lib.hid hownc
          clear hin Hct hownc
          go_wp2_with (first
            | (go_at_call 15
               refine (hasInt (nums m) X _ _ _ Hrbr.out).mono ?_
               rintro e w' ⟨rfl, rfl⟩
               rw [Hin.out])
            | fail)
          go_roundw
          case rel => exact ⟨k + 1, by omega, by go_num, by rw [Hct'.out]; exact Hownc.out, hbw⟩
          case measure => simp [intOf]; omega
      · obtain rfl : k = l.length := by omega
        rw [List.take_length] at hownc
        have hcw : common (List.take l.length l) m = common l m := by rw [List.take_length]
        clear hlt hkl hcl hcw
        have Hca' : Hid (∀ j, j < l.length → ∃ b off, aa = some ⟨b, off, none⟩ ∧ b < w4.heap.size ∧ wr.cell? ⟨b, off + j, none⟩ = some (.int .i64 ((nums l).getD j 0))) := fun j hj => by
          obtain ⟨b, off, e1, e2, e3⟩ := Hca.out j hj
          exact ⟨b, off, e1, e2, (hbw.cell (p := ⟨b, off + j, none⟩) e2).trans e3⟩
        have Hcb' : Hid (∀ j, j < m.length → ∃ b off, ab = some ⟨b, off, none⟩ ∧ b < w4.heap.size ∧ wr.cell? ⟨b, off + j, none⟩ = some (.int .i64 ((nums m).getD j 0))) := fun j hj => by
          obtain ⟨b, off, e1, e2, e3⟩ := Hcb.out j hj
          exact ⟨b, off, e1, e2, (hbw.cell (p := ⟨b, off + j, none⟩) e2).trans e3⟩
        have Hca2 : Hid (∀ j, j < l.length → ∃ b off, aa = some ⟨b, off, none⟩ ∧ b < w4.heap.size ∧ (wr.alloc (.cells #[] 3)).cell? ⟨b, off + j, none⟩ = some (.int .i64 ((nums l).getD j 0))) := fun j hj => by
          obtain ⟨b, off, e1, e2, e3⟩ := Hca'.out j hj
          exact ⟨b, off, e1, e2, (World.cell?_alloc_lt wr _ ⟨b, off + j, none⟩ (show b < wr.heap.size by omega)).trans e3⟩
        have hBr : Below w.heap.size w wr := hB4.trans (hbw.mono hB4.size)
        clear Hca Hcb Hrb4
        generalize hcs : common l m = cs at *
        have Hcs := Lib.hid hcs; clear hcs
        have Hownc := Lib.hid hownc
        have Hrc : Hid (RdInts wr wr.heap.size u8 (nums cs)) := RdInts.of_own (zs := nums cs) (by rw [nums_length, ← vals_nums]; exact hownc)
        clear hownc
        go_wp2_with fail
        refine (alive _).mono ?_
        rintro e w' ⟨rfl, rfl⟩
        go_wp2_with (first
          | (at_builtin
             refine wpList_append_any ?_ (.tmp 59) (.tmp 60) 23 rfl wr.heap.size 3 i0 (.int .i64 0) 8 Try.underlying23 Hi.out Hz0.out Hz1.out Hz2.out rfl (.slice (some ⟨wr.heap.size, 0, none⟩) 0 0) 0 [] rfl (World.ownsRow_made wr #[] 0 (Nat.le_refl _) (Nat.zero_le _) rfl) aa l.length _ (vals l) rfl (vals_len _) Hna.out (rd_news Hca2.out) (vals_one _) (by unfold maxLen; omega) (by omega) ?_ ?_
             go_must (rfl)
             go_must (simp)
             go_must (intro v1 w7 hown7 hgr7
                      simp only [Nat.zero_add, List.nil_append] at hown7
                      have hG7 : wr.grownBy w7 none := grown_own (only_alloc (World.grownBy.refl _ _) _) hgr7 (fun k hk => by simp [Value.ownBlock] at hk; omega)
                      have hs7 := hG7.size
                      have HG7 := Lib.hid hG7
                      have Hcb7 : Hid (∀ j, j < m.length → ∃ b off, ab = some ⟨b, off, none⟩ ∧ b < w4.heap.size ∧ w7.cell? ⟨b, off + j, none⟩ = some (.int .i64 ((nums m).getD j 0))) := fun j hj => by
                        obtain ⟨b, off, e1, e2, e3⟩ := Hcb'.out j hj
                        exact ⟨b, off, e1, e2, (hG7.cell_far ⟨b, off + j, none⟩ (show b < wr.heap.size by omega) (by simp)).trans e3⟩
                      have Hown7 := Lib.hid hown7
                      clear hG7 hgr7 hown7))
          | (at_builtin
             refine wpList_append_any ?_ (.tmp 61) (.tmp 62) 23 rfl wr.heap.size 3 i0 (.int .i64 0) 8 Try.underlying23 Hi.out Hz0.out Hz1.out Hz2.out rfl v1 l.length (vals l) rfl Hown7.out ab m.length _ (vals m) rfl (vals_len _) Hnb.out (rd_news Hcb7.out) (vals_one _) (by unfold maxLen; omega) (by omega) ?_ ?_
             go_must (rfl)
             go_must (omega)
             go_must (intro v2 w8 hown8 hgr8
                      have hG8 : wr.grownBy w8 none := grown_own HG7.out hgr8 (fun k hk => (Hown7.out.lt k hk).1)
                      have HB8 := Lib.hid (hBr.trans ((below_none hG8).mono hBr.size))
                      have Hrc8 := Lib.hid (Hrc.out.below (w' := w8) (below_none hG8).block)
                      have Hrd8 : Hid (RdInts w8 w8.heap.size v2 (nums (l ++ m))) := RdInts.of_own (zs := nums (l ++ m)) (by rw [nums_length, ← vals_nums, vals_append, List.length_append]; exact hown8)
                      clear hG8 hgr8 hown8))
          | fail)
        refine (implTableOfWorlds _ (nums (l ++ m)) _ _ _ Hrd8.out).mono ?_
        rintro e w' ⟨rfl, rfl⟩
        rw [Hor.out]
        go_wp2_with fail
        refine (implTableOfWorlds _ (nums cs) _ _ _ Hrc8.out).mono ?_
        rintro e w' ⟨rfl, rfl⟩
        rw [Hand.out]
        have hev := Hev.out
        rcases ownsRow_forms Hownc.out with ⟨rfl, h0⟩ | ⟨gc, cc, rfl⟩
        · clear hev
          go_wp2
          go_ret
          exact ⟨rfl, HB8.out⟩
        · have hevb : ((cs.length : Int) % 2 == 0) = true := by rw [beq_iff_eq]; omega
          clear hev
          go_wp2
          go_ret
          exact ⟨rfl, HB8.out⟩

set_option maxRecDepth 100000 in
theorem lifted (os : Os) (started : os.Started) (H : Type) (enc : TypeId × Value → H) :
    ReturnsInHanded {} Try.checked os 4 .any (Rows.fnBothTablesSpec.pre6 enc Try.prog Try.f4 Rows.fnBothTablesRow.domain false) (Rows.fnBothTablesSpec.post enc Try.prog Try.f4 false true false false) := by
  refine returnsInHanded_of_change (C := Try.checked) Try.own started (by kernel_rfl) Try.func4
    (ChangeSpec.witness6 (enc := enc) (C := Try.checked) false ⟨#[], #[.slice none 0 0], []⟩ 8 (by kernel_rfl) (by kernel_rfl) (by kernel_rfl) (by kernel_rfl)) ?_
  intro W base args ds gs before hval0 hW hcnd _
  have hval : ∀ (j : Nat) t v, Try.f4.params[j]? = some t → args[j]? = some v → Value.okWide Try.prog W .any base t v := hval0
  have hW' := hW
  obtain ⟨p, q, hA0, hV, rfl, hfz, hnd⟩ := hW
  have hA : DataW.TrodAll enc Try.prog W 0 (fun _ => true) true Try.f4.params.toList args.toList ds p := hA0
  rw [Try.params4] at hA hval
  obtain ⟨v0, vs0, d0, ds0, p0, q0, hargs, rfl, rfl, h0, r0⟩ := trodAll_cons hA
  obtain ⟨rfl, rfl, rfl⟩ := trodAll_nil r0
  obtain rfl : args = #[v0] := by cases args; simp_all
  obtain ⟨rfl, rfl⟩ := trodVars_none hV
  obtain ⟨a0, len0, cap0, rfl⟩ := okWide_slice Try.underlying22 (hval 0 22 v0 rfl rfl)
  have k0 := h0
  have lt0 : ∀ x ∈ p0, x.block < W.heap.size := by obtain ⟨m, hm⟩ := k0; exact DataW.trod_lt m _ _ _ hm
  obtain ⟨z0, w0⟩ : ∃ zs, IsRow .u8 W a0 len0 cap0 zs := by
    obtain ⟨fuel, hf⟩ := h0
    rcases open_ints Try.underlying22 Try.underlying5 (by kernel_rfl) hf with ⟨hcs, _⟩ | ⟨x, l, c, zs, hcs, _, hl, hm, hz, _, hcell, hwz⟩
    · simp [Value.cells] at hcs
      obtain ⟨rfl, rfl, rfl⟩ := hcs
      exact ⟨[], .inl ⟨rfl, rfl, rfl, rfl⟩⟩
    · simp [Value.cells] at hcs
      obtain ⟨rfl, rfl, rfl⟩ := hcs
      exact ⟨zs, .inr ⟨_, rfl, hl, hm, by simpa using hz, hcell, hwz⟩⟩
  clear hA0 hval0
  refine (walk _ _ W (RdBytes.of_row w0)).mono fun e W' ⟨he, bel⟩ => ?_
  subst he
  exact ⟨_, rfl, _, _, _, [], _, [], hW', trodAll_mk1 (shut_bool Try.underlying4 _), (trodAll_cons_mk (Below.trod Try.laidOut (by kernel_rfl) (of_decide_eq_true (by kernel_rfl)) k0 bel lt0) trodAll_mk0), rfl, bel.frame _, fun h => by cases h⟩

theorem closed : joinedFacts Try.pinned.checked.prog 4 Try.f4 Rows.fnBothTablesSpec Rows.fnBothTablesRow = true := by
  unfold joinedFacts
  exact (and_tt (and_tt (and_tt (and_tt (and_tt (and_tt (and_tt (and_tt (and_tt (and_tt (and_tt (and_tt (and_tt (and_tt (and_tt (and_tt (and_tt (and_tt (and_tt (and_tt (and_tt (and_tt (and_tt (and_tt (and_tt (and_tt (and_tt (and_tt (and_tt (and_tt (and_tt (by kernel_rfl) (by kernel_rfl)) (by kernel_rfl)) (by kernel_rfl)) (by kernel_rfl)) (by kernel_rfl)) (by kernel_rfl)) (by kernel_rfl)) (by kernel_rfl)) (by kernel_rfl)) (by kernel_rfl)) (by kernel_rfl)) (by kernel_rfl)) (by kernel_rfl)) (by kernel_rfl)) (by kernel_rfl)) (by kernel_rfl)) (by kernel_rfl)) (by kernel_rfl)) (by kernel_rfl)) (by kernel_rfl)) (by kernel_rfl)) (by kernel_rfl)) (by kernel_rfl)) (by kernel_rfl)) Try.mayEnter0) (lifted_tt Try.lifts0 rfl)) (make_tt Try.make0 rfl)) (by kernel_rfl)) (by kernel_rfl)) (by kernel_rfl)) (by kernel_rfl))
theorem over : Rows.fnBothTablesRow.holds Try.pinned (OpenSpec.ofChange Rows.fnBothTablesSpec) :=
  OpenClaim.holds_of_wide 4 Try.f4 rfl rfl rfl rfl rfl rfl rfl ⟨rfl, rfl, rfl, rfl, rfl⟩ rfl rfl rfl rfl rfl (by kernel_rfl) Try.func4 closed
    (of_decide_eq_true (by kernel_rfl)) (by unfold Func.isWrapper; first | (rw [if_pos (by decide +kernel)]; kernel_rfl) | (rw [if_neg (by decide +kernel)]; exact ⟨rfl, rfl⟩))
    (fun os started H enc _ => lifted os started H enc)

theorem proved : Rows.FnBothTablesSaid := over
end Go.Proofs.Ytmcdfbjmbelklaa.fnBothTables

