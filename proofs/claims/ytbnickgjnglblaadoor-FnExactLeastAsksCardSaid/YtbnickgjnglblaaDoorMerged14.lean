/- Texts of a proof, merged: LawsV, MajI. -/
import Derived.Test.YtbnickgjnglblaaDoorMerged13
import Derived.Laws.AppendOwnNone
import Derived.Test.YtbnickgjnglblaaDoorMerged7
/- Chapter 1's law of two tables together. It answers true, whatever the code. No condition. -/
namespace Go.Proofs.YtbnickgjnglblaaDoor
open Go.RowKit Go.Joins

theorem tabOf_append (l m : List Nat) : tabOf (l ++ m) = tabOf l ||| tabOf m := by
  refine Nat.eq_of_testBit_eq fun j => ?_
  rw [Nat.testBit_or, tabOf_bit, tabOf_bit, tabOf_bit, Bool.eq_iff_iff]
  simp
theorem tow_list {p : Int} {N : Nat} {l : List Nat} (h1 : 1 ≤ p) (h2 : p ≤ 4) (hN : (N : Int) = 2 ^ p.toNat) (hl : ∀ x ∈ l, x < N) : tow p (nums l) = (tabOf l : Int) := by
  rw [tow_yes (by simp [pOk]; omega) ?_, nums_toNat]
  intro j hj
  rw [nums_length] at hj
  rw [nums_getD hj]
  exact wOk_of h1 h2 hN (by omega) (by have := hl _ (List.getElem_mem hj); omega)
/-- the worlds of two lists in common, in the order of the first one -/
def common (l m : List Nat) : List Nat := l.filter fun i => decide (i ∈ m)
theorem tabOf_common {T U N : Nat} (hT : T < 2 ^ N) : tabOf (common (wl T N) (wl U N)) = T &&& U := by
  refine Nat.eq_of_testBit_eq fun j => ?_
  rw [Nat.testBit_and, tabOf_bit, Bool.eq_iff_iff]
  simp only [common, decide_eq_true_eq, List.mem_filter, wl_mem, Bool.and_eq_true]
  constructor
  · rintro ⟨⟨_, h1⟩, _, h2⟩; exact ⟨h1, h2⟩
  · rintro ⟨h1, h2⟩
    have hj : j < N := by
      by_cases h : j < N
      · exact h
      · rw [testBit_false_of_lt hT (by omega)] at h1; cases h1
    exact ⟨⟨hj, h1⟩, hj, h2⟩
theorem count_even (h : Nat → Bool) (M : Nat) (hs : ∀ i, i < M + M → h (M + M - 1 - i) = h i) : ((List.range (M + M)).filter h).length % 2 = 0 := by
  have e : List.range (M + M) = List.range M ++ (List.range M).map (M + ·) := by rw [List.range_add]
  rw [e, List.filter_append, List.length_append, List.filter_map, List.length_map]
  have e2 : ((List.range M).filter (h ∘ (M + ·))).length = ((List.range M).filter h).length := by
    rw [← count_rev h M]
    congr 1
    refine List.filter_congr fun i hi => ?_
    have hi' : i < M := by simpa using hi
    show h (M + i) = h (M - 1 - i)
    rw [← hs (M + i) (by omega)]
    congr 1
    omega
  rw [e2]; omega
theorem common_even {T N : Nat} (hN : N = 2 ∨ N = 4 ∨ N = 8 ∨ N = 16) : (common (wl T N) (wl (turned T N N) N)).length % 2 = 0 := by
  have e : common (wl T N) (wl (turned T N N) N) = (List.range N).filter (fun i => T.testBit i && T.testBit (N - 1 - i)) := by
    unfold common
    rw [show wl T N = (List.range N).filter (fun i => T.testBit i) from rfl, List.filter_filter]
    refine List.filter_congr fun i hi => ?_
    have hi' : i < N := by simpa using hi
    rw [Bool.eq_iff_iff]
    simp only [Bool.and_eq_true, decide_eq_true_eq, wl_mem, turned_bit hi']
    constructor
    · rintro ⟨⟨_, a⟩, b⟩; exact ⟨b, a⟩
    · rintro ⟨a, b⟩; exact ⟨⟨hi', b⟩, a⟩
  rw [e]
  obtain ⟨M, hM⟩ : ∃ M, N = M + M := by rcases hN with h | h | h | h <;> exact ⟨N / 2, by omega⟩
  subst hM
  refine count_even _ M fun i hi => ?_
  rw [show M + M - 1 - (M + M - 1 - i) = i from by omega, Bool.and_comm]
theorem common_snoc (l m : List Nat) (x : Nat) : common (l ++ [x]) m = if x ∈ m then common l m ++ [x] else common l m := by
  unfold common
  rw [List.filter_append]
  split <;> simp_all

/-! ### an append that a guard lets by, of a slice that may be nil -/
theorem wpList_wanted {P : Program} {ops : Array Oper} {Q : Exit → Act → World → Prop} {a : Act} {w : World} {rest : List Oper} {o : Oper} (hw : Region.wanted o (yielded ops a.tmps) = true)
    (h : ∀ K : Act → World → Prop, (∀ a w, wpList P ops Q rest a w → K a w) → o.wp P a w K Q) : wpList P ops Q (o :: rest) a w :=
  wpList_step fun K hK => by rw [if_pos hw]; exact h K hK
theorem wpList_append_any {P : Program} {w : World} {ops : Array Oper} {rest : List Oper} {o : Oper} {a : Act} {Q : Exit → Act → World → Prop} (hw : Region.wanted o (yielded ops a.tmps) = true) (s x : Operand) (t : TypeId)
    (ho : o.op = .call { callee := .builtin .append, args := #[s, x], argTypes := #[t, t] })
    (base : Nat) (e : TypeId) (i : TypeInfo) (z : Value) (bytes : Nat) (ht : P.underlying t = some (.slice e)) (hi : P.info? e = some i) (hz : i.zero = some z)
    (hsize : i.size = 1) (hby : i.bytes = bytes) (hzs : z.cells.size = 1)
    (v : Value) (n : Nat) (xs : List Value) (hs : a.eval s = v) (hown : w.ownsRow base e 1 v n xs)
    (ao : Option Addr) (m c : Nat) (news : List Value) (hx : a.eval x = .slice ao m c) (hl : news.length = m) (hnone : ao = none → m = 0 ∧ c = 0)
    (hnews : ∀ ad, ao = some ad → ∀ j u, news[j]? = some u → w.cell? (ad.add j) = some u) (h1 : ∀ u ∈ news, u.oneCell' = true)
    (h63 : n + m ≤ maxLen) (hbytes : (n + m) * bytes ≤ 140737488355328) (hbase : base ≤ w.heap.size)
    (h : ∀ v' w', w'.ownsRow base e 1 v' (n + m) (xs ++ news) → w.grownBy w' v.ownBlock → wpList P ops Q rest (a.put o.dst v') w') : wpList P ops Q (o :: rest) a w := by
  cases ao with
  | some ad => exact wpList_wanted hw fun K hK => wp_append_own w s x t ho base e i z 1 bytes ht hi hz hsize hby hzs (by decide) v n xs hs hown ad m c news hx (by omega) (hnews ad rfl) h1 h63 hbytes hbase (fun v' w' a1 a2 _ => hK _ _ (h v' w' a1 a2))
  | none =>
    obtain ⟨rfl, rfl⟩ := hnone rfl
    have hn : news = [] := List.eq_nil_of_length_eq_zero hl
    subst hn
    refine wpList_wanted hw fun K hK => ?_
    have hrun := run_append_owned_none (P := P) (w := w) base t o.type e i 1 ht hi v n xs hown
    unfold Oper.wp
    simp [execOp, ho, resolve, invoke, builtin, hs, hx, hrun, Result.andThen]
    exact hK _ _ (h v w (by simpa using hown) (World.grownBy.refl _ _))
theorem nums_append (l m : List Nat) : nums l ++ nums m = nums (l ++ m) := by simp [nums]
theorem own_nil {w : World} {base : Nat} {e : TypeId} {v : Value} {n : Nat} {xs : List Value} (h : w.ownsRow base e 1 v n xs) : ∀ ao k c, v = .slice ao k c → ao = none → n = 0 ∧ c = 0 := by
  rintro ao k c rfl rfl
  rcases h.2 with ⟨h1, h2⟩ | ⟨g, cap, cur, h1, _⟩
  · cases h1; exact ⟨h2, rfl⟩
  · cases h1
theorem rd_news {w : World} {ao : Option Addr} {l : List Nat} {B : Nat}
    (h : ∀ j, j < l.length → ∃ b off, ao = some ⟨b, off, none⟩ ∧ b < B ∧ w.cell? ⟨b, off + j, none⟩ = some (.int .i64 ((nums l).getD j 0))) :
    ∀ ad, ao = some ad → ∀ j u, (vals l)[j]? = some u → w.cell? (ad.add j) = some u := by
  intro ad had j u hu
  have hj : j < l.length := by
    have := (List.getElem?_eq_some_iff.1 hu).1
    simpa [vals] using this
  obtain ⟨b, off, ha, _, hc⟩ := h j hj
  rw [had] at ha
  obtain rfl := Option.some.inj ha
  rw [Addr.add_lit, hc, nums_getD hj]
  rw [← hu]
  simp [vals, hj]
end Go.Proofs.YtbnickgjnglblaaDoor
/- Contracts of the program's functions of asking for a teller: the least number of questions, by a function that calls itself. -/
namespace Go.Proofs.YtbnickgjnglblaaDoor
open Go.RowKit Go.Joins
theorem qs_len (p : Nat) : (nums (qsL p (prs p))).length = (prs p).length := by rw [nums_length, qsL_len]
theorem qs_at {p k : Nat} (hk : k < (prs p).length) : (nums (qsL p (prs p))).getD k 0 = (alike p ((prs p).getD k (0, 0)).1 ((prs p).getD k (0, 0)).2 : Int) := by
  unfold nums qsL
  simp [List.getD, hk]
attribute [local irreducible] majN telB telN askN solB lv tabF heads firstN done0 costQ Good Best majV ktV askV leastV alike andK tz qV prs qsL qsK qK BestK nums
/-- the program's function finds the least number of a table -/
def LeastC (p : Nat) (v : Value) (B U : Nat) : Prop := ∀ w, TabZ w → RdInts w B v (nums (qsL p (prs p))) → B ≤ w.heap.size → Calls Tryd.prog 28 #[.int .i64 p, .int .i64 U, v] w fun e w' => e = .returned (.int .i64 (lv p p U)) ∧ Below w.heap.size w w'
set_option maxRecDepth 100000 in
set_option maxHeartbeats 2000000 in
theorem implAsksFrom (p T i j : Nat) (h4 : p ≤ 4) (hT : T < 2 ^ 2 ^ p) (v : Value) (B : Nat) (ih : Hid (∀ U, U < T → U < 2 ^ 2 ^ p → LeastC p v B U)) (w : World)
    (hz : TabZ w) (hr : RdInts w B v (nums (qsL p (prs p)))) (hB : B ≤ w.heap.size) :
    Calls Tryd.prog 40 #[.int .i64 p, .int .i64 T, .int .i64 (alike p i j : Nat), v] w fun e w' => e = .returned (.int .i64 (qV p T i j)) ∧ Below w.heap.size w w' := by
  have h16 := two16p h4
  have pa := parts (i := i) (j := j) hT
  have hal := alike_small (i := i) (j := j) h4
  have hand := bits_and_nat T (alike p i j) (by omega) (by omega)
  have hnot := bits_andNot_nat T (alike p i j) (by omega) (by omega)
  rw [ask_yes hT] at hand
  rw [ask_no hT] at hnot
  have Hand := Lib.hid hand
  have Hnot := Lib.hid hnot
  have hal' : alike p i j < 65536 := hal
  clear hand hnot
  generalize alike p i j = y at *
  generalize askN p T i j true = a at *
  generalize askN p T i j false = d at *
  have hT6 : T < 65536 := by omega
  have ha6 : a < 65536 := by have := pa.a_lt; omega
  have hd6 : d < 65536 := by have := pa.d_lt; omega
  have Hr := Lib.hid hr
  obtain ⟨ao, cap, hv, hlc, hcm, _⟩ := hr
  rw [qs_len] at hv hlc
  subst hv
  have Hz := Lib.hid hz
  by_cases ha : a = 0
  · have Hq := Lib.hid (pa.none1 ha)
    subst ha
    have hand := Hand.out
    have hnot := Hnot.out
    clear pa ih hz
    go_enter Tryd.func40, Tryd.ntmps40
    go_wp2
    go_ret
    exact ⟨ret_int (by rw [Hq.out]), Below.refl _ _⟩
  have ha0 : ((a : Int) == 0) = false := by rw [beq_eq_false_iff_ne]; omega
  by_cases hd : d = 0
  · have Hq := Lib.hid (pa.none2 hd)
    subst hd
    have hand := Hand.out
    have hnot := Hnot.out
    clear pa ih hz
    go_enter Tryd.func40, Tryd.ntmps40
    go_wp2
    go_ret
    exact ⟨ret_int (by rw [Hq.out]), Below.refl _ _⟩
  have hd0 : ((d : Int) == 0) = false := by rw [beq_eq_false_iff_ne]; omega
  obtain ⟨hla, hld⟩ := pa.less ha hd
  have Ha := Lib.hid (ih.out a hla pa.a_lt)
  have Hd := Lib.hid (ih.out d hld pa.d_lt)
  have q3 := Lib.hid pa.none3
  have q4 := Lib.hid pa.none4
  have q5 := Lib.hid (pa.some ha hd)
  have la := lv_low p p a
  have ld := lv_low p p d
  have ua := lv_high p p a
  have ud := lv_high p p d
  unfold LeastC at Ha Hd
  clear pa ih hz hla hld
  generalize lv p p a = x at *
  generalize lv p p d = z at *
  generalize qV p T i j = q at *
  have hand := Hand.out
  have hnot := Hnot.out
  clear Hand Hnot
  by_cases hx : x = -1
  · have Hq := Lib.hid (q3.out hx)
    subst hx
    clear q4 q5
    go_enter Tryd.func40, Tryd.ntmps40
    go_wp2_with fail
    refine (Ha.out _ Hz.out Hr.out hB).mono ?_
    rintro e w2 ⟨rfl, hb2⟩
    have Hb2 := Lib.hid hb2
    clear hb2
    go_wp2
    go_ret
    exact ⟨ret_int (by rw [Hq.out]), Hb2.out⟩
  have hx1 : (x == -1) = false := by rw [beq_eq_false_iff_ne]; exact hx
  by_cases hzz : z = -1
  · have Hq := Lib.hid (q4.out hzz)
    subst hzz
    clear q3 q5
    go_enter Tryd.func40, Tryd.ntmps40
    go_wp2_with fail
    refine (Ha.out _ Hz.out Hr.out hB).mono ?_
    rintro e w2 ⟨rfl, hb2⟩
    have Hb2 := Lib.hid hb2
    clear hb2
    go_wp2_with fail
    refine (Hd.out _ (Hz.out.below Hb2.out) (Hr.out.below (fun q hq => Hb2.out.block q (by omega))) (Nat.le_trans hB Hb2.out.size)).mono ?_
    rintro e w3 ⟨rfl, hb3⟩
    have Hb3 := Lib.hid (Hb2.out.trans (hb3.mono Hb2.out.size))
    clear hb3
    go_wp2
    go_ret
    exact ⟨ret_int (by rw [Hq.out]), Hb3.out⟩
  have hz1 : (z == -1) = false := by rw [beq_eq_false_iff_ne]; exact hzz
  obtain ⟨m, hm⟩ : ∃ m : Int, max x z = m := ⟨_, rfl⟩
  have hm5 : 0 ≤ m ∧ m ≤ 4 := by omega
  have Hq := Lib.hid (q5.out hx hzz)
  rw [hm] at Hq
  have hite : (if x < z then z else x) = m := by rw [← hm]; split <;> omega
  have hite2 : (if z < x then x else z) = m := by rw [← hm]; split <;> omega
  clear q3 q4 q5 hm
  go_enter Tryd.func40, Tryd.ntmps40
  go_wp2_with fail
  refine (Ha.out _ Hz.out Hr.out hB).mono ?_
  rintro e w2 ⟨rfl, hb2⟩
  have Hb2 := Lib.hid hb2
  clear hb2
  go_wp2_with fail
  refine (Hd.out _ (Hz.out.below Hb2.out) (Hr.out.below (fun q hq => Hb2.out.block q (by omega))) (Nat.le_trans hB Hb2.out.size)).mono ?_
  rintro e w3 ⟨rfl, hb3⟩
  have Hb3 := Lib.hid (Hb2.out.trans (hb3.mono Hb2.out.size))
  clear hb3
  go_wp2
  try rw [hite]
  try rw [hite2]
  try go_wp2
  go_ret
  exact ⟨ret_int (by rw [Hq.out]), Hb3.out⟩
set_option maxRecDepth 100000 in
set_option maxHeartbeats 2000000 in
theorem implLeastOf (p : Nat) (h1 : 1 ≤ p) (h4 : p ≤ 4) (v : Value) (B : Nat) : ∀ T, T < 2 ^ 2 ^ p → LeastC p v B T := by
  intro T
  induction T using Nat.strongRecOn with
  | _ T ih =>
  intro hT w hz hr hB
  have h16 := two16p h4
  have hT6 : T < 65536 := by omega
  have Hr := Lib.hid hr
  obtain ⟨ao, cap, hv, hlc, hcm, _⟩ := hr
  rw [qs_len] at hv hlc
  subst hv
  have hlen := prs_len h4
  unfold maxLen at hcm
  have Hz := Lib.hid hz
  clear hz
  by_cases h0 : T = 0
  · subst h0
    have Hv := Lib.hid (lv_done (p := p) (m := p) (T := 0) (done0_tel.2 (.inl rfl)))
    clear ih
    go_enter Tryd.func28, Tryd.ntmps28
    go_wp2
    go_ret
    exact ⟨ret_int (by rw [Hv.out]), Below.refl _ _⟩
  have hok := tOk_nat h1 h4 hT
  have hk := fun w => implKnownTeller (p : Int) (T : Int) w
  rw [ktV_yes hok h0] at hk
  have Hk := Lib.hid hk
  have hT0 : ((T : Int) == 0) = false := by rw [beq_eq_false_iff_ne]; omega
  have htl := telN_low p T
  clear hk hok
  cases hd : done0 p T with
  | true =>
    have Hv := Lib.hid (lv_done (m := p) hd)
    have ht : 0 ≤ telN p T := (done0_tel.1 hd).resolve_left h0
    clear hd ih
    generalize telN p T = z at *
    have hz1 : (z != -1) = true := by rw [bne_iff_ne]; omega
    have hzb : z < (p : Int) := by omega
    go_enter Tryd.func28, Tryd.ntmps28
    go_wp2_with fail
    refine (Hk.out _ Hz).mono ?_
    rintro e w2 ⟨rfl, hb2⟩
    have Hb2 := Lib.hid hb2
    clear hb2
    go_wp2
    go_ret
    exact ⟨ret_int (by rw [Hv.out]), Hb2.out⟩
  | false =>
    have ht : telN p T = -1 := by
      by_cases h : 0 ≤ telN p T
      · rw [done0_tel.2 (.inr h)] at hd; cases hd
      · omega
    rw [ht] at Hk
    have Hfull : Hid (∀ x, BestK p T (prs p).length x → lv p p T = x) := fun x h => h.full (by omega) hT hd
    have Hq0 : Hid (BestK p T 0 (-1)) := BestK.zero p T
    have Hqb : Hid (∀ k x, BestK p T k x → -1 ≤ x ∧ x ≤ (p : Int) + 1) := fun k x h => by unfold BestK at h; exact h.2
    have Hskip : Hid (∀ k x, k < (prs p).length → BestK p T k x → qK p T k = -1 → BestK p T (k + 1) x) := fun k x hk h hq => h.skip hk hq
    have Htake : Hid (∀ k x, k < (prs p).length → BestK p T k x → qK p T k ≠ -1 → (x = -1 ∨ qK p T k < x) → BestK p T (k + 1) (qK p T k)) := fun k x hk h hq hx => h.take hk hq hx
    have Hleave : Hid (∀ k x, k < (prs p).length → BestK p T k x → qK p T k ≠ -1 → x ≠ -1 → x ≤ qK p T k → BestK p T (k + 1) x) := fun k x hk h hq hx hle => h.leave hk hq hx hle
    have Hask : Hid (∀ k, k < (prs p).length → ∀ w, TabZ w → RdInts w B (.slice ao (prs p).length cap) (nums (qsL p (prs p))) → B ≤ w.heap.size → Calls Tryd.prog 40 #[.int .i64 p, .int .i64 T, .int .i64 (alike p ((prs p).getD k (0, 0)).1 ((prs p).getD k (0, 0)).2 : Nat), .slice ao (prs p).length cap] w fun e w' => e = .returned (.int .i64 (qK p T k)) ∧ Below w.heap.size w w') := fun k hk w hz hr hB => by
      have := implAsksFrom p T ((prs p).getD k (0, 0)).1 ((prs p).getD k (0, 0)).2 h4 hT _ B (fun U hU hU2 => ih U hU hU2) w hz hr hB
      unfold qK
      exact this
    have Hqk : Hid (∀ k, -1 ≤ qK p T k ∧ qK p T k ≤ (p : Int) + 1) := fun k => qK_low p T k
    have Hat : Hid (∀ k, k < (prs p).length → (nums (qsL p (prs p))).getD k 0 = (alike p ((prs p).getD k (0, 0)).1 ((prs p).getD k (0, 0)).2 : Int) ∧ alike p ((prs p).getD k (0, 0)).1 ((prs p).getD k (0, 0)).2 < 65536) := fun k hk => ⟨qs_at hk, alike_small h4⟩
    have Hqs := Lib.hid (qs_len p)
    clear ih hd ht htl hT h0
    generalize nums (qsL p (prs p)) = zs at *
    generalize hL : (prs p).length = L at *
    clear hL
    obtain ⟨wo, rfl⟩ : ∃ wo : World, wo = w := ⟨_, rfl⟩
    go_enter Tryd.func28, Tryd.ntmps28
    go_wp2_with fail
    refine (Hk.out _ Hz).mono ?_
    rintro e w2 ⟨rfl, hb2⟩
    have Hb2 := Lib.hid hb2
    clear hb2
    go_wp2
    go_loopw [7, 9, 10, 21] (fun b _ _ i wr => ∃ (k : Nat) (x : Int), k ≤ L ∧ i = .int .i64 k ∧ b = .int .i64 x ∧ -1 ≤ x ∧ x ≤ 6 ∧ Hid (BestK p T k x) ∧ Below wo.heap.size wo wr) (fun _ _ _ i _ => L - (intOf i).toNat)
    case atStart => exact ⟨0, -1, Nat.zero_le _, rfl, rfl, by omega, by omega, Hq0, Hb2.out⟩
    case round =>
      obtain ⟨k, x, hk, rfl, rfl, hx1, hx6, hbest, hbr⟩ := hrel
      by_cases hlt : k < L
      · have hrw := Hr.out.below (w' := wr) (fun q hq => hbr.block q (by omega))
        have hcells := hrw.at.2.2.2
        obtain ⟨b, off, rfl, hbB, hcell⟩ := hcells k (by rw [Hqs.out]; exact hlt)
        obtain ⟨hat, hys⟩ := Hat.out k hlt
        rw [hat] at hcell
        have Hc := Lib.hid (Hask.out k hlt)
        obtain ⟨hq1, hq6⟩ := Hqk.out k
        have Hs1 := Lib.hid (Hskip.out k x hlt hbest.out)
        have Hs2 := Lib.hid (Htake.out k x hlt hbest.out)
        have Hs3 := Lib.hid (Hleave.out k x hlt hbest.out)
        have Hrw := Lib.hid hrw
        have Hzw := Lib.hid (Hz.out.below hbr)
        have Hbr := Lib.hid hbr
        have hBr : B ≤ wr.heap.size := Nat.le_trans hB hbr.size
        clear hrw hbr hcells hat Hask Hskip Htake Hleave Hat Hqk hbest Hfull Hq0 Hqb Hb2 Hk
        generalize alike p ((prs p).getD k (0, 0)).1 ((prs p).getD k (0, 0)).2 = y at *
        generalize qK p T k = q at *
        by_cases hq : q = -1
        · have Hs := Lib.hid (Hs1.out hq)
          subst hq
          clear Hs1 Hs2 Hs3
          go_wp2_with fail
          refine (Hc.out _ Hzw.out Hrw.out hBr).mono ?_
          rintro e w3 ⟨rfl, hb3⟩
          have Hb3 := Lib.hid (Hbr.out.trans (hb3.mono Hbr.out.size))
          clear hb3
          go_wp2
          go_roundw
          case rel => exact ⟨k + 1, x, by omega, by go_num, rfl, hx1, hx6, Hs, Hb3.out⟩
          case measure => simp [intOf]; omega
        · have hqn : (q != -1) = true := by rw [bne_iff_ne]; exact hq
          by_cases hx : x = -1 ∨ q < x
          · have Hs := Lib.hid (Hs2.out hq hx)
            clear Hs1 Hs2 Hs3
            rcases hx with hx | hx
            all_goals
              try subst hx
              go_wp2_with fail
              refine (Hc.out _ Hzw.out Hrw.out hBr).mono ?_
              rintro e w3 ⟨rfl, hb3⟩
              have Hb3 := Lib.hid (Hbr.out.trans (hb3.mono Hbr.out.size))
              clear hb3
              go_wp2
              go_roundw
              case rel => exact ⟨k + 1, q, by omega, by go_num, rfl, hq1, by omega, Hs, Hb3.out⟩
              case measure => simp [intOf]; omega
          · have hxn : x ≠ -1 := fun h => hx (.inl h)
            have hxq : ¬ q < x := fun h => hx (.inr h)
            have Hs := Lib.hid (Hs3.out hq hxn (by omega))
            have hx0 : (x == -1) = false := by rw [beq_eq_false_iff_ne]; exact hxn
            clear Hs1 Hs2 Hs3 hx
            go_wp2_with fail
            refine (Hc.out _ Hzw.out Hrw.out hBr).mono ?_
            rintro e w3 ⟨rfl, hb3⟩
            have Hb3 := Lib.hid (Hbr.out.trans (hb3.mono Hbr.out.size))
            clear hb3
            go_wp2
            go_roundw
            case rel => exact ⟨k + 1, x, by omega, by go_num, rfl, hx1, hx6, Hs, Hb3.out⟩
            case measure => simp [intOf]; omega
      · obtain rfl : k = L := Nat.le_antisymm hk (Nat.le_of_not_lt hlt)
        have Hv := Lib.hid (Hfull.out x hbest.out)
        have Hbr := Lib.hid hbr
        clear hbr
        go_wp2
        go_ret
        exact ⟨ret_int (by rw [Hv.out]), Hbr.out⟩
set_option maxRecDepth 100000 in
set_option maxHeartbeats 1000000 in
theorem implLeastAsks (p t : Int) (w : World) (hz : Hid (TabZ w)) :
    Calls Tryd.prog 15 #[.int .i64 p, .int .i64 t] w fun e w' => e = .returned (.int .i64 (leastV p t)) ∧ Below w.heap.size w w' := by
  have Ht := Lib.hid (fun w => implTableOk p t w)
  cases hok : tOk p t with
  | false =>
    have Hv := Lib.hid (leastV_no hok)
    rw [hok] at Ht
    clear hok
    go_enter Tryd.func15, Tryd.ntmps15
    go_wp2_with fail
    refine (Ht.out _).mono ?_
    rintro e w' ⟨rfl, rfl⟩
    go_wp2
    go_ret
    exact ⟨ret_int (by rw [Hv.out]), Below.refl _ _⟩
  | true =>
    rw [hok] at Ht
    obtain ⟨P, T, rfl, rfl, h1, h4, hT, hT6⟩ := tOk_parts hok
    have Hv := Lib.hid (leastV_yes hok)
    have Hq := Lib.hid (fun w => implQuestionsFor P h1 h4 w)
    have Hc := Lib.hid (fun v B => implLeastOf P h1 h4 v B T hT)
    unfold LeastC at Hc
    have hq : vals (qsL P (prs P)) = (nums (qsL P (prs P))).map (Value.int .i64) := vals_nums _
    have hql : (qsL P (prs P)).length = (nums (qsL P (prs P))).length := (nums_length _).symm
    rw [hq, hql] at Hq
    clear hok hT hq hql
    generalize lv P P T = z at *
    generalize nums (qsL P (prs P)) = zs at *
    go_enter Tryd.func15, Tryd.ntmps15
    go_wp2_with fail
    refine (Ht.out _).mono ?_
    rintro e w' ⟨rfl, rfl⟩
    go_wp2_with fail
    refine (Hq.out _).mono ?_
    rintro e w2 ⟨v, rfl, hown, hb2⟩
    have Hrd := Lib.hid (RdInts.of_own hown)
    have Hz2 := Lib.hid (hz.out.below hb2)
    have Hb2 := Lib.hid hb2
    clear hown hb2
    go_wp2_with fail
    refine (Hc.out _ _ _ Hz2.out Hrd.out (Nat.le_refl _)).mono ?_
    rintro e w3 ⟨rfl, hb3⟩
    have Hb3 := Lib.hid (Hb2.out.trans (hb3.mono Hb2.out.size))
    clear hb3
    go_wp2
    go_ret
    exact ⟨ret_int (by rw [Hv.out]), Hb3.out⟩
end Go.Proofs.YtbnickgjnglblaaDoor
