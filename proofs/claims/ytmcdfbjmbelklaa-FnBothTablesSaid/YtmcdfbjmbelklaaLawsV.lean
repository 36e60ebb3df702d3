/- Chapter 1's law of two tables together. It answers true, whatever the code. No condition. -/
import Derived.Test.YtmcdfbjmbelklaaLawsU
import Derived.Laws.AppendOwnNone
import Derived.Test.YtmcdfbjmbelklaaDrawP
namespace Go.Proofs.Ytmcdfbjmbelklaa
open Go.RowKit Go.Joins

theorem tabOf_append (l m : List Nat) : tabOf (l ++ m) = tabOf l ||| tabOf m := by
  refine Nat.eq_of_testBit_eq fun j => ?_
  rw [Nat.testBit_or, tabOf_bit, tabOf_bit, tabOf_bit, Bool.eq_iff_iff]
  simp
theorem tow_list {p : Int} {N : Nat} {l : List Nat} (h1 : 1 ≤ p) (h2 : p ≤ 4) (hN : (N : Int) = 2 ^ p.toNat) (hl : ∀ x ∈ l, x < N) : tow p (nums l) = (tabOf l : Int) := by
  rw [tow_yes (by simp [pOk]; omega) ?_, nums_toNat]
  intro j hj
  rw [nums_length] at hj
  rw [nums_getD hj]
  exact wOk_of h1 h2 hN (by omega) (by have := hl _ (List.getElem_mem hj); omega)
/-- the worlds of two lists in common, in the order of the first one -/
def common (l m : List Nat) : List Nat := l.filter fun i => decide (i ∈ m)
theorem tabOf_common {T U N : Nat} (hT : T < 2 ^ N) : tabOf (common (wl T N) (wl U N)) = T &&& U := by
  refine Nat.eq_of_testBit_eq fun j => ?_
  rw [Nat.testBit_and, tabOf_bit, Bool.eq_iff_iff]
  simp only [common, decide_eq_true_eq, List.mem_filter, wl_mem, Bool.and_eq_true]
  constructor
  · rintro ⟨⟨_, h1⟩, _, h2⟩; exact ⟨h1, h2⟩
  · rintro ⟨h1, h2⟩
    have hj : j < N := by
      by_cases h : j < N
      · exact h
      · rw [testBit_false_of_lt hT (by omega)] at h1; cases h1
    exact ⟨⟨hj, h1⟩, hj, h2⟩
theorem count_even (h : Nat → Bool) (M : Nat) (hs : ∀ i, i < M + M → h (M + M - 1 - i) = h i) : ((List.range (M + M)).filter h).length % 2 = 0 := by
  have e : List.range (M + M) = List.range M ++ (List.range M).map (M + ·) := by rw [List.range_add]
  rw [e, List.filter_append, List.length_append, List.filter_map, List.length_map]
  have e2 : ((List.range M).filter (h ∘ (M + ·))).length = ((List.range M).filter h).length := by
    rw [← count_rev h M]
    congr 1
    refine List.filter_congr fun i hi => ?_
    have hi' : i < M := by simpa using hi
    show h (M + i) = h (M - 1 - i)
    rw [← hs (M + i) (by omega)]
    congr 1
    omega
  rw [e2]; omega
theorem common_even {T N : Nat} (hN : N = 2 ∨ N = 4 ∨ N = 8 ∨ N = 16) : (common (wl T N) (wl (turned T N N) N)).length % 2 = 0 := by
  have e : common (wl T N) (wl (turned T N N) N) = (List.range N).filter (fun i => T.testBit i && T.testBit (N - 1 - i)) := by
    unfold common
    rw [show wl T N = (List.range N).filter (fun i => T.testBit i) from rfl, List.filter_filter]
    refine List.filter_congr fun i hi => ?_
    have hi' : i < N := by simpa using hi
    rw [Bool.eq_iff_iff]
    simp only [Bool.and_eq_true, decide_eq_true_eq, wl_mem, turned_bit hi']
    constructor
    · rintro ⟨⟨_, a⟩, b⟩; exact ⟨b, a⟩
    · rintro ⟨a, b⟩; exact ⟨⟨hi', b⟩, a⟩
  rw [e]
  obtain ⟨M, hM⟩ : ∃ M, N = M + M := by rcases hN with h | h | h | h <;> exact ⟨N / 2, by omega⟩
  subst hM
  refine count_even _ M fun i hi => ?_
  rw [show M + M - 1 - (M + M - 1 - i) = i from by omega, Bool.and_comm]
theorem common_snoc (l m : List Nat) (x : Nat) : common (l ++ [x]) m = if x ∈ m then common l m ++ [x] else common l m := by
  unfold common
  rw [List.filter_append]
  split <;> simp_all

/-! ### an append that a guard lets by, of a slice that may be nil -/
theorem wpList_wanted {P : Program} {ops : Array Oper} {Q : Exit → Act → World → Prop} {a : Act} {w : World} {rest : List Oper} {o : Oper} (hw : Region.wanted o (yielded ops a.tmps) = true)
    (h : ∀ K : Act → World → Prop, (∀ a w, wpList P ops Q rest a w → K a w) → o.wp P a w K Q) : wpList P ops Q (o :: rest) a w :=
  wpList_step fun K hK => by rw [if_pos hw]; exact h K hK
theorem wpList_append_any {P : Program} {w : World} {ops : Array Oper} {rest : List Oper} {o : Oper} {a : Act} {Q : Exit → Act → World → Prop} (hw : Region.wanted o (yielded ops a.tmps) = true) (s x : Operand) (t : TypeId)
    (ho : o.op = .call { callee := .builtin .append, args := #[s, x], argTypes := #[t, t] })
    (base : Nat) (e : TypeId) (i : TypeInfo) (z : Value) (bytes : Nat) (ht : P.underlying t = some (.slice e)) (hi : P.info? e = some i) (hz : i.zero = some z)
    (hsize : i.size = 1) (hby : i.bytes = bytes) (hzs : z.cells.size = 1)
    (v : Value) (n : Nat) (xs : List Value) (hs : a.eval s = v) (hown : w.ownsRow base e 1 v n xs)
    (ao : Option Addr) (m c : Nat) (news : List Value) (hx : a.eval x = .slice ao m c) (hl : news.length = m) (hnone : ao = none → m = 0 ∧ c = 0)
    (hnews : ∀ ad, ao = some ad → ∀ j u, news[j]? = some u → w.cell? (ad.add j) = some u) (h1 : ∀ u ∈ news, u.oneCell' = true)
    (h63 : n + m ≤ maxLen) (hbytes : (n + m) * bytes ≤ 140737488355328) (hbase : base ≤ w.heap.size)
    (h : ∀ v' w', w'.ownsRow base e 1 v' (n + m) (xs ++ news) → w.grownBy w' v.ownBlock → wpList P ops Q rest (a.put o.dst v') w') : wpList P ops Q (o :: rest) a w := by
  cases ao with
  | some ad => exact wpList_wanted hw fun K hK => wp_append_own w s x t ho base e i z 1 bytes ht hi hz hsize hby hzs (by decide) v n xs hs hown ad m c news hx (by omega) (hnews ad rfl) h1 h63 hbytes hbase (fun v' w' a1 a2 _ => hK _ _ (h v' w' a1 a2))
  | none =>
    obtain ⟨rfl, rfl⟩ := hnone rfl
    have hn : news = [] := List.eq_nil_of_length_eq_zero hl
    subst hn
    refine wpList_wanted hw fun K hK => ?_
    have hrun := run_append_owned_none (P := P) (w := w) base t o.type e i 1 ht hi v n xs hown
    unfold Oper.wp
    simp [execOp, ho, resolve, invoke, builtin, hs, hx, hrun, Result.andThen]
    exact hK _ _ (h v w (by simpa using hown) (World.grownBy.refl _ _))
theorem nums_append (l m : List Nat) : nums l ++ nums m = nums (l ++ m) := by simp [nums]
theorem own_nil {w : World} {base : Nat} {e : TypeId} {v : Value} {n : Nat} {xs : List Value} (h : w.ownsRow base e 1 v n xs) : ∀ ao k c, v = .slice ao k c → ao = none → n = 0 ∧ c = 0 := by
  rintro ao k c rfl rfl
  rcases h.2 with ⟨h1, h2⟩ | ⟨g, cap, cur, h1, _⟩
  · cases h1; exact ⟨h2, rfl⟩
  · cases h1
theorem rd_news {w : World} {ao : Option Addr} {l : List Nat} {B : Nat}
    (h : ∀ j, j < l.length → ∃ b off, ao = some ⟨b, off, none⟩ ∧ b < B ∧ w.cell? ⟨b, off + j, none⟩ = some (.int .i64 ((nums l).getD j 0))) :
    ∀ ad, ao = some ad → ∀ j u, (vals l)[j]? = some u → w.cell? (ad.add j) = some u := by
  intro ad had j u hu
  have hj : j < l.length := by
    have := (List.getElem?_eq_some_iff.1 hu).1
    simpa [vals] using this
  obtain ⟨b, off, ha, _, hc⟩ := h j hj
  rw [had] at ha
  obtain rfl := Option.some.inj ha
  rw [Addr.add_lit, hc, nums_getD hj]
  rw [← hu]
  simp [vals, hj]
end Go.Proofs.Ytmcdfbjmbelklaa

