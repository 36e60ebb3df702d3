/- Contracts of the program's proofs by cases: the walk through the cases of a proof. -/
import Derived.Test.YtefmoljipbbmmaaDoorMerged31
import Derived.Test.YtefmoljipbbmmaaDoorMerged13
namespace Go.Proofs.YtefmoljipbbmmaaDoor
open Go.RowKit Go.Joins
theorem grown_of_below {w w' : World} (h : Below w.heap.size w w') (row : Option Nat) : w.grownBy w' row := ⟨h.os, h.tape, h.output, h.size, fun k hk _ => h.block k hk⟩
theorem below_of_grownP {w w' : World} {b B : Nat} (h : w.grownBy w' (some b)) (hb : B ≤ b) (hs : b < w.heap.size) : Below B w w' := ⟨h.os, h.tape, h.output, h.size, fun k hk => h.block k (by omega) (fun e => by cases e; omega)⟩
/-- what a person parts a case into, and whether there is something to part -/
theorem partedC (P : Nat) (h1 : 1 ≤ P) (h4 : P ≤ 4) (T : Nat) (kn : List Int) (hkn : KnOk P kn) (who : Int) : ∃ (L1 L2 : Nat) (o : Bool),
    Hid (∀ (cv : Value) (w : World), Calls Tryd.prog 65 #[gv (P : Int) T cv, .int .i64 (agreeN P kn), .int .i64 who] w fun e w' => e = .returned (.tuple #[.int .i64 L1, .int .i64 L2, .bool o]) ∧ Below w.heap.size w w') ∧
    o = (decide (0 ≤ who ∧ who < P) && decide (kn.getD who.toNat 0 < 0)) ∧ (o = true → L1 = agreeN P (kn.set who.toNat 0) ∧ L2 = agreeN P (kn.set who.toNat 1)) := by
  have hA : Hid (agreeN (P : Int) kn < 65536) := agreeN_lt (by omega)
  by_cases hw : 0 ≤ who ∧ who < P
  · obtain ⟨k, rfl⟩ := Int.eq_ofNat_of_zero_le hw.1
    obtain ⟨a1, a2⟩ := agree_parts (k := k) h1 h4 hkn (by omega)
    rw [Int.toNat_natCast]
    refine ⟨_, _, _, fun cv w => implParted P (agreeN P kn) T k (by omega) (by omega) (by omega) hA cv w, ?_, ?_⟩
    · rw [decide_eq_true hw, Bool.true_and]
      by_cases hn : kn.getD k 0 < 0
      · obtain ⟨b1, b2, b3, b4⟩ := a2 hn
        rw [b1, b2, decide_eq_true hn, decide_eq_true b3, decide_eq_true b4]; rfl
      · rw [decide_eq_false hn]
        rcases a1 hn with h | h
        · rw [h]; rfl
        · rw [h]; simp
    · intro ho
      by_cases hn : kn.getD k 0 < 0
      · exact ⟨(a2 hn).1, (a2 hn).2.1⟩
      · rcases a1 hn with h | h <;> rw [h] at ho <;> simp at ho
  · exact ⟨0, 0, false, fun cv w => implPartedOut P (agreeN P kn) T who hw cv w, by rw [decide_eq_false hw]; rfl, fun h => by cases h⟩
theorem and_shr1 {m k : Nat} (hm : m < 4294967296) : bits BinOp.and IntKind.i64 ((m : Int) / 2 ^ k) 1 = if m.testBit k = true then 1 else 0 := by
  have e : ((m : Int) / 2 ^ k) = ((m / 2 ^ k : Nat) : Int) := by simp
  have h := bits_and_nat (m / 2 ^ k) 1 (by have := Nat.div_le_self m (2 ^ k); omega) (by decide)
  rw [e, show (1 : Int) = ((1 : Nat) : Int) from rfl, h, Nat.and_one_is_mod, Nat.testBit_eq_decide_div_mod_eq]
  have := Nat.mod_lt (m / 2 ^ k) (show 0 < 2 by decide)
  by_cases h1 : m / 2 ^ k % 2 = 1
  · rw [h1]; simp
  · rw [decide_eq_false h1, show m / 2 ^ k % 2 = 0 by omega]; rfl
/-- steps of a walk -/
theorem walk_leaf {P : Nat} {hf : Nat → Bool} {cl : List (Nat → Bool)} {sp : List Sp3} {f m : Nat} {fr g : Int} {kn : List Int} (hg : g < 0) : walkF P hf cl sp (f + 1) m fr g kn = if closeB P hf cl g kn = true then some m else none := by
  rw [walkF, if_pos hg]
theorem walk_out {P : Nat} {hf : Nat → Bool} {cl : List (Nat → Bool)} {sp : List Sp3} {f m : Nat} {fr g : Int} {kn : List Int} (hg : 0 ≤ g) (h : ¬ (fr < g ∧ g < sp.length) ∨ m.testBit g.toNat = true) : walkF P hf cl sp f m fr g kn = none := by
  cases f with
  | zero => rfl
  | succ f =>
    rw [walkF, if_neg (by omega), if_neg]
    rw [Bool.and_eq_true, decide_eq_true_eq, Bool.not_eq_true']
    rintro ⟨h1, h2⟩
    rcases h with h | h
    · exact h h1
    · rw [h] at h2; cases h2
theorem walk_in {P : Nat} {hf : Nat → Bool} {cl : List (Nat → Bool)} {sp : List Sp3} {f m G : Nat} {fr who x y : Int} {kn : List Int} (hs : sp.getD G sp0 = (who, x, y)) (h1 : fr < (G : Int)) (h2 : (G : Int) < sp.length) (h3 : m.testBit G = false) :
    walkF P hf cl sp (f + 1) m fr G kn = if (decide (0 ≤ who ∧ who < P) && decide (kn.getD who.toNat 0 < 0)) = true then
        (match walkF P hf cl sp f (m ||| 2 ^ G) G x (kn.set who.toNat 0) with
        | none => none
        | some m1 => walkF P hf cl sp f m1 G y (kn.set who.toNat 1)) else none := by
  rw [walkF, if_neg (by omega), Int.toNat_natCast, hs, if_pos (by rw [decide_eq_true (show fr < (G : Int) ∧ (G : Int) < sp.length from ⟨h1, h2⟩), h3]; rfl)]
  rfl
theorem walk_lt {P : Nat} {hf : Nat → Bool} {cl : List (Nat → Bool)} {sp : List Sp3} (hl : sp.length ≤ 15) : ∀ (f m : Nat) (fr g : Int) (kn : List Int) (m' : Nat), m < 2 ^ 15 → walkF P hf cl sp f m fr g kn = some m' → m' < 2 ^ 15 := by
  intro f
  induction f with
  | zero => intro m fr g kn m' _ h; cases h
  | succ f ih =>
    intro m fr g kn m' hm h
    by_cases hg : g < 0
    · rw [walk_leaf hg] at h
      split at h
      · cases h; exact hm
      · cases h
    · obtain ⟨k, x, y, m1, _, _, _, _, h2, _, ha, hb⟩ := walk_node (by omega) h
      exact ih _ _ _ _ _ (ih _ _ _ _ _ (Nat.or_lt_two_pow hm (Nat.pow_lt_pow_right (by decide) (by omega))) ha) hb
/-- the tables of the claims, and splits, that a call reads which writes one block alone -/
def KeepsT (w : World) (b : Nat) (cv : Value) (Z : List Nat) : Prop := ∀ w', w.grownBy w' (some b) → RdTabs w' w'.heap.size cv Z
def KeepsS (w : World) (b : Nat) (sv : Value) (sp : List Sp3) : Prop := ∀ w', w.grownBy w' (some b) → RdSplits w' w'.heap.size sv sp
theorem KeepsT.now {w : World} {b : Nat} {cv : Value} {Z : List Nat} (h : KeepsT w b cv Z) : RdTabs w w.heap.size cv Z := h w (World.grownBy.refl _ _)
theorem KeepsS.now {w : World} {b : Nat} {sv : Value} {sp : List Sp3} (h : KeepsS w b sv sp) : RdSplits w w.heap.size sv sp := h w (World.grownBy.refl _ _)
theorem KeepsT.next {w w' : World} {b : Nat} {cv : Value} {Z : List Nat} (h : KeepsT w b cv Z) (hg : w.grownBy w' (some b)) : KeepsT w' b cv Z := fun w2 hg2 => h w2 (grown_trans hg hg2)
theorem KeepsS.next {w w' : World} {b : Nat} {sv : Value} {sp : List Sp3} (h : KeepsS w b sv sp) (hg : w.grownBy w' (some b)) : KeepsS w' b sv sp := fun w2 hg2 => h w2 (grown_trans hg hg2)
theorem KeepsT.drew {w : World} {b : Nat} {cv : Value} {Z : List Nat} (h : KeepsT w b cv Z) : KeepsT w.drew b cv Z := fun w2 hg2 => h w2 ⟨hg2.os, hg2.tape, hg2.output, hg2.size, hg2.block⟩
theorem KeepsS.drew {w : World} {b : Nat} {sv : Value} {sp : List Sp3} (h : KeepsS w b sv sp) : KeepsS w.drew b sv sp := fun w2 hg2 => h w2 ⟨hg2.os, hg2.tape, hg2.output, hg2.size, hg2.block⟩
theorem shl_pow {L : Nat} (h : L ≤ 15) : IntKind.i64.wrap (2 ^ L) = ((2 ^ L : Nat) : Int) ∧ wrap64 (2 ^ L) = ((2 ^ L : Nat) : Int) := by
  have : ∀ l : Fin 16, IntKind.i64.wrap (2 ^ (l : Nat)) = ((2 ^ (l : Nat) : Nat) : Int) ∧ wrap64 (2 ^ (l : Nat)) = ((2 ^ (l : Nat) : Nat) : Int) := by decide +kernel
  exact this ⟨L, by omega⟩
theorem sub_one_w {N : Nat} (h1 : 1 ≤ N) (h : N < 65536) : IntKind.i64.wrap ((N : Int) - 1) = ((N - 1 : Nat) : Int) ∧ wrap64 ((N : Int) - 1) = ((N - 1 : Nat) : Int) := by
  have e : (N : Int) - 1 = ((N - 1 : Nat) : Int) := by omega
  have e2 : IntKind.i64.wrap ((N : Int) - 1) = ((N - 1 : Nat) : Int) := by rw [IntWalk.i64_in _ (by constructor <;> omega), e]
  exact ⟨e2, by rw [IntWalk.wrap64_in _ (by constructor <;> omega), e]⟩
theorem KeepsS.of {w : World} {b B : Nat} {sv : Value} {sp : List Sp3} (h : RdSplits w B sv sp) (hB : B ≤ b) (hb : b < w.heap.size) : KeepsS w b sv sp := fun w' hg =>
  (h.below (fun k hk => hg.block k (by omega) (fun e => by cases e; omega))).mono (by have := hg.size; omega)
theorem KeepsT.of {w : World} {b B : Nat} {cv : Value} {Z : List Nat} (h : RdTabs w B cv Z) (hB : B ≤ b) (hb : b < w.heap.size) : KeepsT w b cv Z := fun w' hg =>
  (h.below (fun k hk => hg.block k (by omega) (fun e => by cases e; omega))).mono (by have := hg.size; omega)
theorem KeepsT.own {w : World} {b base : Nat} {cv : Value} {Z : List Nat} (h : w.ownsRow base 3 1 cv Z.length (intsN Z)) (h6 : Z.length ≤ 6) (hz : ∀ j, Z.getD j 0 < 65536) (hb : b < base) : KeepsT w b cv Z := fun _ hg =>
  RdTabs.of_own (own_row h hg hb) h6 hz
/-- what a call does that walks from a place on: it tells, and leaves the bits -/
def ProvesOut (b : Nat) (p T cv sv : Value) (R : Option Nat) (w : World) (e : Ending) (w' : World) : Prop := e = .returned (.bool R.isSome) ∧ w.grownBy w' (some b) ∧ ∃ m' : Nat, Box5 w' b p T cv sv (.int .i64 m') ∧ ∀ x : Nat, R = some x → m' = x
theorem ProvesOut.mk {b : Nat} {p T cv sv : Value} {R : Option Nat} {w w' : World} {o : Bool} (h : R.isSome = o) (hg : w.grownBy w' (some b)) {m' : Nat} (hx : Box5 w' b p T cv sv (.int .i64 m')) (hm : ∀ x : Nat, R = some x → m' = x) : ProvesOut b p T cv sv R w (.returned (.bool o)) w' := ⟨by rw [h], hg, m', hx, hm⟩
theorem ProvesOut.out {b : Nat} {p T cv sv : Value} {R : Option Nat} {w w' : World} {e : Ending} (h : ProvesOut b p T cv sv R w e w') : e = .returned (.bool R.isSome) ∧ w.grownBy w' (some b) ∧ ∃ m' : Nat, Box5 w' b p T cv sv (.int .i64 m') ∧ ∀ x : Nat, R = some x → m' = x := h
theorem none_any {m : Nat} : ∀ x : Nat, (none : Option Nat) = some x → m = x := fun x h => by cases h
def ProvesC (F P T : Nat) (Z : List Nat) (hf : Nat → Bool) (cl : List (Nat → Bool)) (sp : List Sp3) (f : Nat) : Prop := ∀ (m : Nat) (fr g : Int) (kn : List Int), KnOk P kn → m < 2 ^ 15 → (g < 0 → 1 ≤ f) → (fr < g → g < sp.length → sp.length - g.toNat < f) → -1 ≤ fr → fr < 16 → I64 g →
  ∀ (b : Nat) (cv sv : Value) (w : World), Box5 w b (.int .i64 P) (.int .i64 T) cv sv (.int .i64 m) → KeepsT w b cv Z → KeepsS w b sv sp →
    Calls Tryd.prog F #[.pointer (some ⟨b, 0, none⟩), .int .i64 (agreeN P kn), .int .i64 fr, .int .i64 g] w (ProvesOut b (.int .i64 P) (.int .i64 T) cv sv (walkF P hf cl sp f m fr g kn) w)
attribute [local irreducible] holds tabN tabV holdsV sameV followsV alwaysV matterV claimOk mayT mayV ctabV ctabN storyV storyOk storyN storyT ctermV ctermL clT intsN agreeN closeB closeT hfV clL walkF KnOk ProvesOut
set_option maxRecDepth 100000 in
set_option maxHeartbeats 8000000 in
theorem implProves_step (P T : Nat) (h1 : 1 ≤ P) (h4 : P ≤ 4) (Z : List Nat) (hT : Hid (T < 65536)) (hf : Nat → Bool) (cl : List (Nat → Bool)) (sp : List Sp3) (hl : sp.length ≤ 15) (hs64 : S64 sp)
    (hcl : ∀ (g : Int) (kn : List Int), g < 0 → closeB P hf cl g kn = closeT (agreeN P kn) T Z g) (f : Nat) (ih : ∀ f', f = f' + 1 → ProvesC 48 P T Z hf cl sp f') : ProvesC 48 P T Z hf cl sp f := by
  intro m fr g kn hkn hm hf1 hf2 hfr1 hfr2 hg64 b cv sv w hx ht hr
  have Hx := Lib.hid hx
  have Ht := Lib.hid ht
  have Hr := Lib.hid hr
  have hA : Hid (agreeN (P : Int) kn < 65536) := agreeN_lt (by omega)
  obtain ⟨so, scap, rfl, hsl, hsm, _, _⟩ := hr.now
  obtain ⟨co, ccap, rfl, hcle, hcm, _⟩ := ht.now.form
  unfold maxLen at hsm hcm
  obtain ⟨x1, x2, x3, x4, x5, x6, x7, x8, x9, x10, x11⟩ := hx
  have hsl' := hsl
  by_cases hg : g < 0
  · obtain ⟨f', rfl⟩ : ∃ f', f = f' + 1 := ⟨f - 1, by have := hf1 hg; omega⟩
    rw [walk_leaf hg, hcl g kn hg]
    unfold I64 at hg64
    have Hc := Lib.hid (fun w hc => implClosedBy (P : Int) (agreeN P kn) T Z g hg (by omega) hA hT w.heap.size (.slice co Z.length ccap) w hc (Nat.le_refl _))
    clear ih hcl hf1 hf2 hr ht
    generalize closeT (agreeN P kn) T Z g = C at *
    generalize agreeN (P : Int) kn = A at *
    have hR1 : (if C = true then some m else none : Option Nat).isSome = C := by cases C <;> rfl
    have hR2 : Hid (∀ x, (if C = true then some m else none : Option Nat) = some x → m = x) := fun x h => by
      cases C
      · cases h
      · cases h; rfl
    generalize (if C = true then some m else none : Option Nat) = R at *
    have HR1 := Lib.hid hR1
    clear hR1
    generalize sp.length = L at *
    generalize Z.length = n at *
    go_enter Tryd.func48, Tryd.ntmps48
    go_wp2_with fail
    refine (Hc.out _ Ht.out.now).mono ?_
    rintro e w2 ⟨rfl, hb2⟩
    have Hx2 := Lib.hid (Hx.out.below hb2)
    have Hg2 := Lib.hid (grown_of_below hb2 (some b)); clear hb2
    go_wp2
    go_ret
    exact ProvesOut.mk HR1.out Hg2.out Hx2.out hR2.out
  · obtain ⟨G, rfl⟩ := Int.eq_ofNat_of_zero_le (show 0 ≤ g by omega)
    have HAA := hA
    clear hcl hr ht hg hf1
    by_cases hle : (G : Int) ≤ fr
    · rw [walk_out (by omega) (.inl (by omega))]
      generalize agreeN (P : Int) kn = A at *
      generalize sp.length = L at *
      generalize Z.length = n at *
      clear ih
      go_enter Tryd.func48, Tryd.ntmps48
      go_wp2
      go_ret
      exact ProvesOut.mk rfl (World.grownBy.refl _ _) Hx.out none_any
    by_cases hge : sp.length ≤ G
    · rw [walk_out (by omega) (.inl (by omega))]
      generalize agreeN (P : Int) kn = A at *
      generalize sp.length = L at *
      generalize Z.length = n at *
      clear ih
      go_enter Tryd.func48, Tryd.ntmps48
      go_wp2
      go_ret
      exact ProvesOut.mk rfl (World.grownBy.refl _ _) Hx.out none_any
    have hbit := and_one_val (T := m) (k := G) (by omega)
    have hG15 : G < 15 := by omega
    have hlt : G < sp.length := by omega
    have hltI : (G : Int) < (sp.length : Int) := by omega
    cases hb : m.testBit G with
    | true =>
      rw [walk_out (by omega) (.inr (by rw [Int.toNat_natCast]; exact hb))]
      rw [hb, if_pos rfl] at hbit
      have hmin : min G 64 = G := Nat.min_eq_left (by omega)
      generalize agreeN (P : Int) kn = A at *
      generalize sp.length = L at *
      generalize Z.length = n at *
      clear ih hb hf2 hm hg64
      go_enter Tryd.func48, Tryd.ntmps48
      go_wp2
      go_ret
      exact ProvesOut.mk rfl (World.grownBy.refl _ _) Hx.out none_any
    | false =>
      obtain ⟨f', rfl⟩ : ∃ f', f = f' + 1 := ⟨f - 1, by have := hf2 (by omega) (by omega); omega⟩
      have hfG := hf2 (by omega) (by omega)
      rw [Int.toNat_natCast] at hfG
      have ih' := ih f' rfl
      unfold ProvesC at ih'
      have Ih := Lib.hid ih'
      rw [hb, if_neg (by decide)] at hbit
      have hor := or_shlN (t := m) (x := G) (N := 15) hm (by decide) hG15
      rw [Nat.min_eq_left (by omega), Nat.one_shiftLeft] at hor
      have hpG : 2 ^ G < 32768 := Nat.pow_lt_pow_right (a := 2) (n := 15) (by decide) hG15
      have hor2 : bits BinOp.or IntKind.i64 (m : Int) (IntKind.i64.wrap (2 ^ G)) = ((m ||| 2 ^ G : Nat) : Int) := by
        have e : ((2 : Int) ^ G) = ((2 ^ G : Nat) : Int) := by simp
        have hz : ((2 ^ G : Nat) : Int) < 32768 := by exact_mod_cast hpG
        have hz0 : (0 : Int) ≤ ((2 ^ G : Nat) : Int) := Int.natCast_nonneg _
        rw [e, IntWalk.i64_in _ (by constructor <;> omega)]
        exact bits_or_nat _ _ (by omega) (by omega)
      have hM1 : m ||| 2 ^ G < 2 ^ 15 := Nat.or_lt_two_pow hm (Nat.pow_lt_pow_right (by decide) (by omega))
      have hsget : sp.getD G sp0 = sp[G] := by simp [List.getD, hlt]
      have hI := hs64 _ (List.getElem_mem hlt)
      rw [← hsget] at hI
      have hstep := fun (q : Sp3) (hs : sp.getD G sp0 = q) => walk_in (P := P) (hf := hf) (cl := cl) (f := f') (m := m) (fr := fr) (kn := kn) (who := q.1) (x := q.2.1) (y := q.2.2) hs (by omega) (by omega) hb
      obtain ⟨hx1, hg1⟩ := Hx.out.set4 (.int .i64 ((m ||| 2 ^ G : Nat) : Int))
      obtain ⟨_, _, hsv, _, _, _, hsc1⟩ := Hr.out _ hg1
      cases hsv
      obtain ⟨b1, off1, hso, hb1B, hs1', hs2', hs3'⟩ := hsc1 G hlt
      generalize sp.getD G sp0 = q at *
      obtain ⟨who, x, y⟩ := q
      have hstep' := hstep _ rfl
      dsimp only at hstep' hI hs1' hs2' hs3'
      obtain ⟨L1, L2, o, Hp, ho, hL⟩ := partedC P h1 h4 T kn hkn who
      rw [← ho] at hstep'
      rw [hstep']
      generalize m ||| 2 ^ G = M1 at *
      obtain ⟨R, hR⟩ : ∃ R, R = (if o = true then (match walkF P hf cl sp f' M1 G x (kn.set who.toNat 0) with | none => none | some m1 => walkF P hf cl sp f' m1 G y (kn.set who.toNat 1)) else none) := ⟨_, rfl⟩
      have HRf : Hid (o = false → R = none) := fun h => by rw [hR, h]; rfl
      have HRn : Hid (o = true → walkF P hf cl sp f' M1 G x (kn.set who.toNat 0) = none → R = none) := fun h h' => by rw [hR, h, h']; rfl
      have HRs : Hid (o = true → ∀ m1, walkF P hf cl sp f' M1 G x (kn.set who.toNat 0) = some m1 → R = walkF P hf cl sp f' m1 G y (kn.set who.toNat 1)) := fun h m1 h' => by rw [hR, h, h']; rfl
      rw [← hR]
      clear hR
      have hw1s : (w.setCell ⟨b, 4, none⟩ (.int .i64 M1)).heap.size = w.heap.size := by simp [World.setCell]
      have HX1 := Lib.hid hx1
      have Hg1 := Lib.hid hg1
      have Hr1 := Lib.hid (Hr.out.next hg1)
      have Ht1 := Lib.hid (Ht.out.next hg1)
      have Hkn := Lib.hid hkn
      have Ho := Lib.hid ho
      have HL := Lib.hid hL
      have HI := Lib.hid hI
      have hmin : min G 64 = G := Nat.min_eq_left (by omega)
      subst hso
      clear ih ih' hstep hstep' hsget hg1 hkn ho hL hI hs64 hf2 hsc1 hb1B
      have hfr : ¬ (G : Int) ≤ fr := hle
      generalize hAn : agreeN (P : Int) kn = A at *
      go_enter Tryd.func48, Tryd.ntmps48
      go_wp2_with fail
      go_region_law (fail)
      obtain ⟨w1, hw1⟩ : ∃ w1, w1 = w.setCell ⟨b, 4, none⟩ (.int .i64 M1) := ⟨_, rfl⟩
      rw [← hw1]
      rw [← hw1] at hx1 HX1 Hg1 Hr1 Ht1 hs1' hs2' hs3' hw1s
      clear hw1 hw1s
      clear x1 x2 x3 x4 x5 x6 x7 x8 x9 x10 x11
      obtain ⟨x1, x2, x3, x4, x5, x6, x7, x8, x9, x10, x11⟩ := hx1
      obtain ⟨w2, hw2, hy2, hb2, hs2⟩ := Box3.new w1 (.int .i64 who) (.int .i64 x) (.int .i64 y) 85
      have hy2' := hy2
      have hx2 := HX1.out.below hb2
      have HX2 := Lib.hid hx2
      have HY2 := Lib.hid hy2
      have Hb2 := Lib.hid hb2
      have Hs2 := Lib.hid hs2
      clear hb2 hs2
      go_upto_region 7 with fail
      rw [← hw2]
      clear hw2 hs1' hs2' hs3' x1 x2 x3 x4 x5 x6 x7 x8 x9 x10 x11
      obtain ⟨x1, x2, x3, x4, x5, x6, x7, x8, x9, x10, x11⟩ := hx2
      obtain ⟨y1, y2, y3, y4, y5, y6, y7⟩ := hy2
      go_region_law
        (first
          | (go_simp
             go_at_call 65
             refine (Hp.out _ _).mono ?_
             rintro e w3 ⟨rfl, hb3'⟩
             have hb3 : Below w2.heap.size w2 w3 := by first | exact hb3' | exact below_undrewS hb3' | exact below_undrewN hb3' | exact below_undrewS (below_undrewS hb3')
             go_must (have hx3 := HX2.out.below hb3
                      have HX3 := Lib.hid hx3
                      have hy3 := HY2.out.below hb3
                      have HY3 := Lib.hid hy3
                      have hg3 : w1.grownBy w3 (some b) := grown_trans (grown_of_below Hb2.out (some b)) (grown_of_below hb3 (some b))
                      have HG3 := Lib.hid (grown_trans Hg1.out hg3)
                      have Hr3 := Lib.hid (Hr1.out.next hg3)
                      have Ht3 := Lib.hid (Ht1.out.next hg3)
                      obtain ⟨x1, x2, x3, x4, x5, x6, x7, x8, x9, x10, x11⟩ := hx3
                      obtain ⟨y1, y2, y3, y4, y5, y6, y7⟩ := hy3
                      clear hb3 hb3' hg3))
          | fail)
      all_goals
        cases o with
        | false =>
          have hR := HRf.out rfl
          have HRe := Lib.hid (show R.isSome = false by rw [hR]; rfl)
          have HRx := Lib.hid (show ∀ x : Nat, R = some x → m = x by rw [hR]; exact none_any)
          have HRx' := Lib.hid (show ∀ x : Nat, R = some x → M1 = x by rw [hR]; exact none_any)
          clear hR HRf HRn HRs Hp HL Ho Ih
          go_wp2
          go_ret
          exact ProvesOut.mk HRe.out HG3.out HX3.out HRx'.out
        | true =>
          obtain ⟨e1, e2⟩ := HL.out rfl
          have hwho : 0 ≤ who ∧ who < P := by
            have := Ho.out.symm
            rw [Bool.and_eq_true, decide_eq_true_eq] at this
            exact this.1
          have HRn' := Lib.hid (HRn.out rfl)
          have HRs' := Lib.hid (HRs.out rfl)
          have hk0 := Hkn.out.set (k := who.toNat) (by omega) (z := 0) (by omega)
          have hk1 := Hkn.out.set (k := who.toNat) (by omega) (z := 1) (by omega)
          generalize kn.set who.toNat 0 = kn0 at *
          generalize kn.set who.toNat 1 = kn1 at *
          have hcall := Ih.out M1 (G : Int) x kn0 hk0 hM1 (fun _ => by omega) (fun _ _ => by omega) (by omega) (by omega) HI.out.2.1 b (.slice co Z.length ccap) (.slice (some ⟨b1, off1, none⟩) sp.length scap) w3 HX3.out Ht3.out Hr3.out
          have hcall2 := fun (m1 : Nat) (hm1 : m1 < 2 ^ 15) w4 h1 h2 h3 => Ih.out m1 (G : Int) y kn1 hk1 hm1 (fun _ => by omega) (fun _ _ => by omega) (by omega) (by omega) HI.out.2.2 b (.slice co Z.length ccap) (.slice (some ⟨b1, off1, none⟩) sp.length scap) w4 h1 h2 h3
          have Hlt := Lib.hid (fun (m' : Nat) (h : walkF P hf cl sp f' M1 (G : Int) x kn0 = some m') => walk_lt hl f' M1 G x kn0 m' hM1 h)
          rw [← e1] at hcall
          rw [← e2] at hcall2
          have Hcall := Lib.hid hcall
          have Hcall2 := Lib.hid hcall2
          clear hcall hcall2 e1 e2 hk0 hk1 hwho HRf HRn HRs Hp HL Ho Ih HI Hkn hl hfG
          generalize hR1 : walkF P hf cl sp f' M1 (G : Int) x kn0 = R1 at *
          have hGb : ¬ w1.heap.size = b := by have := HX1.out.lt; omega
          clear hR1
          go_wp2_with fail
          refine Hcall.out.mono ?_
          intro e w4 hout
          obtain ⟨rfl, hg4, m1, hx4, hm1⟩ := hout.out
          have HX4 := Lib.hid hx4
          have HG4 := Lib.hid (grown_trans HG3.out hg4)
          have hy4 := HY3.out.grown hg4 (by intro e; cases e; exact hGb rfl)
          have hbw3 : b < w3.heap.size := HX3.out.lt
          have Hr4 := Lib.hid (Hr3.out.next hg4)
          have Ht4 := Lib.hid (Ht3.out.next hg4)
          clear x1 x2 x3 x4 x5 x6 x7 x8 x9 x10 x11 y1 y2 y3 y4 y5 y6 y7 hg4
          cases R1 with
          | none =>
            have hR := HRn'.out rfl
            have HRe := Lib.hid (show R.isSome = false by rw [hR]; rfl)
            have HRx := Lib.hid (show ∀ x : Nat, R = some x → m1 = x by rw [hR]; exact none_any)
            clear hR HRn' HRs' Hcall2 hm1 Hlt
            rw [show (none : Option Nat).isSome = false from rfl]
            go_wp2
            go_ret
            exact ProvesOut.mk HRe.out HG4.out HX4.out HRx.out
          | some m2 =>
            obtain rfl : m1 = m2 := hm1 m2 rfl
            have hR := HRs'.out m1 rfl
            have hc2 := Hcall2.out m1 (Hlt.out m1 rfl) w4 HX4.out Ht4.out Hr4.out
            rw [← hR] at hc2
            have Hc2 := Lib.hid hc2
            obtain ⟨x1, x2, x3, x4, x5, x6, x7, x8, x9, x10, x11⟩ := hx4
            obtain ⟨y1, y2, y3, y4, y5, y6, y7⟩ := hy4
            clear hR hc2 HRn' HRs' Hcall2 hm1 Hlt Hcall
            rw [show (some m1 : Option Nat).isSome = true from rfl]
            go_wp2_with fail
            refine Hc2.out.mono ?_
            intro e w5 hout2
            obtain ⟨rfl, hg5, m3, hx5, hm3⟩ := hout2.out
            have HX5 := Lib.hid hx5
            have HG5 := Lib.hid (grown_trans HG4.out hg5)
            have HM3 := Lib.hid hm3
            clear hx5 hg5 hm3 hout2 hout
            generalize hRs : R.isSome = o at *
            have HRs := Lib.hid hRs
            clear hRs
            cases o
            all_goals
              go_wp2
              go_ret
              exact ProvesOut.mk HRs.out HG5.out HX5.out HM3.out
theorem implProves (P T : Nat) (h1 : 1 ≤ P) (h4 : P ≤ 4) (Z : List Nat) (hT : Hid (T < 65536)) (hf : Nat → Bool) (cl : List (Nat → Bool)) (sp : List Sp3) (hl : sp.length ≤ 15) (hs64 : S64 sp)
    (hcl : ∀ (g : Int) (kn : List Int), g < 0 → closeB P hf cl g kn = closeT (agreeN P kn) T Z g) : ∀ f, ProvesC 48 P T Z hf cl sp f := by
  intro f
  induction f with
  | zero => exact implProves_step P T h1 h4 Z hT hf cl sp hl hs64 hcl 0 (fun f' h => by omega)
  | succ f ih => exact implProves_step P T h1 h4 Z hT hf cl sp hl hs64 hcl (f + 1) (fun f' h => (Nat.succ.inj h) ▸ ih)
end Go.Proofs.YtefmoljipbbmmaaDoor
