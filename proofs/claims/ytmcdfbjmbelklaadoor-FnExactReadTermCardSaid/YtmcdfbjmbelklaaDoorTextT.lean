/- Contract of the program's text of a term. -/
import Derived.Test.YtmcdfbjmbelklaaDoorTextM
import Derived.Test.YtmcdfbjmbelklaaDoorMarksB
import Derived.Test.YtmcdfbjmbelklaaDoorDrawP
namespace Go.Proofs.YtmcdfbjmbelklaaDoor
open Go.RowKit Go.Joins

abbrev TX : TypeId := 51
theorem Tryd.infoX : (Tryd.prog.info? 51).map (fun i => (i.zero, i.size, i.bytes)) = some (some (.agg #[.string ⟨#[]⟩, .int .i64 0]), 2, 24) := by kernel_rfl
def tcell (t : Tm) : List Value := [sv (txt t), .int .i64 t.last]
/-- the cells of a stack, its top part given first -/
def scells : List Tm → List Value
  | [] => []
  | t :: r => scells r ++ tcell t
theorem scells_len : ∀ s : List Tm, (scells s).length = s.length * 2
  | [] => rfl
  | t :: r => by simp [scells, scells_len r, tcell]; omega
theorem scells_one : ∀ s : List Tm, ∀ u ∈ scells s, u.oneCell' = true
  | [], u, h => by simp [scells] at h
  | t :: r, u, h => by
    rcases List.mem_append.1 h with h | h
    · exact scells_one r u h
    · simp [tcell] at h; rcases h with rfl | rfl <;> rfl
theorem own_cut {w : World} {base size n g cap k : Nat} {e : TypeId} {xs : List Value} (h : w.ownsRow base e size (.slice (some ⟨g, 0, none⟩) n cap) n xs) (hk : k ≤ n) :
    w.ownsRow base e size (.slice (some ⟨g, 0, none⟩) k cap) k (xs.take (k * size)) := by
  rcases h.2 with ⟨h', _⟩ | ⟨g', cap', cur, h', hb, hg, hnc, hcm, hcs, htake⟩
  · simp at h'
  · simp only [Value.slice.injEq, Option.some.injEq, Addr.mk.injEq, and_true, true_and] at h'
    obtain ⟨rfl, rfl⟩ := h'
    have hkm : k * size ≤ n * size := Nat.mul_le_mul_right _ hk
    refine ⟨by rw [List.length_take, h.1]; omega, .inr ⟨g, cap, cur, rfl, hb, hg, by omega, hcm, hcs, ?_⟩⟩
    rw [← htake, List.take_take, Nat.min_eq_left hkm]
theorem own_cutr {w : World} {base n g cap k : Nat} {xs ys : List Value} (h : w.ownsRow base TX 2 (.slice (some ⟨g, 0, none⟩) n cap) n xs) (hk : k ≤ n) (hy : xs.take (k * 2) = ys) :
    w.ownsRow base TX 2 (.slice (some ⟨g, 0, none⟩) k cap) k ys := by rw [← hy]; exact own_cut h hk
theorem own_part {w : World} {base L g cap : Nat} {r : List Tm} {t : Tm} {T : List UInt8} {k : Int} (hl : r.length = L) (hT : txt t = T) (hk : t.last = k) (h : w.ownsRow base TX 2 (.slice (some ⟨g, 0, none⟩) (L + 1) cap) (L + 1) (scells r ++ [sv T, .int .i64 k])) :
    w.ownsRow base TX 2 (.slice (some ⟨g, 0, none⟩) (L + 1) cap) (t :: r).length (scells (t :: r)) := by
  subst hT; subst hk; subst hl; exact h
theorem part_at {w : World} {base g cap n j : Nat} {xs : List Value} {l : List UInt8} {k : Int} (h : w.ownsRow base TX 2 (.slice (some ⟨g, 0, none⟩) n cap) n xs) (hj : j < n) (h1 : xs[j * 2]? = some (sv l)) (h2 : xs[j * 2 + 1]? = some (.int .i64 k)) :
    w.cell? ⟨g, j * 2, none⟩ = some (sv l) ∧ w.cell? ⟨g, j * 2 + 1, none⟩ = some (.int .i64 k) := ⟨by rw [h.cellAt _ (by omega)]; exact h1, by rw [h.cellAt _ (by omega)]; exact h2⟩
theorem scells_top (t : Tm) (r : List Tm) : (scells (t :: r))[r.length * 2]? = some (sv (txt t)) ∧ (scells (t :: r))[r.length * 2 + 1]? = some (.int .i64 t.last) := by
  have hl := scells_len r
  constructor
  · rw [scells, List.getElem?_append_right (by omega), hl, Nat.sub_self]; rfl
  · rw [scells, List.getElem?_append_right (by omega), hl, show r.length * 2 + 1 - r.length * 2 = 1 from by omega]; rfl
theorem scells_next (b a : Tm) (r : List Tm) : (scells (b :: a :: r))[r.length * 2]? = some (sv (txt a)) ∧ (scells (b :: a :: r))[r.length * 2 + 1]? = some (.int .i64 a.last) := by
  obtain ⟨h1, h2⟩ := scells_top a r
  have hl := scells_len (a :: r)
  simp at hl
  exact ⟨by rw [scells, List.getElem?_append_left (by omega)]; exact h1, by rw [scells, List.getElem?_append_left (by omega)]; exact h2⟩
theorem scells_take1 (t : Tm) (r : List Tm) : (scells (t :: r)).take (r.length * 2) = scells r := by
  rw [scells, ← scells_len r, List.take_left]
theorem scells_take2 (b a : Tm) (r : List Tm) : (scells (b :: a :: r)).take (r.length * 2) = scells r := by
  have hl := scells_len (a :: r)
  simp at hl
  rw [scells, List.take_append_of_le_length (by omega), scells_take1]
theorem runS_len15 {p : Int} {ms : List (Int × Int)} {s : List Tm} {k : Nat} (h : runS p (ms.take k) [] = some s) (hl : ms.length ≤ 15) : ∀ t ∈ s, (txt t).length ≤ 75 := by
  have h1 := runS_post h
  have key : ∀ (s : List Tm), ∀ t ∈ s, t.post.length ≤ (postS s).length := by
    intro s
    induction s with
    | nil => intro t ht; simp at ht
    | cons a r ih =>
      intro t ht
      rw [postS, List.length_append]
      rcases List.mem_cons.1 ht with rfl | ht
      · omega
      · have := ih t ht; omega
  intro t ht
  have h2 := key s t ht
  have h3 := txt_len t
  have h4 : (postS s).length ≤ 15 := by rw [h1]; simp [postS]; omega
  omega
/-- the three ways of a mark -/
theorem step_ways {p : Int} {s s' : List Tm} {kd x : Int} (h : stepS p s (kd, x) = some s') :
    ((kd = 0 ∧ 0 ≤ x ∧ x < p ∨ kd = 1 ∧ 0 ≤ x ∧ x ≤ p + 1) ∧ s' = .leaf kd x :: s) ∨ (∃ t r, kd = 2 ∧ x = 0 ∧ s = t :: r ∧ s' = .un t :: r) ∨ (∃ b a r, (3 ≤ kd ∧ kd ≤ 5) ∧ x = 0 ∧ s = b :: a :: r ∧ s' = .bin kd a b :: r) := by
  unfold stepS at h
  dsimp only at h
  split at h
  · rename_i hk; subst hk
    split at h
    · rename_i hx; cases h; exact .inl ⟨.inl ⟨rfl, hx.1, hx.2⟩, rfl⟩
    · cases h
  · split at h
    · rename_i hk; subst hk
      split at h
      · rename_i hx; cases h; exact .inl ⟨.inr ⟨rfl, hx.1, hx.2⟩, rfl⟩
      · cases h
    · split at h
      · rename_i hk; subst hk
        split at h
        · rename_i hx; subst hx
          split at h
          · cases h; exact .inr (.inl ⟨_, _, rfl, rfl, rfl, rfl⟩)
          · cases h
        · cases h
      · split at h
        · rename_i hk
          split at h
          · rename_i hx; subst hx
            split at h
            · cases h; exact .inr (.inr ⟨_, _, _, hk, rfl, rfl, rfl⟩)
            · cases h
          · cases h
        · cases h
def textV (p : Int) (ms : List (Int × Int)) : List UInt8 := if termOk p ms = true then (match termS p ms with | some t => txt t | none => []) else []
theorem textV_no {p : Int} {ms : List (Int × Int)} (h : termOk p ms = false) : textV p ms = [] := by simp [textV, h]
theorem textV_of {p : Int} {t : Tm} (h : termOk p t.post = true) (ht : t.ok p) : textV p t.post = txt t := by
  unfold textV
  rw [if_pos h, (termS_some (p := p)).2 ⟨ht, rfl⟩]
theorem termOk_run {p : Int} {ms : List (Int × Int)} (h : termOk p ms = true) : ∃ t : Tm, t.ok p ∧ ms = t.post ∧ runS p ms [] = some [t] := by
  obtain ⟨_, _, t, ht, rfl⟩ := termOk_iff.1 h
  exact ⟨t, ht, rfl, runS_tm t [] ht⟩
theorem run_upto {p : Int} {ms : List (Int × Int)} (h : termOk p ms = true) {k : Nat} (hk : k < ms.length) {s : List Tm} (hs : runS p (ms.take k) [] = some s) : ∃ s', stepS p s (ms.getD k (0, 0)) = some s' ∧ runS p (ms.take (k + 1)) [] = some s' := by
  have h1 := runS_take_succ p ms k hk hs
  cases h2 : stepS p s (ms.getD k (0, 0)) with
  | some s' => exact ⟨s', rfl, by rw [h1, h2]⟩
  | none =>
    rw [h2] at h1
    have := termOk_no_run (k := k + 1) h1
    rw [h] at this; cases this
theorem txt_leaf0 (x : Int) : txt (.leaf 0 x) = [UInt8.ofNat (97 + x.toNat)] := by unfold txt; rfl
theorem txt_leaf1 (x : Int) : txt (.leaf 1 x) = [UInt8.ofNat (48 + x.toNat)] := by unfold txt; rfl
theorem txt_un (t : Tm) : txt (.un t) = 33 :: within (txt t) t.last 2 := by rw [txt]
theorem txt_bin (k : Int) (a b : Tm) : txt (.bin k a b) = within (txt a) a.last k ++ sign k :: within (txt b) b.last (k - 1) := by rw [txt]
theorem scells_nil : scells [] = [] := rfl
theorem scells_cons (t : Tm) (r : List Tm) : scells (t :: r) = scells r ++ tcell t := rfl
attribute [local irreducible] txt scells

set_option maxRecDepth 100000 in
set_option maxHeartbeats 2000000 in
theorem implTermText (p : Int) (ms : List (Int × Int)) (B : Nat) (v : Value) (w : World) (hr : RdMarks w B v ms) (hB : B ≤ w.heap.size) :
    Calls Tryd.prog 9 #[.int .i64 p, v] w fun e w' => e = .returned (sv (textV p ms)) ∧ Below w.heap.size w w' := by
  obtain ⟨ix, hxi, hxz0, hxz1, hxz2⟩ := info_parts Tryd.infoX
  have Xi := Lib.hid hxi; clear hxi
  have Xz0 := Lib.hid hxz0; clear hxz0
  have Xz1 := Lib.hid hxz1; clear hxz1
  have Xz2 := Lib.hid hxz2; clear hxz2
  by_cases hok : termOk p ms = true
  case neg =>
    have Hok : Hid (termOk p ms = false) := by simpa [Hid] using hok
    clear hok
    go_enter Tryd.func9, Tryd.ntmps9
    go_wp2_with fail
    refine (implTermOk _ _ _ _ _ hr hB).mono ?_
    rintro e w' ⟨rfl, hb1⟩
    rw [Hok.out]
    go_wp2
    go_ret
    exact ⟨by rw [textV_no Hok.out]; rfl, hb1⟩
  have Hok := Lib.hid hok; clear hok
  obtain ⟨⟨hp1, hp4⟩, hlen15, _⟩ := termOk_iff.1 Hok.out
  obtain ⟨wo, rfl⟩ : ∃ wo : World, wo = w := ⟨_, rfl⟩
  have Hr := Lib.hid hr
  obtain ⟨ao, cap, rfl, hal, ham, hi0, hac0⟩ := hr
  have hac := Lib.hid hac0; clear hac0 hi0
  unfold maxLen at ham
  go_enter Tryd.func9, Tryd.ntmps9
  go_wp2_with fail
  refine (implTermOk _ _ _ _ _ Hr.out hB).mono ?_
  rintro e w1 ⟨rfl, hb1⟩
  rw [Hok.out]
  go_wp2_with fail
  go_loopw [5, 16] (fun v i wr => ∃ (k : Nat) (s : List Tm), k ≤ ms.length ∧ i = .int .i64 k ∧ Hid (runS p (ms.take k) [] = some s) ∧ wr.ownsRow wo.heap.size TX 2 v s.length (scells s) ∧ Below wo.heap.size wo wr)
    (fun _ i _ => ms.length - (intOf i).toNat)
  case atStart => exact ⟨0, [], Nat.zero_le _, rfl, rfl, by rw [scells_nil]; exact World.ownsRow_nil _ _ _ _, hb1⟩
  case round =>
    obtain ⟨k, s, hk, rfl, hs, hown, hbel⟩ := hrel
    have hsl := runS_len hk hs.out
    by_cases hlt : k < ms.length
    · obtain ⟨b, off, rfl, hb, hc1, hc2⟩ := hac.out k hlt
      rw [← hbel.cell (p := ⟨b, _, none⟩) (show b < _ by omega)] at hc1 hc2
      obtain ⟨s', hst, hsucc⟩ := run_upto Hok.out hlt hs.out
      have Hsucc := Lib.hid hsucc
      have Hl15 := Lib.hid (runS_len15 hs.out hlen15)
      generalize ms.getD k (0, 0) = m at *
      obtain ⟨kd, x⟩ := m
      dsimp only at hc1 hc2
      have hbs := hbel.size
      rcases step_ways hst with ⟨hkx, rfl⟩ | ⟨t, r, rfl, rfl, rfl, rfl⟩ | ⟨b2, a2, r, hkd, rfl, rfl, rfl⟩
      · clear hst hsucc
        have hkd : kd = 0 ∨ kd = 1 := by omega
        have Htk : Hid (taken kd = 0) := by rcases hkd with rfl | rfl <;> rfl
        have Hmt : Hid (∀ (v : Value) (W : World), Calls Tryd.prog 28 #[.agg #[.int .i64 kd, .int .i64 x], v] W fun e w' => e = .returned (sv (txt (.leaf kd x))) ∧ Below W.heap.size W w') := by
          intro v W
          rcases hkx with ⟨rfl, h1, h2⟩ | ⟨rfl, h1, h2⟩
          · rw [txt_leaf0]; exact markText0 x v (by omega) W
          · rw [txt_leaf1]; exact markText1 x v (by omega) W
        clear hkx
        generalize hT : txt (.leaf kd x) = T at *
        have HT := Lib.hid hT; clear hT
        generalize hL : s.length = L at *
        have HL := Lib.hid hL; clear hL
        rcases ownsRow_forms hown with ⟨rfl, h0⟩ | ⟨g, cp, rfl⟩
        · subst h0
          have hM : (wr.alloc (.cells #[.int .i64 kd, .int .i64 x] TM)).cell? ⟨wr.heap.size, 0, none⟩ = some (.int .i64 kd) := by go_simp
          have hM2 : (wr.alloc (.cells #[.int .i64 kd, .int .i64 x] TM)).cell? ⟨wr.heap.size, 1, none⟩ = some (.int .i64 x) := by go_simp
          go_wp2_with (first
            | (go_at_call 27
               refine (implPartsTaken _ _).mono ?_
               rintro e w' ⟨rfl, rfl⟩
               rw [Htk.out])
            | fail)
          go_region_held3 (fun w' => w'.cell? ⟨wr.heap.size, 0, none⟩ = some (.int .i64 kd) ∧ w'.cell? ⟨wr.heap.size, 1, none⟩ = some (.int .i64 x))
            (first | go_keep | exact ⟨by assumption, by assumption⟩)
            (first
              | (go_at_call 28
                 (with_reducible refine (Hmt.out _ _).mono ?_)
                 rintro e w5 ⟨rfl, hb5'⟩
                 go_must (have hb5 : Below (wr.alloc (.cells #[.int .i64 kd, .int .i64 x] TM)).heap.size (wr.alloc (.cells #[.int .i64 kd, .int .i64 x] TM)) w5 := by first | exact hb5' | exact below_undrewY hb5' | exact below_undrewX hb5'
                          clear hb5'
                          have hx5 : Below wr.heap.size wr w5 := ((Below.refl _ _).alloc (Nat.le_refl _) _).trans (hb5.mono (by simp))
                          have q1 := (hb5.cell (p := ⟨wr.heap.size, 0, none⟩) (by simp)).trans hM
                          have q2 := (hb5.cell (p := ⟨wr.heap.size, 1, none⟩) (by simp)).trans hM2
                          have hs5 := hx5.size
                          have hB5 := hbel.trans (hx5.mono hbs)
                          have hz5 := hB5.size
                          have Hb5 := Lib.hid hB5
                          have hown5 := own_below hown hx5
                          have Hown5 := Lib.hid hown5
                          have hM5 : wr.heap.size < w5.heap.size := by have := hb5.size; simp at this; omega
                          clear hb5 hx5 hB5 hown5))
              | fail)
          go_wp2_with fail
          go_region_held3 (fun w' => w'.cell? ⟨wr.heap.size, 0, none⟩ = some (.int .i64 kd))
            (first | go_keep | assumption)
            (first
              | (refine step_append_lies _ (by rfl) (.tmp 33) (.tmp 38) _ (by rfl) wo.heap.size TX ix (.agg #[.string ⟨#[]⟩, .int .i64 0]) 2 24 Tryd.underlying45 Xi.out Xz0.out Xz1.out Xz2.out rfl (by omega) (Value.slice none 0 0) 0 (scells s) (by rfl) ?_ ⟨w5.heap.size, 0, none⟩ 1 1 [sv T, .int .i64 kd] (by rfl) rfl ?_ (by simp [Value.oneCell']) (by omega) (by unfold maxLen; omega) (by omega) ?_ (w5.heap.size + 1) ?_ ?_
                 go_must (exact Hown5.out.alloc _)
                 go_must (exact World.news_of_block (cs := #[sv T, .int .i64 kd]) (heap_alloc_new w5 _))
                 go_must (simp; omega)
                 go_must (simp)
                 go_must (intro g9 c9 w9 hown9 hgr9 hat9 hlt9
                          have hgr9' : (w5.alloc (.cells #[sv T, .int .i64 kd] TX)).grownBy w9 (Value.slice none 0 0).ownBlock := by first | exact hgr9 | exact grownBy_drew0 hgr9 | exact grownBy_drewX hgr9
                          have Hb9 := Lib.hid ((Hb5.out.alloc hz5 _).grown hgr9' (by simp; omega) (fun k hk => (Hown5.out.lt k hk).1))
                          have q9 : w9.cell? ⟨wr.heap.size, 0, none⟩ = some (.int .i64 kd) := by
                            rw [hgr9'.cell_far _ (by simp; omega) (fun e => by have h9 := (hown.lt wr.heap.size e.symm).2; omega), World.cell?_alloc_lt w5 _ _ hM5]
                            exact q1
                          have Hown9 := Lib.hid hown9
                          clear hown9 hgr9 hgr9' hat9))
              | fail)
          go_wp2
          go_roundw
          case rel => exact ⟨k + 1, _, by omega, by go_num, Hsucc, own_part (t := .leaf kd x) HL.out HT.out rfl Hown9.out, Hb9.out⟩
          case measure => simp [intOf]; omega
        · obtain ⟨hcp1, hcp2⟩ := own_cap hown
          unfold maxLen at hcp2
          by_cases hcpL : cp = L
          · subst hcpL
            have hM : (wr.alloc (.cells #[.int .i64 kd, .int .i64 x] TM)).cell? ⟨wr.heap.size, 0, none⟩ = some (.int .i64 kd) := by go_simp
            have hM2 : (wr.alloc (.cells #[.int .i64 kd, .int .i64 x] TM)).cell? ⟨wr.heap.size, 1, none⟩ = some (.int .i64 x) := by go_simp
            go_wp2_with (first
              | (go_at_call 27
                 refine (implPartsTaken _ _).mono ?_
                 rintro e w' ⟨rfl, rfl⟩
                 rw [Htk.out])
              | fail)
            go_region_held3 (fun w' => w'.cell? ⟨wr.heap.size, 0, none⟩ = some (.int .i64 kd) ∧ w'.cell? ⟨wr.heap.size, 1, none⟩ = some (.int .i64 x))
              (first | go_keep | exact ⟨by assumption, by assumption⟩)
              (first
                | (go_at_call 28
                   (with_reducible refine (Hmt.out _ _).mono ?_)
                   rintro e w5 ⟨rfl, hb5'⟩
                   go_must (have hb5 : Below (wr.alloc (.cells #[.int .i64 kd, .int .i64 x] TM)).heap.size (wr.alloc (.cells #[.int .i64 kd, .int .i64 x] TM)) w5 := by first | exact hb5' | exact below_undrewY hb5' | exact below_undrewX hb5'
                            clear hb5'
                            have hx5 : Below wr.heap.size wr w5 := ((Below.refl _ _).alloc (Nat.le_refl _) _).trans (hb5.mono (by simp))
                            have q1 := (hb5.cell (p := ⟨wr.heap.size, 0, none⟩) (by simp)).trans hM
                            have q2 := (hb5.cell (p := ⟨wr.heap.size, 1, none⟩) (by simp)).trans hM2
                            have hs5 := hx5.size
                            have hB5 := hbel.trans (hx5.mono hbs)
                            have hz5 := hB5.size
                            have Hb5 := Lib.hid hB5
                            have hown5 := own_below hown hx5
                            have Hown5 := Lib.hid hown5
                            have hM5 : wr.heap.size < w5.heap.size := by have := hb5.size; simp at this; omega
                            clear hb5 hx5 hB5 hown5))
                | fail)
            go_wp2_with fail
            go_region_held3 (fun w' => w'.cell? ⟨wr.heap.size, 0, none⟩ = some (.int .i64 kd))
              (first | go_keep | assumption)
              (first
                | (refine step_append_lies _ (by rfl) (.tmp 33) (.tmp 38) _ (by rfl) wo.heap.size TX ix (.agg #[.string ⟨#[]⟩, .int .i64 0]) 2 24 Tryd.underlying45 Xi.out Xz0.out Xz1.out Xz2.out rfl (by omega) (Value.slice (some ⟨g, 0, none⟩) cp cp) cp (scells s) (by rfl) ?_ ⟨w5.heap.size, 0, none⟩ 1 1 [sv T, .int .i64 kd] (by rfl) rfl ?_ (by simp [Value.oneCell']) (by omega) (by unfold maxLen; omega) (by omega) ?_ (w5.heap.size + 1) ?_ ?_
                   go_must (exact Hown5.out.alloc _)
                   go_must (exact World.news_of_block (cs := #[sv T, .int .i64 kd]) (heap_alloc_new w5 _))
                   go_must (simp; omega)
                   go_must (simp)
                   go_must (intro g9 c9 w9 hown9 hgr9 hat9 hlt9
                            have hgr9' : (w5.alloc (.cells #[sv T, .int .i64 kd] TX)).grownBy w9 (Value.slice (some ⟨g, 0, none⟩) cp cp).ownBlock := by first | exact hgr9 | exact grownBy_drew0 hgr9 | exact grownBy_drewX hgr9
                            have Hb9 := Lib.hid ((Hb5.out.alloc hz5 _).grown hgr9' (by simp; omega) (fun k hk => (Hown5.out.lt k hk).1))
                            have q9 : w9.cell? ⟨wr.heap.size, 0, none⟩ = some (.int .i64 kd) := by
                              rw [hgr9'.cell_far _ (by simp; omega) (fun e => by have h9 := (hown.lt wr.heap.size e.symm).2; omega), World.cell?_alloc_lt w5 _ _ hM5]
                              exact q1
                            have Hown9 := Lib.hid hown9
                            clear hown9 hgr9 hgr9' hat9))
                | fail)
            go_wp2
            go_roundw
            case rel => exact ⟨k + 1, _, by omega, by go_num, Hsucc, own_part (t := .leaf kd x) HL.out HT.out rfl Hown9.out, Hb9.out⟩
            case measure => simp [intOf]; omega
          · have hM : (wr.alloc (.cells #[.int .i64 kd, .int .i64 x] TM)).cell? ⟨wr.heap.size, 0, none⟩ = some (.int .i64 kd) := by go_simp
            have hM2 : (wr.alloc (.cells #[.int .i64 kd, .int .i64 x] TM)).cell? ⟨wr.heap.size, 1, none⟩ = some (.int .i64 x) := by go_simp
            go_wp2_with (first
              | (go_at_call 27
                 refine (implPartsTaken _ _).mono ?_
                 rintro e w' ⟨rfl, rfl⟩
                 rw [Htk.out])
              | fail)
            go_region_held3 (fun w' => w'.cell? ⟨wr.heap.size, 0, none⟩ = some (.int .i64 kd) ∧ w'.cell? ⟨wr.heap.size, 1, none⟩ = some (.int .i64 x))
              (first | go_keep | exact ⟨by assumption, by assumption⟩)
              (first
                | (go_at_call 28
                   (with_reducible refine (Hmt.out _ _).mono ?_)
                   rintro e w5 ⟨rfl, hb5'⟩
                   go_must (have hb5 : Below (wr.alloc (.cells #[.int .i64 kd, .int .i64 x] TM)).heap.size (wr.alloc (.cells #[.int .i64 kd, .int .i64 x] TM)) w5 := by first | exact hb5' | exact below_undrewY hb5' | exact below_undrewX hb5'
                            clear hb5'
                            have hx5 : Below wr.heap.size wr w5 := ((Below.refl _ _).alloc (Nat.le_refl _) _).trans (hb5.mono (by simp))
                            have q1 := (hb5.cell (p := ⟨wr.heap.size, 0, none⟩) (by simp)).trans hM
                            have q2 := (hb5.cell (p := ⟨wr.heap.size, 1, none⟩) (by simp)).trans hM2
                            have hs5 := hx5.size
                            have hB5 := hbel.trans (hx5.mono hbs)
                            have hz5 := hB5.size
                            have Hb5 := Lib.hid hB5
                            have hown5 := own_below hown hx5
                            have Hown5 := Lib.hid hown5
                            have hM5 : wr.heap.size < w5.heap.size := by have := hb5.size; simp at this; omega
                            clear hb5 hx5 hB5 hown5))
                | fail)
            go_wp2_with fail
            go_region_held3 (fun w' => w'.cell? ⟨wr.heap.size, 0, none⟩ = some (.int .i64 kd))
              (first | go_keep | assumption)
              (first
                | (refine step_append_lies _ (by rfl) (.tmp 33) (.tmp 38) _ (by rfl) wo.heap.size TX ix (.agg #[.string ⟨#[]⟩, .int .i64 0]) 2 24 Tryd.underlying45 Xi.out Xz0.out Xz1.out Xz2.out rfl (by omega) (Value.slice (some ⟨g, 0, none⟩) L cp) L (scells s) (by rfl) ?_ ⟨w5.heap.size, 0, none⟩ 1 1 [sv T, .int .i64 kd] (by rfl) rfl ?_ (by simp [Value.oneCell']) (by omega) (by unfold maxLen; omega) (by omega) ?_ (w5.heap.size + 1) ?_ ?_
                   go_must (exact Hown5.out.alloc _)
                   go_must (exact World.news_of_block (cs := #[sv T, .int .i64 kd]) (heap_alloc_new w5 _))
                   go_must (simp; omega)
                   go_must (simp)
                   go_must (intro g9 c9 w9 hown9 hgr9 hat9 hlt9
                            have hgr9' : (w5.alloc (.cells #[sv T, .int .i64 kd] TX)).grownBy w9 (Value.slice (some ⟨g, 0, none⟩) L cp).ownBlock := by first | exact hgr9 | exact grownBy_drew0 hgr9 | exact grownBy_drewX hgr9
                            have Hb9 := Lib.hid ((Hb5.out.alloc hz5 _).grown hgr9' (by simp; omega) (fun k hk => (Hown5.out.lt k hk).1))
                            have q9 : w9.cell? ⟨wr.heap.size, 0, none⟩ = some (.int .i64 kd) := by
                              rw [hgr9'.cell_far _ (by simp; omega) (fun e => by have h9 := (hown.lt wr.heap.size e.symm).2; omega), World.cell?_alloc_lt w5 _ _ hM5]
                              exact q1
                            have Hown9 := Lib.hid hown9
                            clear hown9 hgr9 hgr9' hat9))
                | fail)
            go_wp2
            go_roundw
            case rel => exact ⟨k + 1, _, by omega, by go_num, Hsucc, own_part (t := .leaf kd x) HL.out HT.out rfl Hown9.out, Hb9.out⟩
            case measure => simp [intOf]; omega
      · clear hst hsucc
        have Htk : Hid (taken 2 = 1) := rfl
        have hlt75 := Hl15.out t (by simp)
        obtain ⟨g, cp, rfl⟩ := ownsRow_form hown (by simp)
        obtain ⟨hcp1, hcp2⟩ := own_cap hown
        unfold maxLen at hcp2
        have hpart := part_at hown (j := r.length) (by simp) (scells_top t r).1 (scells_top t r).2
        have hgl : g < wr.heap.size := (hown.lt g rfl).2
        have Hpart : Hid (PartAt (wr.alloc (.cells #[.int .i64 2, .int .i64 0] TM)) wr.heap.size (some ⟨g, r.length * 2, none⟩) 0 (txt t) t.last) :=
          ⟨g, r.length * 2, rfl, hgl, by rw [Nat.zero_mul, Nat.add_zero, World.cell?_alloc_lt wr _ _ hgl]; exact hpart.1, by rw [Nat.zero_mul, Nat.add_zero, World.cell?_alloc_lt wr _ _ hgl]; exact hpart.2⟩
        have Htake := Lib.hid (scells_take1 t r)
        clear hpart
        have Hrun := fun (W : World) (hW : PartAt W wr.heap.size (some ⟨g, r.length * 2, none⟩) 0 (txt t) t.last) (n : Nat) (hn : 1 ≤ n) (c : Nat) => markText2 (some ⟨g, r.length * 2, none⟩) n c (txt t) t.last wr.heap.size W hn hW (by omega)
        rw [← txt_un] at Hrun
        have HRun := Lib.hid Hrun; clear Hrun
        generalize hT : txt (.un t) = T at *
        have HT := Lib.hid hT; clear hT
        have hN : (t :: r).length = r.length + 1 := rfl
        generalize (t :: r).length = N at *
        generalize hL : r.length = L at *
        have HL := Lib.hid hL; clear hL
        have hw1 : IntKind.i64.wrap ((N : Int) - 1) = (L : Int) := by rw [IntWalk.i64_in ((N : Int) - 1) (by omega)]; omega
        have hi1 : (0 : Int) ≤ (L : Int) := by omega
        have hi2 : (L : Int) ≤ (N : Int) := by omega
        have hi3 : (N : Int) ≤ (cp : Int) := by omega
        have hi4 : (L : Int) ≤ (cp : Int) := by omega
        have hi5 : L ≤ N := by omega
        have hi6 : L ≤ cp := by omega
        have hi7 : N ≤ cp := by omega
        have hi8 : ¬ L = cp := by omega
        have HN := Lib.hid hN; clear hN
        have hcpL : ¬ cp = L := by omega
        have hM : (wr.alloc (.cells #[.int .i64 2, .int .i64 0] TM)).cell? ⟨wr.heap.size, 0, none⟩ = some (.int .i64 2) := by go_simp
        have hM2 : (wr.alloc (.cells #[.int .i64 2, .int .i64 0] TM)).cell? ⟨wr.heap.size, 1, none⟩ = some (.int .i64 0) := by go_simp
        go_wp2_with (first
          | (go_at_call 27
             refine (implPartsTaken _ _).mono ?_
             rintro e w' ⟨rfl, rfl⟩
             rw [Htk.out])
          | fail)
        go_region_held3 (fun w' => w'.cell? ⟨wr.heap.size, 0, none⟩ = some (.int .i64 2) ∧ w'.cell? ⟨wr.heap.size, 1, none⟩ = some (.int .i64 0))
          (first | go_keep | exact ⟨by assumption, by assumption⟩)
          (first
            | (go_at_call 28
               (refine (HRun.out _ (by exact Hpart.out) _ (by have := HN.out; omega) _).mono ?_)
               rintro e w5 ⟨rfl, hb5'⟩
               go_must (have hb5 : Below (wr.alloc (.cells #[.int .i64 2, .int .i64 0] TM)).heap.size (wr.alloc (.cells #[.int .i64 2, .int .i64 0] TM)) w5 := by first | exact hb5' | exact below_undrewY hb5' | exact below_undrewX hb5'
                        clear hb5'
                        have hx5 : Below wr.heap.size wr w5 := ((Below.refl _ _).alloc (Nat.le_refl _) _).trans (hb5.mono (by simp))
                        have q1 := (hb5.cell (p := ⟨wr.heap.size, 0, none⟩) (by simp)).trans hM
                        have q2 := (hb5.cell (p := ⟨wr.heap.size, 1, none⟩) (by simp)).trans hM2
                        have hs5 := hx5.size
                        have hB5 := hbel.trans (hx5.mono hbs)
                        have hz5 := hB5.size
                        have Hb5 := Lib.hid hB5
                        have hown5 := own_below hown hx5
                        have Hown5 := Lib.hid (own_cutr hown5 hi5 Htake.out)
                        have hM5 : wr.heap.size < w5.heap.size := by have := hb5.size; simp at this; omega
                        clear hb5 hx5 hB5 hown5))
            | fail)
        go_wp2_with fail
        go_region_held3 (fun w' => w'.cell? ⟨wr.heap.size, 0, none⟩ = some (.int .i64 2))
          (first | go_keep | assumption)
          (first
            | (refine step_append_lies _ (by rfl) (.tmp 33) (.tmp 38) _ (by rfl) wo.heap.size TX ix (.agg #[.string ⟨#[]⟩, .int .i64 0]) 2 24 Tryd.underlying45 Xi.out Xz0.out Xz1.out Xz2.out rfl (by omega) (Value.slice (some ⟨g, 0, none⟩) L cp) L (scells r) (by rfl) ?_ ⟨w5.heap.size, 0, none⟩ 1 1 [sv T, .int .i64 2] (by rfl) rfl ?_ (by simp [Value.oneCell']) (by omega) (by unfold maxLen; omega) (by omega) ?_ (w5.heap.size + 1) ?_ ?_
               go_must (exact Hown5.out.alloc _)
               go_must (exact World.news_of_block (cs := #[sv T, .int .i64 2]) (heap_alloc_new w5 _))
               go_must (simp; omega)
               go_must (simp)
               go_must (intro g9 c9 w9 hown9 hgr9 hat9 hlt9
                        have hgr9' : (w5.alloc (.cells #[sv T, .int .i64 2] TX)).grownBy w9 (Value.slice (some ⟨g, 0, none⟩) L cp).ownBlock := by first | exact hgr9 | exact grownBy_drew0 hgr9 | exact grownBy_drewX hgr9
                        have Hb9 := Lib.hid ((Hb5.out.alloc hz5 _).grown hgr9' (by simp; omega) (fun k hk => (Hown5.out.lt k hk).1))
                        have q9 : w9.cell? ⟨wr.heap.size, 0, none⟩ = some (.int .i64 2) := by
                          rw [hgr9'.cell_far _ (by simp; omega) (fun e => by have h9 := (hown.lt wr.heap.size e.symm).2; omega), World.cell?_alloc_lt w5 _ _ hM5]
                          exact q1
                        have Hown9 := Lib.hid hown9
                        clear hown9 hgr9 hgr9' hat9))
            | fail)
        go_wp2
        go_roundw
        case rel => exact ⟨k + 1, _, by omega, by go_num, Hsucc, own_part (t := .un t) HL.out HT.out rfl Hown9.out, Hb9.out⟩
        case measure => simp [intOf]; omega
      · clear hst hsucc
        have Htk : Hid (taken kd = 2) := by
          obtain ⟨h3, h5⟩ := hkd
          have h : kd = 3 ∨ kd = 4 ∨ kd = 5 := by omega
          rcases h with rfl | rfl | rfl <;> rfl
        have hla := Hl15.out a2 (by simp)
        have hlb := Hl15.out b2 (by simp)
        obtain ⟨g, cp, rfl⟩ := ownsRow_form hown (by simp)
        obtain ⟨hcp1, hcp2⟩ := own_cap hown
        unfold maxLen at hcp2
        have hpa := part_at hown (j := r.length) (by simp; omega) (scells_next b2 a2 r).1 (scells_next b2 a2 r).2
        have hpb := part_at hown (j := (a2 :: r).length) (by simp) (scells_top b2 (a2 :: r)).1 (scells_top b2 (a2 :: r)).2
        rw [show (a2 :: r).length * 2 = r.length * 2 + 1 * 2 by simp; omega] at hpb
        have hgl : g < wr.heap.size := (hown.lt g rfl).2
        have Hpa : Hid (PartAt (wr.alloc (.cells #[.int .i64 kd, .int .i64 0] TM)) wr.heap.size (some ⟨g, r.length * 2, none⟩) 0 (txt a2) a2.last) :=
          ⟨g, r.length * 2, rfl, hgl, by rw [Nat.zero_mul, Nat.add_zero, World.cell?_alloc_lt wr _ _ hgl]; exact hpa.1, by rw [Nat.zero_mul, Nat.add_zero, World.cell?_alloc_lt wr _ _ hgl]; exact hpa.2⟩
        have Hpb : Hid (PartAt (wr.alloc (.cells #[.int .i64 kd, .int .i64 0] TM)) wr.heap.size (some ⟨g, r.length * 2, none⟩) 1 (txt b2) b2.last) :=
          ⟨g, r.length * 2, rfl, hgl, by rw [World.cell?_alloc_lt wr _ _ hgl]; exact hpb.1, by rw [World.cell?_alloc_lt wr _ _ hgl]; exact hpb.2⟩
        have Htake := Lib.hid (scells_take2 b2 a2 r)
        clear hpa hpb
        have Hrun := fun (W : World) (hB : wr.heap.size ≤ W.heap.size) (hW : PartAt W wr.heap.size (some ⟨g, r.length * 2, none⟩) 0 (txt a2) a2.last) (hW2 : PartAt W wr.heap.size (some ⟨g, r.length * 2, none⟩) 1 (txt b2) b2.last) (n : Nat) (hn : 2 ≤ n) (c : Nat) => markText35 (some ⟨g, r.length * 2, none⟩) n c kd (txt a2) (txt b2) a2.last b2.last wr.heap.size W hkd hn hB hW hW2 (by omega) (by omega)
        rw [← txt_bin] at Hrun
        have HRun := Lib.hid Hrun; clear Hrun
        generalize hT : txt (.bin kd a2 b2) = T at *
        have HT := Lib.hid hT; clear hT
        have hN : (b2 :: a2 :: r).length = r.length + 2 := rfl
        generalize (b2 :: a2 :: r).length = N at *
        generalize hL : r.length = L at *
        have HL := Lib.hid hL; clear hL
        have hw1 : IntKind.i64.wrap ((N : Int) - 2) = (L : Int) := by rw [IntWalk.i64_in ((N : Int) - 2) (by omega)]; omega
        have hi1 : (0 : Int) ≤ (L : Int) := by omega
        have hi2 : (L : Int) ≤ (N : Int) := by omega
        have hi3 : (N : Int) ≤ (cp : Int) := by omega
        have hi4 : (L : Int) ≤ (cp : Int) := by omega
        have hi5 : L ≤ N := by omega
        have hi6 : L ≤ cp := by omega
        have hi7 : N ≤ cp := by omega
        have hi8 : ¬ L = cp := by omega
        have HN := Lib.hid hN; clear hN
        have hcpL : ¬ cp = L := by have := HN.out; omega
        clear hkd
        have hM : (wr.alloc (.cells #[.int .i64 kd, .int .i64 0] TM)).cell? ⟨wr.heap.size, 0, none⟩ = some (.int .i64 kd) := by go_simp
        have hM2 : (wr.alloc (.cells #[.int .i64 kd, .int .i64 0] TM)).cell? ⟨wr.heap.size, 1, none⟩ = some (.int .i64 0) := by go_simp
        go_wp2_with (first
          | (go_at_call 27
             refine (implPartsTaken _ _).mono ?_
             rintro e w' ⟨rfl, rfl⟩
             rw [Htk.out])
          | fail)
        go_region_held3 (fun w' => w'.cell? ⟨wr.heap.size, 0, none⟩ = some (.int .i64 kd) ∧ w'.cell? ⟨wr.heap.size, 1, none⟩ = some (.int .i64 0))
          (first | go_keep | exact ⟨by assumption, by assumption⟩)
          (first
            | (go_at_call 28
               (refine (HRun.out _ (by simp) (by exact Hpa.out) (by exact Hpb.out) _ (by have := HN.out; omega) _).mono ?_)
               rintro e w5 ⟨rfl, hb5'⟩
               go_must (have hb5 : Below (wr.alloc (.cells #[.int .i64 kd, .int .i64 0] TM)).heap.size (wr.alloc (.cells #[.int .i64 kd, .int .i64 0] TM)) w5 := by first | exact hb5' | exact below_undrewY hb5' | exact below_undrewX hb5'
                        clear hb5'
                        have hx5 : Below wr.heap.size wr w5 := ((Below.refl _ _).alloc (Nat.le_refl _) _).trans (hb5.mono (by simp))
                        have q1 := (hb5.cell (p := ⟨wr.heap.size, 0, none⟩) (by simp)).trans hM
                        have q2 := (hb5.cell (p := ⟨wr.heap.size, 1, none⟩) (by simp)).trans hM2
                        have hs5 := hx5.size
                        have hB5 := hbel.trans (hx5.mono hbs)
                        have hz5 := hB5.size
                        have Hb5 := Lib.hid hB5
                        have hown5 := own_below hown hx5
                        have Hown5 := Lib.hid (own_cutr hown5 hi5 Htake.out)
                        have hM5 : wr.heap.size < w5.heap.size := by have := hb5.size; simp at this; omega
                        clear hb5 hx5 hB5 hown5))
            | fail)
        go_wp2_with fail
        go_region_held3 (fun w' => w'.cell? ⟨wr.heap.size, 0, none⟩ = some (.int .i64 kd))
          (first | go_keep | assumption)
          (first
            | (refine step_append_lies _ (by rfl) (.tmp 33) (.tmp 38) _ (by rfl) wo.heap.size TX ix (.agg #[.string ⟨#[]⟩, .int .i64 0]) 2 24 Tryd.underlying45 Xi.out Xz0.out Xz1.out Xz2.out rfl (by omega) (Value.slice (some ⟨g, 0, none⟩) L cp) L (scells r) (by rfl) ?_ ⟨w5.heap.size, 0, none⟩ 1 1 [sv T, .int .i64 kd] (by rfl) rfl ?_ (by simp [Value.oneCell']) (by omega) (by unfold maxLen; omega) (by omega) ?_ (w5.heap.size + 1) ?_ ?_
               go_must (exact Hown5.out.alloc _)
               go_must (exact World.news_of_block (cs := #[sv T, .int .i64 kd]) (heap_alloc_new w5 _))
               go_must (simp; omega)
               go_must (simp)
               go_must (intro g9 c9 w9 hown9 hgr9 hat9 hlt9
                        have hgr9' : (w5.alloc (.cells #[sv T, .int .i64 kd] TX)).grownBy w9 (Value.slice (some ⟨g, 0, none⟩) L cp).ownBlock := by first | exact hgr9 | exact grownBy_drew0 hgr9 | exact grownBy_drewX hgr9
                        have Hb9 := Lib.hid ((Hb5.out.alloc hz5 _).grown hgr9' (by simp; omega) (fun k hk => (Hown5.out.lt k hk).1))
                        have q9 : w9.cell? ⟨wr.heap.size, 0, none⟩ = some (.int .i64 kd) := by
                          rw [hgr9'.cell_far _ (by simp; omega) (fun e => by have h9 := (hown.lt wr.heap.size e.symm).2; omega), World.cell?_alloc_lt w5 _ _ hM5]
                          exact q1
                        have Hown9 := Lib.hid hown9
                        clear hown9 hgr9 hgr9' hat9))
            | fail)
        go_wp2
        go_roundw
        case rel => exact ⟨k + 1, _, by omega, by go_num, Hsucc, own_part (t := .bin kd a2 b2) HL.out HT.out rfl Hown9.out, Hb9.out⟩
        case measure => simp [intOf]; omega
    · obtain rfl : k = ms.length := by omega
      obtain ⟨t, ht, hpost, hrun⟩ := termOk_run Hok.out
      have hst : s = [t] := by
        have := hs.out
        rw [List.take_length, hrun] at this
        simpa using this.symm
      subst hst
      have Htxt : Hid (textV p ms = txt t) := by
        unfold Hid
        have := Hok.out
        rw [hpost] at this ⊢
        exact textV_of this ht
      clear hpost hrun
      obtain ⟨g, cp, rfl⟩ := ownsRow_form hown (by simp)
      have hc := (part_at hown (j := 0) (l := txt t) (k := t.last) (by simp) (by rw [scells_cons, scells_nil]; rfl) (by rw [scells_cons, scells_nil]; rfl)).1
      rw [Nat.zero_mul] at hc
      clear hown
      generalize hT : txt t = T at *
      have HT := Lib.hid hT; clear hT
      go_wp2
      go_ret
      exact ⟨by rw [Htxt.out]; rfl, hbel⟩
end Go.Proofs.YtmcdfbjmbelklaaDoor
