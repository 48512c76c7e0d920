import PyProof.Rows.All
import KE.OsMirror
import PySem.Challenge.RW_paperweb_s02_spread
namespace My
theorem okWeb_iff (l : List Nat) : Kza4.okWeb l = true ↔ (1 ≤ l.length ∧ l.length ≤ 40) ∧ ∀ x ∈ l, x ≤ 1000 := by
  unfold Kza4.okWeb
  rw [Bool.and_eq_true, Bool.and_eq_true, decide_eq_true_eq, decide_eq_true_eq, List.all_eq_true]
  simp only [decide_eq_true_eq]
  exact Iff.rfl
theorem okLimits_iff (lo hi : Nat) : Kza4.okLimits lo hi = true ↔ lo ≤ hi ∧ hi ≤ 1000 := by
  unfold Kza4.okLimits
  simp
theorem snoc_ind {P : List Int → Prop} (h0 : P []) (h1 : ∀ l x, P l → P (l ++ [x])) (l : List Int) : P l := by
  have e : ∀ (n : Nat) (l : List Int), l.length = n → P l := by
    intro n
    induction n with
    | zero =>
      intro l h
      rw [List.length_eq_zero_iff.mp h]
      exact h0
    | succ n ih =>
      intro l h
      have hne : l ≠ [] := by
        intro q
        rw [q] at h
        cases h
      rw [← List.dropLast_concat_getLast hne]
      apply h1
      apply ih
      rw [List.length_dropLast, h]
      rfl
  exact e l.length l rfl
theorem web_ok {l : List Int} (hl : 1 ≤ (l.length : Int) ∧ (l.length : Int) ≤ 40) (hm : ∀ x ∈ l, x ≤ 1000) : Kza4.okWeb (l.map Int.toNat) = true := by
  rw [okWeb_iff, List.length_map]
  refine ⟨by omega, ?_⟩
  intro x hx
  obtain ⟨y, hy, rfl⟩ := List.mem_map.mp hx
  have := hm y hy
  omega
theorem no_web_len {l : List Int} (hl : ¬ (1 ≤ (l.length : Int) ∧ (l.length : Int) ≤ 40)) : Kza4.okWeb (l.map Int.toNat) = false := by
  rw [Bool.eq_false_iff]
  intro q
  have := ((okWeb_iff _).mp q).1
  rw [List.length_map] at this
  omega
theorem no_web_item {l : List Int} {M : Int} (hM : M ∈ l) (h : ¬ M ≤ 1000) : Kza4.okWeb (l.map Int.toNat) = false := by
  rw [Bool.eq_false_iff]
  intro q
  have := ((okWeb_iff _).mp q).2 M.toNat (List.mem_map.mpr ⟨M, hM, rfl⟩)
  omega
theorem no_limits {lo hi : Int} (h0 : 0 ≤ lo) (h1 : 0 ≤ hi) (h : ¬ (lo ≤ hi ∧ hi ≤ 1000)) : Kza4.okLimits lo.toNat hi.toNat = false := by
  rw [Bool.eq_false_iff]
  intro q
  have := (okLimits_iff _ _).mp q
  omega
end My
namespace My
theorem foldl_add : ∀ (l : List Int) (a : Nat), (∀ x ∈ l, 0 ≤ x) → (((l.map Int.toNat).foldl (· + ·) a : Nat) : Int) = (a : Int) + l.sum
  | [], a, _ => by simp
  | x :: r, a, h => by
    have q := foldl_add r (a + x.toNat) (fun y hy => h y (List.mem_cons_of_mem _ hy))
    have hx := h x (List.mem_cons_self ..)
    rw [List.map_cons, List.foldl_cons, q, List.sum_cons]
    omega
theorem sum_is (l : List Int) (h : ∀ x ∈ l, 0 ≤ x) : ((Kza1.sum (l.map Int.toNat) : Nat) : Int) = l.sum := by
  have q := foldl_add l 0 h
  unfold Kza1.sum
  rw [q]
  omega
theorem mean_is (l : List Int) (h : ∀ x ∈ l, 0 ≤ x) : ((Kza4.mean (l.map Int.toNat) : Nat) : Int) = l.sum.fdiv (l.length : Int) := by
  unfold Kza4.mean
  rw [List.length_map, Int.natCast_ediv, sum_is l h, Int.fdiv_eq_ediv_of_nonneg _ (Int.natCast_nonneg _)]
theorem foldl_max_is : ∀ (l : List Int) (a : Nat) (M : Int), (∀ x ∈ l, 0 ≤ x) → (∀ x ∈ l, x ≤ M) → (a : Int) ≤ M → ((a : Int) = M ∨ M ∈ l) → (((l.map Int.toNat).foldl max a : Nat) : Int) = M
  | [], a, M, _, _, _, hm => by
    rcases hm with hm | hm
    · exact hm
    · cases hm
  | x :: r, a, M, h0, hM, ha, hm => by
    have hx := h0 x (List.mem_cons_self ..)
    have hxM := hM x (List.mem_cons_self ..)
    rw [List.map_cons, List.foldl_cons]
    refine foldl_max_is r (max a x.toNat) M (fun y hy => h0 y (List.mem_cons_of_mem _ hy)) (fun y hy => hM y (List.mem_cons_of_mem _ hy)) (by omega) ?_
    rcases hm with hm | hm
    · left
      omega
    · rcases List.mem_cons.mp hm with hm | hm
      · left
        omega
      · exact .inr hm
theorem top_is {l : List Int} {M : Int} (h0 : ∀ x ∈ l, 0 ≤ x) (hM : ∀ x ∈ l, x ≤ M) (hm : M ∈ l) : ((Kza4.top (l.map Int.toNat) : Nat) : Int) = M :=
  foldl_max_is l 0 M h0 hM (h0 M hm) (.inr hm)
theorem foldl_min_is : ∀ (l : List Int) (a : Nat) (m : Int), (∀ x ∈ l, 0 ≤ x) → (∀ x ∈ l, m ≤ x) → m ≤ (a : Int) → ((a : Int) = m ∨ m ∈ l) → (((l.map Int.toNat).foldl min a : Nat) : Int) = m
  | [], a, m, _, _, _, hm => by
    rcases hm with hm | hm
    · exact hm
    · cases hm
  | x :: r, a, m, h0, hM, ha, hm => by
    have hx := h0 x (List.mem_cons_self ..)
    have hxM := hM x (List.mem_cons_self ..)
    rw [List.map_cons, List.foldl_cons]
    refine foldl_min_is r (min a x.toNat) m (fun y hy => h0 y (List.mem_cons_of_mem _ hy)) (fun y hy => hM y (List.mem_cons_of_mem _ hy)) (by omega) ?_
    rcases hm with hm | hm
    · left
      omega
    · rcases List.mem_cons.mp hm with hm | hm
      · left
        omega
      · exact .inr hm
theorem least_is {l : List Int} {m : Int} (h0 : ∀ x ∈ l, 0 ≤ x) (h1 : ∀ x ∈ l, x ≤ 1000) (hM : ∀ x ∈ l, m ≤ x) (hm : m ∈ l) : ((Kza4.least (l.map Int.toNat) : Nat) : Int) = m :=
  foldl_min_is l 1000 m h0 hM (h1 m hm) (.inr hm)
theorem spread_is (l : List Int) : PyKza4.spread l = if Kza4.okWeb (l.map Int.toNat) = false then [-22] else [((Kza4.mean (l.map Int.toNat) : Nat) : Int), ((Kza4.least (l.map Int.toNat) : Nat) : Int), ((Kza4.top (l.map Int.toNat) : Nat) : Int)] := by
  have e : PyKza4.spread l = (Kza4.answer (.spread (l.map Int.toNat))).value :: Kza4Neutral.ints (Kza4.answer (.spread (l.map Int.toNat))).nums := rfl
  rw [e]
  unfold Kza4.answer
  dsimp only
  split
  · rfl
  · rfl
theorem spread_refused {l : List Int} (h : Kza4.okWeb (l.map Int.toNat) = false) : [-22] = PyKza4.spread l := by
  rw [spread_is, if_pos h]
theorem spread_answered {l : List Int} {m M : Int} (h0 : ∀ x ∈ l, 0 ≤ x) (hl : 1 ≤ (l.length : Int) ∧ (l.length : Int) ≤ 40) (h1 : ∀ x ∈ l, x ≤ 1000)
    (hm : m ∈ l) (hml : ∀ x ∈ l, m ≤ x) (hM : M ∈ l) (hMl : ∀ x ∈ l, x ≤ M) : [l.sum.fdiv (l.length : Int), m, M] = PyKza4.spread l := by
  rw [spread_is, if_neg (by rw [web_ok hl h1]; simp), mean_is l h0, least_is h0 h1 hml hm, top_is h0 hMl hM]
theorem le_all {l : List Int} {M b : Int} (h : M ≤ b) (hM : ∀ x ∈ l, x ≤ M) : ∀ x ∈ l, x ≤ b := fun x hx => Int.le_trans (hM x hx) h
end My
open PySem PySem.W
set_option Elab.async false
set_option maxRecDepth 100000 in
set_option maxHeartbeats 4000000 in
theorem PySem.Challenge.cw_paperweb_s02_spread_holds : PySem.Challenge.rw_paperweb_s02_spread.Holds := by
  mi_open with [.list []]
  all_goals (os_names sections)
  all_goals (rename OpenSpec.pre _ _ = true => hq)
  all_goals have h0 := os_pre_isSome hq
  all_goals obtain ⟨e0, f0⟩ := os_dec_ints h0
  all_goals refine os_post e0 ?_
  all_goals os_end
  all_goals first
    | exact congrArg (List.map PyData.int) (My.spread_answered (l := sections) (fun x hx => (f0.2.2 x hx).1) ⟨by assumption, by assumption⟩ (My.le_all (by assumption) (by assumption)) (by assumption) (by assumption) (by assumption) (by assumption))
    | exact congrArg (List.map PyData.int) (My.spread_refused (l := sections) (My.no_web_item (by assumption) (by assumption)))
    | exact congrArg (List.map PyData.int) (My.spread_refused (l := sections) (My.no_web_len (by omega)))
#print axioms PySem.Challenge.cw_paperweb_s02_spread_holds
