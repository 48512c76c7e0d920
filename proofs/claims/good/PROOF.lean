import PyProof.Rows.All
import KE.OsMirror
import PySem.Challenge.RW_paperweb_s01_good
namespace My
theorem okWeb_iff (l : List Nat) : Kza4.okWeb l = true ↔ (1 ≤ l.length ∧ l.length ≤ 40) ∧ ∀ x ∈ l, x ≤ 1000 := by
  unfold Kza4.okWeb
  rw [Bool.and_eq_true, Bool.and_eq_true, decide_eq_true_eq, decide_eq_true_eq, List.all_eq_true]
  simp only [decide_eq_true_eq]
  exact Iff.rfl
theorem okLimits_iff (lo hi : Nat) : Kza4.okLimits lo hi = true ↔ lo ≤ hi ∧ hi ≤ 1000 := by
  unfold Kza4.okLimits
  simp
theorem snoc_ind {P : List Int → Prop} (h0 : P []) (h1 : ∀ l x, P l → P (l ++ [x])) (l : List Int) : P l := by
  have e : ∀ (n : Nat) (l : List Int), l.length = n → P l := by
    intro n
    induction n with
    | zero =>
      intro l h
      rw [List.length_eq_zero_iff.mp h]
      exact h0
    | succ n ih =>
      intro l h
      have hne : l ≠ [] := by
        intro q
        rw [q] at h
        cases h
      rw [← List.dropLast_concat_getLast hne]
      apply h1
      apply ih
      rw [List.length_dropLast, h]
      rfl
  exact e l.length l rfl
theorem web_ok {l : List Int} (hl : 1 ≤ (l.length : Int) ∧ (l.length : Int) ≤ 40) (hm : ∀ x ∈ l, x ≤ 1000) : Kza4.okWeb (l.map Int.toNat) = true := by
  rw [okWeb_iff, List.length_map]
  refine ⟨by omega, ?_⟩
  intro x hx
  obtain ⟨y, hy, rfl⟩ := List.mem_map.mp hx
  have := hm y hy
  omega
theorem no_web_len {l : List Int} (hl : ¬ (1 ≤ (l.length : Int) ∧ (l.length : Int) ≤ 40)) : Kza4.okWeb (l.map Int.toNat) = false := by
  rw [Bool.eq_false_iff]
  intro q
  have := ((okWeb_iff _).mp q).1
  rw [List.length_map] at this
  omega
theorem no_web_item {l : List Int} {M : Int} (hM : M ∈ l) (h : ¬ M ≤ 1000) : Kza4.okWeb (l.map Int.toNat) = false := by
  rw [Bool.eq_false_iff]
  intro q
  have := ((okWeb_iff _).mp q).2 M.toNat (List.mem_map.mpr ⟨M, hM, rfl⟩)
  omega
theorem no_limits {lo hi : Int} (h0 : 0 ≤ lo) (h1 : 0 ≤ hi) (h : ¬ (lo ≤ hi ∧ hi ≤ 1000)) : Kza4.okLimits lo.toNat hi.toNat = false := by
  rw [Bool.eq_false_iff]
  intro q
  have := (okLimits_iff _ _).mp q
  omega
end My
namespace My
def gs (lo hi : Nat) (l : List Nat) : List Nat := (List.range l.length).filter (Kza4.isGood lo hi l)
theorem gs_snoc (lo hi v : Nat) (l : List Nat) : gs lo hi (l ++ [v]) = gs lo hi l ++ (if lo ≤ v ∧ v ≤ hi then [l.length] else []) := by
  unfold gs
  rw [List.length_append, List.length_singleton, List.range_succ, List.filter_append]
  congr 1
  · apply List.filter_congr
    intro i hi'
    have hlt : i < l.length := List.mem_range.mp hi'
    unfold Kza4.isGood
    rw [List.getD_eq_getElem?_getD, List.getD_eq_getElem?_getD, List.getElem?_append_left hlt]
  · have e : Kza4.isGood lo hi (l ++ [v]) l.length = (decide (lo ≤ v) && decide (v ≤ hi)) := by
      unfold Kza4.isGood
      rw [List.getD_eq_getElem?_getD, List.getElem?_append_right (Nat.le_refl _)]
      simp
    simp only [List.filter_cons, List.filter_nil, e, Bool.and_eq_true, decide_eq_true_eq]
theorem bits_snoc (l : List Nat) (k : Nat) : Kza4.bits (l ++ [k]) = Kza4.bits l + 2 ^ k := by
  unfold Kza4.bits
  rw [List.foldl_append]
  rfl
def turn (lo hi : Int) (s : Int × Int × Int) (v : Int) : Int × Int × Int :=
  if lo ≤ v ∧ v ≤ hi then (s.1 + 1, s.2.1 + s.2.2, s.2.2 * 2) else (s.1, s.2.1, s.2.2 * 2)
def end1 (lo hi : Int) (l : List Int) : Int × Int × Int := l.foldl (turn lo hi) (0, 0, 1)
theorem loop_is (lo hi : Int) (h0 : 0 ≤ lo) (h1 : 0 ≤ hi) (pre : List Int) (hs : ∀ x ∈ pre, 0 ≤ x) :
    end1 lo hi pre = (((gs lo.toNat hi.toNat (pre.map Int.toNat)).length : Int), (Kza4.bits (gs lo.toNat hi.toNat (pre.map Int.toNat)) : Int), ((2 ^ pre.length : Nat) : Int)) := by
  unfold end1
  revert hs
  induction pre using snoc_ind with
  | h0 =>
    intro _
    rfl
  | h1 pre v ih =>
    intro hs
    have ih := ih (fun x hx => hs x (List.mem_append_left _ hx))
    have hv : 0 ≤ v := hs v (List.mem_append_right _ (List.mem_singleton.mpr rfl))
    rw [List.foldl_append, ih, List.map_append]
    show turn lo hi _ v = _
    show turn lo hi _ v = (((gs lo.toNat hi.toNat (pre.map Int.toNat ++ [v.toNat])).length : Int), (Kza4.bits (gs lo.toNat hi.toNat (pre.map Int.toNat ++ [v.toNat])) : Int), ((2 ^ (pre ++ [v]).length : Nat) : Int))
    rw [gs_snoc]
    have e2 : ((2 ^ (pre ++ [v]).length : Nat) : Int) = ((2 ^ pre.length : Nat) : Int) * 2 := by
      rw [List.length_append, List.length_singleton, Nat.pow_succ]
      exact Int.natCast_mul _ _
    unfold turn
    by_cases g : lo ≤ v ∧ v ≤ hi
    · have g' : lo.toNat ≤ v.toNat ∧ v.toNat ≤ hi.toNat := by omega
      rw [if_pos g', if_pos g, bits_snoc, List.length_append, List.length_singleton, e2, List.length_map]
      simp only [Int.natCast_add]
      rfl
    · have g' : ¬ (lo.toNat ≤ v.toNat ∧ v.toNat ≤ hi.toNat) := by omega
      rw [if_neg g', if_neg g, List.append_nil, e2]
theorem turn_in {lo hi h b d v : Int} {pre : List Int} (A : (h, b, d) = pre.foldl (turn lo hi) (0, 0, 1)) (h1 : lo ≤ v) (h2 : v ≤ hi) : (h + 1, b + d, d * 2) = (pre ++ [v]).foldl (turn lo hi) (0, 0, 1) := by
  rw [List.foldl_append, ← A, List.foldl_cons, List.foldl_nil, turn, if_pos ⟨h1, h2⟩]
theorem turn_out {lo hi h b d v : Int} {pre : List Int} (A : (h, b, d) = pre.foldl (turn lo hi) (0, 0, 1)) (h1 : ¬ (lo ≤ v ∧ v ≤ hi)) : (h, b, d * 2) = (pre ++ [v]).foldl (turn lo hi) (0, 0, 1) := by
  rw [List.foldl_append, ← A, List.foldl_cons, List.foldl_nil, turn, if_neg h1]
theorem turn_none {lo hi : Int} : ((0 : Int), (0 : Int), (1 : Int)) = ([] : List Int).foldl (turn lo hi) (0, 0, 1) := rfl
theorem good_is (lo hi : Int) (sections : List Int) (h0 : 0 ≤ lo) (h1 : 0 ≤ hi) (hs : ∀ x ∈ sections, 0 ≤ x) :
    PyKza4.good lo hi sections = if Kza4.okWeb (sections.map Int.toNat) = false ∨ Kza4.okLimits lo.toNat hi.toNat = false then [-22] else [(end1 lo hi sections).1, (end1 lo hi sections).2.1] := by
  have e : PyKza4.good lo hi sections = (Kza4.answer (.good lo.toNat hi.toNat (sections.map Int.toNat))).value :: Kza4Neutral.ints (Kza4.answer (.good lo.toNat hi.toNat (sections.map Int.toNat))).nums := rfl
  rw [e, loop_is _ _ h0 h1 _ hs]
  unfold Kza4.answer
  dsimp only
  split
  · rfl
  · rfl
theorem answered {lo hi h b d M : Int} {sections : List Int} (h0 : 0 ≤ lo) (h1 : 0 ≤ hi) (hs : ∀ x ∈ sections, 0 ≤ x) (A : (h, b, d) = sections.foldl (turn lo hi) (0, 0, 1))
    (hM : ∀ x ∈ sections, x ≤ M) (hl : 1 ≤ (sections.length : Int) ∧ (sections.length : Int) ≤ 40) (hm : M ≤ 1000) (hh : lo ≤ hi ∧ hi ≤ 1000) : [h, b] = PyKza4.good lo hi sections := by
  rw [good_is lo hi sections h0 h1 hs, if_neg]
  · unfold end1
    rw [← A]
  · have w := web_ok hl (fun x hx => Int.le_trans (hM x hx) hm)
    have l : Kza4.okLimits lo.toNat hi.toNat = true := (okLimits_iff _ _).mpr (by omega)
    rw [w, l]
    simp
theorem refused {lo hi : Int} {sections : List Int} (h0 : 0 ≤ lo) (h1 : 0 ≤ hi) (hs : ∀ x ∈ sections, 0 ≤ x) (h : Kza4.okWeb (sections.map Int.toNat) = false ∨ Kza4.okLimits lo.toNat hi.toNat = false) : [-22] = PyKza4.good lo hi sections := by
  rw [good_is lo hi sections h0 h1 hs, if_pos h]
end My
open PySem PySem.W
set_option Elab.async false
set_option maxRecDepth 100000 in
set_option maxHeartbeats 4000000 in
theorem PySem.Challenge.cw_paperweb_s01_good_holds : PySem.Challenge.rw_paperweb_s01_good.Holds := by
  k_with "state" => first
    | exact My.turn_in (by assumption) (by assumption) (by assumption)
    | exact My.turn_out (by assumption) (by omega)
    | exact My.turn_none
  k_with "pyIter ref" => ((os_names lo hi sections); k_state (fun (pre : List Int) (h b d : Int) => (h, b, d) = pre.foldl (My.turn lo hi) (0, 0, 1)) "how_many" "bits" "bit")
  mi_open with [.int 0, .int 0, .list []]
  all_goals (os_names lo hi sections)
  all_goals (rename OpenSpec.pre _ _ = true => hq)
  all_goals have h0 := os_pre_isSome hq
  all_goals obtain ⟨a0, h1⟩ := os_facts_cons h0
  all_goals obtain ⟨a1, h2⟩ := os_facts_cons h1
  all_goals obtain ⟨e0, f0⟩ := os_fact_int a0
  all_goals obtain ⟨e1, f1⟩ := os_fact_int a1
  all_goals obtain ⟨e2, f2⟩ := os_dec_ints h2
  all_goals refine os_post (os_facts_join e0 (os_facts_join e1 e2)) ?_
  all_goals os_end
  all_goals first
    | exact congrArg (List.map PyData.int) (My.answered f0.1 f1.1 (fun x hx => (f2.2.2 x hx).1) (by assumption) (by assumption) ⟨by assumption, by assumption⟩ (by assumption) ⟨by assumption, by assumption⟩)
    | exact congrArg (List.map PyData.int) (My.refused f0.1 f1.1 (fun x hx => (f2.2.2 x hx).1) (.inr (My.no_limits f0.1 f1.1 (by omega))))
    | exact congrArg (List.map PyData.int) (My.refused f0.1 f1.1 (fun x hx => (f2.2.2 x hx).1) (.inl (My.no_web_item (by assumption) (by assumption))))
    | exact congrArg (List.map PyData.int) (My.refused f0.1 f1.1 (fun x hx => (f2.2.2 x hx).1) (.inl (My.no_web_len (by omega))))
#print axioms PySem.Challenge.cw_paperweb_s01_good_holds
