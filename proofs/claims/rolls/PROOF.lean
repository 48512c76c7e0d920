import PyProof.Rows.All
import Wide.All
import OpenK.AllK
import Wide.FinOn
import Open.SpecLaws
import KE.OsGo
import HandS.ForSpec
import HandS.Iter
import HandS.Walk
import HandS.SortKw
import KE.DataMinMax
import PySem.Challenge.RW_paperweb_s04_rolls
set_option Elab.async false
set_option maxRecDepth 100000
set_option maxHeartbeats 4000000
set_option linter.unusedVariables false
set_option linter.unusedSimpArgs false
namespace My
theorem okWeb_iff (l : List Nat) : Kza4.okWeb l = true ↔ (1 ≤ l.length ∧ l.length ≤ 40) ∧ ∀ x ∈ l, x ≤ 1000 := by
  unfold Kza4.okWeb
  rw [Bool.and_eq_true, Bool.and_eq_true, decide_eq_true_eq, decide_eq_true_eq, List.all_eq_true]
  simp only [decide_eq_true_eq]
  exact Iff.rfl
theorem okLimits_iff (lo hi : Nat) : Kza4.okLimits lo hi = true ↔ lo ≤ hi ∧ hi ≤ 1000 := by
  unfold Kza4.okLimits
  simp
theorem snoc_ind {P : List Int → Prop} (h0 : P []) (h1 : ∀ l x, P l → P (l ++ [x])) (l : List Int) : P l := by
  have e : ∀ (n : Nat) (l : List Int), l.length = n → P l := by
    intro n
    induction n with
    | zero =>
      intro l h
      rw [List.length_eq_zero_iff.mp h]
      exact h0
    | succ n ih =>
      intro l h
      have hne : l ≠ [] := by
        intro q
        rw [q] at h
        cases h
      rw [← List.dropLast_concat_getLast hne]
      apply h1
      apply ih
      rw [List.length_dropLast, h]
      rfl
  exact e l.length l rfl
theorem web_ok {l : List Int} (hl : 1 ≤ (l.length : Int) ∧ (l.length : Int) ≤ 40) (hm : ∀ x ∈ l, x ≤ 1000) : Kza4.okWeb (l.map Int.toNat) = true := by
  rw [okWeb_iff, List.length_map]
  refine ⟨by omega, ?_⟩
  intro x hx
  obtain ⟨y, hy, rfl⟩ := List.mem_map.mp hx
  have := hm y hy
  omega
theorem no_web_len {l : List Int} (hl : ¬ (1 ≤ (l.length : Int) ∧ (l.length : Int) ≤ 40)) : Kza4.okWeb (l.map Int.toNat) = false := by
  rw [Bool.eq_false_iff]
  intro q
  have := ((okWeb_iff _).mp q).1
  rw [List.length_map] at this
  omega
theorem no_web_item {l : List Int} {M : Int} (hM : M ∈ l) (h : ¬ M ≤ 1000) : Kza4.okWeb (l.map Int.toNat) = false := by
  rw [Bool.eq_false_iff]
  intro q
  have := ((okWeb_iff _).mp q).2 M.toNat (List.mem_map.mpr ⟨M, hM, rfl⟩)
  omega
theorem no_limits {lo hi : Int} (h0 : 0 ≤ lo) (h1 : 0 ≤ hi) (h : ¬ (lo ≤ hi ∧ hi ≤ 1000)) : Kza4.okLimits lo.toNat hi.toNat = false := by
  rw [Bool.eq_false_iff]
  intro q
  have := (okLimits_iff _ _).mp q
  omega
end My
namespace My
def blocks (lo hi : Nat) : Nat → Nat → List Nat → List (Nat × Nat)
  | i, c, [] => if 0 < c then [(i - c, c)] else []
  | i, c, x :: r => if lo ≤ x ∧ x ≤ hi then blocks lo hi (i + 1) (c + 1) r else (if 0 < c then [(i - c, c)] else []) ++ blocks lo hi (i + 1) 0 r
theorem blocks_end {lo hi i c : Nat} : blocks lo hi i c [] = if 0 < c then [(i - c, c)] else [] := by
  unfold blocks
  rfl
theorem blocks_in {lo hi i c x : Nat} {r : List Nat} (h : lo ≤ x ∧ x ≤ hi) : blocks lo hi i c (x :: r) = blocks lo hi (i + 1) (c + 1) r := by
  rw [blocks, if_pos h]
theorem blocks_out {lo hi i c x : Nat} {r : List Nat} (h : ¬ (lo ≤ x ∧ x ≤ hi)) : blocks lo hi i c (x :: r) = (if 0 < c then [(i - c, c)] else []) ++ blocks lo hi (i + 1) 0 r := by
  rw [blocks, if_neg h]
structure IsRun (lo hi : Nat) (l : List Nat) (s c : Nat) : Prop where
  pos : 0 < c
  up : ∀ m, m ≤ c → Kza4.upTo lo hi l (s + m) = m
  good : ∀ m, m < c → Kza4.isGood lo hi l (s + m) = true
  bad : Kza4.isGood lo hi l (s + c) = false
theorem upTo_back {lo hi : Nat} {l : List Nat} : ∀ (m i c : Nat), Kza4.upTo lo hi l i = c → m ≤ c → m ≤ i ∧ Kza4.upTo lo hi l (i - m) = c - m
  | 0, i, c, h, _ => ⟨Nat.zero_le _, by simpa using h⟩
  | m + 1, i, c, h, hm => by
    cases i with
    | zero =>
      have : Kza4.upTo lo hi l 0 = 0 := rfl
      omega
    | succ i =>
      have e : Kza4.upTo lo hi l (i + 1) = if Kza4.isGood lo hi l i then Kza4.upTo lo hi l i + 1 else 0 := rfl
      rw [e] at h
      split at h
      · next g =>
        have q := upTo_back (lo := lo) (hi := hi) (l := l) m i (c - 1) (by omega) (by omega)
        refine ⟨by omega, ?_⟩
        have e1 : i + 1 - (m + 1) = i - m := by omega
        rw [e1, q.2]
        omega
      · omega
theorem upTo_good {lo hi : Nat} {l : List Nat} {k c : Nat} (h : Kza4.upTo lo hi l (k + 1) = c) (hc : 0 < c) : Kza4.isGood lo hi l k = true := by
  have e : Kza4.upTo lo hi l (k + 1) = if Kza4.isGood lo hi l k then Kza4.upTo lo hi l k + 1 else 0 := rfl
  rw [e] at h
  split at h
  · assumption
  · omega
theorem isRun_of {lo hi : Nat} {l : List Nat} {i c : Nat} (hu : Kza4.upTo lo hi l i = c) (hc : 0 < c) (hb : Kza4.isGood lo hi l i = false) : c ≤ i ∧ IsRun lo hi l (i - c) c := by
  have h0 := (upTo_back c i c hu (Nat.le_refl _)).1
  have hup : ∀ m, m ≤ c → Kza4.upTo lo hi l (i - c + m) = m := by
    intro m hm
    have q := (upTo_back (c - m) i c hu (by omega)).2
    have e : i - c + m = i - (c - m) := by omega
    rw [e, q]
    omega
  refine ⟨h0, hc, hup, ?_, ?_⟩
  · intro m hm
    exact upTo_good (hup (m + 1) (by omega)) (by omega)
  · have e : i - c + c = i := by omega
    rw [e]
    exact hb
theorem from_run {lo hi : Nat} {l : List Nat} : ∀ (n f k : Nat), n ≤ f → (∀ m, m < n → Kza4.isGood lo hi l (k + m) = true) → Kza4.isGood lo hi l (k + n) = false → Kza4.from_ lo hi l f k = n
  | 0, 0, k, _, _, _ => rfl
  | 0, f + 1, k, _, _, hb => by
    show (if Kza4.isGood lo hi l k then Kza4.from_ lo hi l f (k + 1) + 1 else 0) = 0
    rw [show Kza4.isGood lo hi l k = false from hb]
    rfl
  | n + 1, 0, k, h, _, _ => by omega
  | n + 1, f + 1, k, h, hg, hb => by
    show (if Kza4.isGood lo hi l k then Kza4.from_ lo hi l f (k + 1) + 1 else 0) = n + 1
    rw [show Kza4.isGood lo hi l k = true from hg 0 (by omega), from_run n f (k + 1) (by omega) ?_ ?_]
    · rfl
    · intro m hm
      have e : k + 1 + m = k + (m + 1) := by omega
      rw [e]
      exact hg (m + 1) (by omega)
    · have e : k + 1 + n = k + (n + 1) := by omega
      rw [e]
      exact hb
theorem IsRun.runAt {lo hi : Nat} {l : List Nat} {s c : Nat} (R : IsRun lo hi l s c) (hc : c ≤ 40) {m : Nat} (hm : m < c) : Kza4.runAt lo hi l (s + m) = c := by
  unfold Kza4.runAt
  rw [R.up m (by omega), from_run (c - m) Kza4.most (s + m) (by show c - m ≤ 40; omega) ?_ ?_]
  · omega
  · intro k hk
    rw [Nat.add_assoc]
    exact R.good (m + k) (by omega)
  · have e : s + m + (c - m) = s + c := by omega
    rw [e]
    exact R.bad
theorem beyond {lo hi : Nat} {l : List Nat} (h : hi ≤ 1000) {i : Nat} (hi' : l.length ≤ i) : Kza4.isGood lo hi l i = false := by
  unfold Kza4.isGood
  rw [List.getD_eq_getElem?_getD, List.getElem?_eq_none hi', Option.getD_none]
  have e : decide (1001 ≤ hi) = false := decide_eq_false (by omega)
  rw [e, Bool.and_false]
theorem isGood_at {lo hi : Nat} {l r : List Nat} {x i : Nat} (h : l.drop i = x :: r) : Kza4.isGood lo hi l i = (decide (lo ≤ x) && decide (x ≤ hi)) := by
  have e : l[i]? = some x := by
    have q := List.getElem?_drop (xs := l) (i := i) (j := 0)
    rw [h] at q
    simpa using q.symm
  unfold Kza4.isGood
  rw [List.getD_eq_getElem?_getD, e, Option.getD_some]
theorem blocks_runs {lo hi : Nat} {l : List Nat} (hh : hi ≤ 1000) : ∀ (r : List Nat) (i c : Nat), l.drop i = r → i ≤ l.length → Kza4.upTo lo hi l i = c → ∀ b ∈ blocks lo hi i c r, IsRun lo hi l b.1 b.2 ∧ b.1 + b.2 ≤ l.length
  | [], i, c, hd, hl, hu, b, hb => by
    have hi' : l.length ≤ i := by
      have q := congrArg List.length hd
      rw [List.length_drop] at q
      simp at q
      omega
    unfold blocks at hb
    split at hb
    · next h =>
      rw [List.mem_singleton] at hb
      subst hb
      have q := isRun_of hu h (beyond hh hi')
      exact ⟨q.2, by show i - c + c ≤ l.length; omega⟩
    · cases hb
  | x :: r, i, c, hd, hl, hu, b, hb => by
    have hlt : i < l.length := by
      have q := congrArg List.length hd
      rw [List.length_drop] at q
      simp at q
      omega
    have hd' : l.drop (i + 1) = r := by
      rw [← List.tail_drop, hd]
      rfl
    have hg := isGood_at (lo := lo) (hi := hi) hd
    have hu' : Kza4.upTo lo hi l (i + 1) = if Kza4.isGood lo hi l i then Kza4.upTo lo hi l i + 1 else 0 := rfl
    unfold blocks at hb
    split at hb
    · next h =>
      have g : Kza4.isGood lo hi l i = true := by
        rw [hg]
        simp [h.1, h.2]
      rw [g, hu] at hu'
      exact blocks_runs hh r (i + 1) (c + 1) hd' (by omega) (by simpa using hu') b hb
    · next h =>
      have g : Kza4.isGood lo hi l i = false := by
        rw [hg]
        by_cases h1 : lo ≤ x
        · have h2 : ¬ x ≤ hi := fun q => h ⟨h1, q⟩
          simp [h2]
        · simp [h1]
      rw [List.mem_append] at hb
      rcases hb with hb | hb
      · split at hb
        · next h0 =>
          rw [List.mem_singleton] at hb
          subst hb
          have q := isRun_of hu h0 g
          exact ⟨q.2, by show i - c + c ≤ l.length; omega⟩
        · cases hb
      · rw [g] at hu'
        exact blocks_runs hh r (i + 1) 0 hd' (by omega) (by simpa using hu') b hb
def tell (p : Nat) (bs : List (Nat × Nat)) : List Nat := (bs.filter fun b => decide (p ≤ b.2)).flatMap fun b => List.range' b.1 b.2
theorem filter_run {lo hi p : Nat} {l : List Nat} {s c : Nat} (R : IsRun lo hi l s c) (hc : c ≤ 40) :
    (List.range' s c).filter (fun i => Kza4.isGood lo hi l i && decide (p ≤ Kza4.runAt lo hi l i)) = if p ≤ c then List.range' s c else [] := by
  have q : ∀ i ∈ List.range' s c, (Kza4.isGood lo hi l i && decide (p ≤ Kza4.runAt lo hi l i)) = decide (p ≤ c) := by
    intro i hi'
    obtain ⟨m, hm, rfl⟩ := List.mem_range'.mp hi'
    rw [Nat.one_mul, R.good m hm, R.runAt hc hm, Bool.true_and]
  rw [List.filter_congr q]
  split
  · next h => simp [h]
  · next h => simp [h]
theorem usable_go {lo hi p : Nat} {l : List Nat} (hh : hi ≤ 1000) (hl40 : l.length ≤ 40) : ∀ (r : List Nat) (i c : Nat), l.drop i = r → i ≤ l.length → Kza4.upTo lo hi l i = c →
    (List.range' (i - c) (r.length + c)).filter (fun i => Kza4.isGood lo hi l i && decide (p ≤ Kza4.runAt lo hi l i)) = tell p (blocks lo hi i c r)
  | [], i, c, hd, hl, hu => by
    have hi' : l.length ≤ i := by
      have q := congrArg List.length hd
      rw [List.length_drop] at q
      simp at q
      omega
    unfold blocks tell
    rw [List.length_nil, Nat.zero_add]
    split
    · next h =>
      have q := isRun_of hu h (beyond hh hi')
      rw [filter_run q.2 (by omega)]
      by_cases hp : p ≤ c
      · simp [hp]
      · simp [hp]
    · next h =>
      have e : c = 0 := by omega
      rw [e]
      rfl
  | x :: r, i, c, hd, hl, hu => by
    have hlt : i < l.length := by
      have q := congrArg List.length hd
      rw [List.length_drop] at q
      simp at q
      omega
    have hd' : l.drop (i + 1) = r := by
      rw [← List.tail_drop, hd]
      rfl
    have hg := isGood_at (lo := lo) (hi := hi) hd
    have hu' : Kza4.upTo lo hi l (i + 1) = if Kza4.isGood lo hi l i then Kza4.upTo lo hi l i + 1 else 0 := rfl
    have hci := (upTo_back c i c hu (Nat.le_refl _)).1
    unfold blocks
    split
    · next h =>
      have g : Kza4.isGood lo hi l i = true := by
        rw [hg]
        simp [h.1, h.2]
      rw [g, hu] at hu'
      have q := usable_go (p := p) hh hl40 r (i + 1) (c + 1) hd' (by omega) (by simpa using hu')
      rw [← q]
      congr 2
      · omega
      · rw [List.length_cons]
        omega
    · next h =>
      have g : Kza4.isGood lo hi l i = false := by
        rw [hg]
        by_cases h1 : lo ≤ x
        · have h2 : ¬ x ≤ hi := fun q => h ⟨h1, q⟩
          simp [h2]
        · simp [h1]
      rw [g] at hu'
      have q := usable_go (p := p) hh hl40 r (i + 1) 0 hd' (by omega) (by simpa using hu')
      simp only [Nat.sub_zero, Nat.add_zero] at q
      have e : List.range' (i - c) ((x :: r).length + c) = List.range' (i - c) c ++ (i :: List.range' (i + 1) r.length) := by
        have e1 : (x :: r).length + c = c + (r.length + 1) := by
          rw [List.length_cons]
          omega
        rw [e1, ← List.range'_append_1]
        congr 1
        have e2 : i - c + c = i := by omega
        rw [e2]
        rfl
      rw [e, List.filter_append, List.filter_cons, g, Bool.false_and]
      simp only [Bool.false_eq_true, if_false]
      rw [q]
      unfold tell
      rw [List.filter_append, List.flatMap_append]
      congr 1
      by_cases hc : 0 < c
      · have z := isRun_of hu hc g
        rw [if_pos hc, filter_run z.2 (by omega)]
        by_cases hp : p ≤ c
        · simp [hp]
        · simp [hp]
      · have e0 : c = 0 := by omega
        rw [if_neg hc, e0]
        rfl
theorem usable_is {lo hi p : Nat} {l : List Nat} (hh : hi ≤ 1000) (hl40 : l.length ≤ 40) : Kza4.usable lo hi p l = tell p (blocks lo hi 0 0 l) := by
  have q := usable_go (p := p) (lo := lo) (hi := hi) (l := l) hh hl40 l 0 0 rfl (Nat.zero_le _) rfl
  rw [← q]
  unfold Kza4.usable
  rw [List.range_eq_range']
  rfl
theorem begins_is {lo hi p : Nat} {l : List Nat} (hh : hi ≤ 1000) (hl40 : l.length ≤ 40) : Kza4.begins lo hi p l = ((blocks lo hi 0 0 l).filter fun b => decide (p ≤ b.2)).map Prod.fst := by
  unfold Kza4.begins
  rw [usable_is hh hl40]
  have hr := blocks_runs (lo := lo) (hi := hi) (l := l) hh l 0 0 rfl (Nat.zero_le _) rfl
  unfold tell
  generalize blocks lo hi 0 0 l = bs at hr
  induction bs with
  | nil => rfl
  | cons b bs ih =>
    have ih := ih (fun x hx => hr x (List.mem_cons_of_mem _ hx))
    have R := (hr b (List.mem_cons_self ..)).1
    rw [List.filter_cons]
    split
    · rw [List.flatMap_cons, List.filter_append, ih, List.map_cons]
      have e : List.range' b.1 b.2 = b.1 :: List.range' (b.1 + 1) (b.2 - 1) := by
        have q : b.2 = (b.2 - 1) + 1 := by
          have := R.pos
          omega
        rw [q]
        rfl
      have e0 : (Kza4.upTo lo hi l b.1 == 0) = true := by
        have := R.up 0 (Nat.zero_le _)
        rw [Nat.add_zero] at this
        rw [this]
        rfl
      have e1 : (List.range' (b.1 + 1) (b.2 - 1)).filter (fun i => Kza4.upTo lo hi l i == 0) = [] := by
        rw [List.filter_eq_nil_iff]
        intro i hi'
        obtain ⟨m, hm, rfl⟩ := List.mem_range'.mp hi'
        have := R.up (m + 1) (by omega)
        rw [Nat.one_mul, show b.1 + 1 + m = b.1 + (m + 1) by omega, this]
        simp
      rw [e, List.filter_cons, e0, e1]
      rfl
    · exact ih
theorem lengths_is {lo hi p : Nat} {l : List Nat} (hh : hi ≤ 1000) (hl40 : l.length ≤ 40) : (Kza4.begins lo hi p l).map (Kza4.runAt lo hi l) = ((blocks lo hi 0 0 l).filter fun b => decide (p ≤ b.2)).map Prod.snd := by
  rw [begins_is hh hl40, List.map_map]
  apply List.map_congr_left
  intro b hb
  have R := blocks_runs (lo := lo) (hi := hi) (l := l) hh l 0 0 rfl (Nat.zero_le _) rfl b (List.mem_filter.mp hb).1
  have := R.1.runAt (by omega) R.1.pos
  rw [Nat.add_zero] at this
  exact this
theorem usable_length {lo hi p : Nat} {l : List Nat} (hh : hi ≤ 1000) (hl40 : l.length ≤ 40) : (Kza4.usable lo hi p l).length = (((blocks lo hi 0 0 l).filter fun b => decide (p ≤ b.2)).map Prod.snd).sum := by
  rw [usable_is hh hl40]
  unfold tell
  rw [List.length_flatMap]
  congr 1
  apply List.map_congr_left
  intro b _
  exact List.length_range' ..
end My
namespace My
section
variable (p j n : Nat)
def front : Nat → List Nat → List Nat
  | _, [] => []
  | 0, a :: u => if Kza4.isRoll p j n ((a :: u).take n) then a :: front (n - 1) u else front 0 u
  | k + 1, _ :: u => front k u
def best (u : List Nat) : List Nat := (Kza4.cuts p j n u).headD []
theorem front_drop : ∀ (k : Nat) (u : List Nat), front p j n k u = front p j n 0 (u.drop k)
  | _, [] => by
    rw [List.drop_nil]
    unfold front
    rfl
  | 0, _ :: _ => rfl
  | k + 1, _ :: u => front_drop k u
theorem cuts_at : ∀ (u : List Nat) (k : Nat), (Kza4.cuts p j n u).getD k [] = best p j n (u.drop k)
  | [], k => by
    rw [List.drop_nil]
    cases k with
    | zero => rfl
    | succ k => rfl
  | a :: u, 0 => rfl
  | a :: u, k + 1 => cuts_at u k
theorem best_cons (a : Nat) (u : List Nat) : best p j n (a :: u) =
    if 1 ≤ n ∧ Kza4.isRoll p j n ((a :: u).take n) = true then
      (if (best p j n u).length ≤ (a :: best p j n (u.drop (n - 1))).length then a :: best p j n (u.drop (n - 1)) else best p j n u)
    else best p j n u := by
  show (match (if 1 ≤ n ∧ Kza4.isRoll p j n ((a :: u).take n) = true then some (a :: (Kza4.cuts p j n u).getD (n - 1) []) else none) with
      | some h => if (best p j n u).length ≤ h.length then h else best p j n u
      | none => best p j n u) = _
  rw [cuts_at]
  split
  · next h q =>
    split at q
    · next c =>
      rw [if_pos c]
      cases q
      rfl
    · cases q
  · next q =>
    split at q
    · cases q
    · next c => rw [if_neg c]
theorem best_mono : ∀ (u : List Nat) (k : Nat), (best p j n (u.drop k)).length ≤ (best p j n u).length
  | [], k => by rw [List.drop_nil]; exact Nat.le_refl _
  | a :: u, 0 => Nat.le_refl _
  | a :: u, k + 1 => by
    have h := best_mono u k
    have e : (best p j n u).length ≤ (best p j n (a :: u)).length := by
      rw [best_cons]
      split
      · split
        · assumption
        · exact Nat.le_refl _
      · exact Nat.le_refl _
    exact Nat.le_trans h e
theorem best_drop : ∀ (u : List Nat) (k : Nat), k ≤ n → (best p j n u).length ≤ (best p j n (u.drop k)).length + 1
  | [], k, _ => by rw [List.drop_nil]; exact Nat.le_succ _
  | a :: u, 0, _ => Nat.le_succ _
  | a :: u, k + 1, hk => by
    have h := best_drop u k (by omega)
    rw [List.drop_succ_cons, best_cons]
    split
    · split
      · rw [List.length_cons]
        have m := best_mono p j n (u.drop k) (n - 1 - k)
        rw [List.drop_drop] at m
        have e : k + (n - 1 - k) = n - 1 := by omega
        rw [e] at m
        omega
      · exact h
    · exact h
theorem best_is_front (hn : 1 ≤ n) : ∀ (m : Nat) (u : List Nat), u.length ≤ m → best p j n u = front p j n 0 u
  | m, [], _ => rfl
  | 0, a :: u, h => by simp at h
  | m + 1, a :: u, h => by
    rw [List.length_cons] at h
    rw [best_cons]
    show _ = (if Kza4.isRoll p j n ((a :: u).take n) then a :: front p j n (n - 1) u else front p j n 0 u)
    split
    · next c =>
      have d := best_drop p j n u (n - 1) (by omega)
      rw [if_pos (by rw [List.length_cons]; exact d), if_pos c.2, front_drop, best_is_front hn m (u.drop (n - 1)) (by rw [List.length_drop]; omega)]
    · next c =>
      have c' : ¬ (Kza4.isRoll p j n ((a :: u).take n) = true) := fun q => c ⟨hn, q⟩
      rw [if_neg c', best_is_front hn m u (by omega)]
end
def piecesFrom : Nat → Nat → List Nat → List Nat
  | c, _, [] => [c]
  | c, a, b :: l => if b = a + 1 then piecesFrom (c + 1) b l else c :: piecesFrom 1 b l
theorem piecesFrom_is : ∀ (l : List Nat) (c a : Nat), ∃ x r, Kza4.pieces (a :: l) = x :: r ∧ piecesFrom (c + 1) a l = (x + c) :: r
  | [], c, a => ⟨1, [], rfl, by unfold piecesFrom; rw [Nat.add_comm]⟩
  | b :: l, c, a => by
    obtain ⟨x, r, e, f⟩ := piecesFrom_is l (c + 1) b
    obtain ⟨x', r', e', f'⟩ := piecesFrom_is l 0 b
    rw [e] at e'
    cases e'
    have u : Kza4.pieces (a :: b :: l) = if b = a + 1 then (x + 1) :: r else 1 :: x :: r := by
      show (match Kza4.pieces (b :: l) with
        | [] => [1]
        | x :: r => if b = a + 1 then (x + 1) :: r else 1 :: x :: r) = _
      rw [e]
    unfold piecesFrom
    by_cases h : b = a + 1
    · rw [if_pos h] at u
      rw [if_pos h]
      exact ⟨x + 1, r, u, by rw [f]; congr 1; omega⟩
    · rw [if_neg h] at u
      rw [if_neg h]
      exact ⟨1, x :: r, u, by rw [f']; congr 1; omega⟩
theorem pieces_is (a : Nat) (l : List Nat) : Kza4.pieces (a :: l) = piecesFrom 1 a l := by
  obtain ⟨x, r, e, f⟩ := piecesFrom_is l 0 a
  rw [e, f]
  rfl
end My
namespace My
theorem okCut_iff (lo hi p j n : Nat) : Kza4.okCut lo hi p j n = true ↔ Kza4.okLimits lo hi = true ∧ 1 ≤ p ∧ p ≤ 20 ∧ j ≤ 5 ∧ 1 ≤ n ∧ n ≤ 40 := by
  unfold Kza4.okCut
  simp only [Bool.and_eq_true, decide_eq_true_eq, and_assoc]
  exact Iff.rfl
def long (p : Nat) (bs : List (Nat × Nat)) : List (Nat × Nat) := bs.filter fun b => decide (p ≤ b.2)
theorem long_snoc (p : Nat) (bs : List (Nat × Nat)) (b : Nat × Nat) : long p (bs ++ [b]) = if p ≤ b.2 then long p bs ++ [b] else long p bs := by
  unfold long
  rw [List.filter_append]
  split
  · next h => simp [h]
  · next h => simp [h]
theorem top_snoc (l : List Nat) (x : Nat) : Kza4.top (l ++ [x]) = max (Kza4.top l) x := by
  unfold Kza4.top
  rw [List.foldl_append]
  rfl
structure Told (p : Nat) (bs : List (Nat × Nat)) (h m u : Int) : Prop where
  h : h = ((long p bs).length : Int)
  m : m = ((Kza4.top ((long p bs).map Prod.snd) : Nat) : Int)
  u : u = ((((long p bs).map Prod.snd).sum : Nat) : Int)
theorem Told.nil {p : Nat} : Told p [] 0 0 0 := ⟨rfl, rfl, rfl⟩
theorem Told.more {p : Nat} {bs : List (Nat × Nat)} {b : Nat × Nat} {h m u : Int} (T : Told p bs h m u) (hp : p ≤ b.2) : Told p (bs ++ [b]) (h + 1) (if (b.2 : Int) > m then (b.2 : Int) else m) (u + (b.2 : Int)) := by
  have e : long p (bs ++ [b]) = long p bs ++ [b] := by rw [long_snoc, if_pos hp]
  refine ⟨?_, ?_, ?_⟩
  · rw [e, List.length_append, T.h]
    rfl
  · rw [e, List.map_append, List.map_singleton, top_snoc, T.m]
    split <;> omega
  · rw [e, List.map_append, List.map_singleton, List.sum_append, T.u, List.sum_singleton]
    omega
theorem Told.skip {p : Nat} {bs : List (Nat × Nat)} {b : Nat × Nat} {h m u : Int} (T : Told p bs h m u) (hp : ¬ p ≤ b.2) : Told p (bs ++ [b]) h m u := by
  have e : long p (bs ++ [b]) = long p bs := by rw [long_snoc, if_neg hp]
  exact ⟨by rw [e]; exact T.h, by rw [e]; exact T.m, by rw [e]; exact T.u⟩
theorem blocks_end_le {lo hi : Nat} : ∀ (r : List Nat) (i c : Nat), c ≤ i → ∀ b ∈ blocks lo hi i c r, b.1 + b.2 ≤ i + r.length
  | [], i, c, hc, b, hb => by
    rw [blocks_end] at hb
    split at hb
    · rw [List.mem_singleton] at hb
      subst hb
      show i - c + c ≤ i + 0
      omega
    · cases hb
  | x :: r, i, c, hc, b, hb => by
    rw [List.length_cons]
    by_cases h : lo ≤ x ∧ x ≤ hi
    · rw [blocks_in h] at hb
      have := blocks_end_le r (i + 1) (c + 1) (by omega) b hb
      omega
    · rw [blocks_out h, List.mem_append] at hb
      rcases hb with hb | hb
      · split at hb
        · rw [List.mem_singleton] at hb
          subst hb
          show i - c + c ≤ _
          omega
        · cases hb
      · have := blocks_end_le r (i + 1) 0 (by omega) b hb
        omega
theorem blocks_sum {lo hi : Nat} : ∀ (r : List Nat) (i c : Nat), ((blocks lo hi i c r).map Prod.snd).sum ≤ c + r.length
  | [], i, c => by
    rw [blocks_end]
    split <;> simp
  | x :: r, i, c => by
    rw [List.length_cons]
    by_cases h : lo ≤ x ∧ x ≤ hi
    · rw [blocks_in h]
      have := blocks_sum (lo := lo) (hi := hi) r (i + 1) (c + 1)
      omega
    · rw [blocks_out h, List.map_append, List.sum_append]
      have := blocks_sum (lo := lo) (hi := hi) r (i + 1) 0
      have e : ((if 0 < c then [(i - c, c)] else []).map Prod.snd).sum ≤ c := by
        split <;> simp
      omega
theorem tell_le (p : Nat) : ∀ (bs : List (Nat × Nat)), (tell p bs).length ≤ (bs.map Prod.snd).sum
  | [] => Nat.le_refl _
  | b :: bs => by
    have ih := tell_le p bs
    unfold tell at ih ⊢
    rw [List.filter_cons]
    split
    · rw [List.flatMap_cons, List.length_append, List.length_range', List.map_cons, List.sum_cons]
      omega
    · rw [List.map_cons, List.sum_cons]
      omega
theorem tell_snoc (p : Nat) (bs : List (Nat × Nat)) (b : Nat × Nat) : tell p (bs ++ [b]) = tell p bs ++ (if p ≤ b.2 then List.range' b.1 b.2 else []) := by
  unfold tell
  rw [List.filter_append, List.flatMap_append]
  congr 1
  split
  · next h => simp [h]
  · next h => simp [h]
theorem sum_take_le (l : List Nat) (i : Nat) : (l.take i).sum ≤ l.sum := by
  have h := congrArg List.sum (List.take_append_drop i l)
  rw [List.sum_append] at h
  omega
theorem runs_refused {lo hi p : Int} {l : List Int} (h : Kza4.okWeb (l.map Int.toNat) = false ∨ Kza4.okCut lo.toNat hi.toNat p.toNat 0 1 = false) : PyKza4.runs lo hi p l = [-22] := by
  have e : PyKza4.runs lo hi p l = (Kza4.answer (.runs lo.toNat hi.toNat p.toNat (l.map Int.toNat))).value :: Kza4Neutral.ints (Kza4.answer (.runs lo.toNat hi.toNat p.toNat (l.map Int.toNat))).nums := rfl
  rw [e]
  unfold Kza4.answer
  dsimp only
  rw [if_pos h]
  rfl
theorem runs_told {lo hi p h m u : Int} {l : List Int} (hw : Kza4.okWeb (l.map Int.toNat) = true) (hc : Kza4.okCut lo.toNat hi.toNat p.toNat 0 1 = true)
    (T : Told p.toNat (blocks lo.toNat hi.toNat 0 0 (l.map Int.toNat)) h m u) : PyKza4.runs lo hi p l = [h, m, u] := by
  have e : PyKza4.runs lo hi p l = (Kza4.answer (.runs lo.toNat hi.toNat p.toNat (l.map Int.toNat))).value :: Kza4Neutral.ints (Kza4.answer (.runs lo.toNat hi.toNat p.toNat (l.map Int.toNat))).nums := rfl
  rw [e]
  unfold Kza4.answer
  dsimp only
  have hn : ¬ (Kza4.okWeb (l.map Int.toNat) = false ∨ Kza4.okCut lo.toNat hi.toNat p.toNat 0 1 = false) := by
    rw [hw, hc]
    simp
  have hh : hi.toNat ≤ 1000 := ((okLimits_iff _ _).mp ((okCut_iff _ _ _ _ _).mp hc).1).2
  have hl : (l.map Int.toNat).length ≤ 40 := ((okWeb_iff _).mp hw).1.2
  rw [if_neg hn]
  show _ :: [_, _] = _
  rw [lengths_is hh hl, usable_length hh hl, begins_is hh hl, List.length_map, T.h, T.m, T.u]
  rfl
end My
namespace My
theorem isRoll_of {p j n : Nat} {s : List Nat} (h : s.length = n) : Kza4.isRoll p j n s = (decide ((Kza4.pieces s).length ≤ j + 1) && (Kza4.pieces s).all fun x => decide (p ≤ x)) := by
  unfold Kza4.isRoll
  rw [h, beq_self_eq_true, Bool.true_and]
theorem isRoll_short {p j n : Nat} {s : List Nat} (h : ¬ s.length = n) : Kza4.isRoll p j n s = false := by
  unfold Kza4.isRoll
  have e : (s.length == n) = false := by
    rw [beq_eq_false_iff_ne]
    exact h
  rw [e, Bool.false_and, Bool.false_and]
theorem front_short {p j n : Nat} : ∀ (u : List Nat), u.length < n → front p j n 0 u = []
  | [], _ => by
    unfold front
    rfl
  | a :: u, h => by
    have h' : u.length < n := by
      rw [List.length_cons] at h
      omega
    show (if Kza4.isRoll p j n ((a :: u).take n) then a :: front p j n (n - 1) u else front p j n 0 u) = []
    rw [if_neg, front_short u h']
    rw [isRoll_short]
    · decide
    · rw [List.length_take]
      omega
theorem front_take {p j n a : Nat} {u : List Nat} (h : Kza4.isRoll p j n ((a :: u).take n) = true) : front p j n 0 (a :: u) = a :: front p j n 0 (u.drop (n - 1)) := by
  show (if Kza4.isRoll p j n ((a :: u).take n) then a :: front p j n (n - 1) u else front p j n 0 u) = _
  rw [if_pos h, front_drop]
theorem front_skip {p j n a : Nat} {u : List Nat} (h : Kza4.isRoll p j n ((a :: u).take n) = false) : front p j n 0 (a :: u) = front p j n 0 u := by
  show (if Kza4.isRoll p j n ((a :: u).take n) then a :: front p j n (n - 1) u else front p j n 0 u) = _
  rw [if_neg (by rw [h]; decide)]
theorem rolls_refused {lo hi p j n : Int} {l : List Int} (h : Kza4.okWeb (l.map Int.toNat) = false ∨ Kza4.okCut lo.toNat hi.toNat p.toNat j.toNat n.toNat = false) : PyKza4.rolls lo hi p j n l = [-22] := by
  have e : PyKza4.rolls lo hi p j n l = (Kza4.answer (.rolls lo.toNat hi.toNat p.toNat j.toNat n.toNat (l.map Int.toNat))).value :: Kza4Neutral.ints (Kza4.answer (.rolls lo.toNat hi.toNat p.toNat j.toNat n.toNat (l.map Int.toNat))).nums := rfl
  rw [e]
  unfold Kza4.answer
  dsimp only
  rw [if_pos h]
  rfl
theorem rolls_told {lo hi p j n : Int} {l : List Int} (hw : Kza4.okWeb (l.map Int.toNat) = true) (hc : Kza4.okCut lo.toNat hi.toNat p.toNat j.toNat n.toNat = true) :
    PyKza4.rolls lo hi p j n l = ((front p.toNat j.toNat n.toNat 0 (tell p.toNat (blocks lo.toNat hi.toNat 0 0 (l.map Int.toNat)))).length : Int) :: Kza4Neutral.ints (front p.toNat j.toNat n.toNat 0 (tell p.toNat (blocks lo.toNat hi.toNat 0 0 (l.map Int.toNat)))) := by
  have e : PyKza4.rolls lo hi p j n l = (Kza4.answer (.rolls lo.toNat hi.toNat p.toNat j.toNat n.toNat (l.map Int.toNat))).value :: Kza4Neutral.ints (Kza4.answer (.rolls lo.toNat hi.toNat p.toNat j.toNat n.toNat (l.map Int.toNat))).nums := rfl
  rw [e]
  unfold Kza4.answer
  dsimp only
  have hn : ¬ (Kza4.okWeb (l.map Int.toNat) = false ∨ Kza4.okCut lo.toNat hi.toNat p.toNat j.toNat n.toNat = false) := by
    rw [hw, hc]
    simp
  have hh : hi.toNat ≤ 1000 := ((okLimits_iff _ _).mp ((okCut_iff _ _ _ _ _).mp hc).1).2
  have hl : (l.map Int.toNat).length ≤ 40 := ((okWeb_iff _).mp hw).1.2
  rw [if_neg hn]
  have q : Kza4.rolls lo.toNat hi.toNat p.toNat j.toNat n.toNat (l.map Int.toNat) = front p.toNat j.toNat n.toNat 0 (tell p.toNat (blocks lo.toNat hi.toNat 0 0 (l.map Int.toNat))) := by
    show best p.toNat j.toNat n.toNat _ = _
    rw [best_is_front _ _ _ ((okCut_iff _ _ _ _ _).mp hc).2.2.2.2.1 _ _ (Nat.le_refl _), usable_is hh hl]
  rw [q]
end My
namespace My
def partsFrom : List Nat → Nat → List Nat → List (List Nat)
  | cur, _, [] => [cur]
  | cur, y, b :: l => if y + 1 = b then partsFrom (cur ++ [b]) b l else cur :: partsFrom [b] b l
def parts : List Nat → List (List Nat)
  | [] => []
  | a :: l => partsFrom [a] a l
theorem partsFrom_in {cur l : List Nat} {y b : Nat} (h : y + 1 = b) : partsFrom cur y (b :: l) = partsFrom (cur ++ [b]) b l := by
  rw [partsFrom, if_pos h]
theorem partsFrom_out {cur l : List Nat} {y b : Nat} (h : ¬ y + 1 = b) : partsFrom cur y (b :: l) = cur :: partsFrom [b] b l := by
  rw [partsFrom, if_neg h]
theorem partsFrom_end {cur : List Nat} {y : Nat} : partsFrom cur y [] = [cur] := by
  rw [partsFrom]
theorem partsFrom_lengths : ∀ (l cur : List Nat) (y : Nat), (partsFrom cur y l).map List.length = piecesFrom cur.length y l
  | [], cur, y => rfl
  | b :: l, cur, y => by
    rw [partsFrom, piecesFrom]
    by_cases h : y + 1 = b
    · rw [if_pos h, if_pos h.symm, partsFrom_lengths l, List.length_append]
      rfl
    · rw [if_neg h, if_neg (fun z => h z.symm), List.map_cons, partsFrom_lengths l]
      rfl
theorem parts_lengths (l : List Nat) : (parts l).map List.length = Kza4.pieces l := by
  cases l with
  | nil => rfl
  | cons a l =>
    rw [pieces_is]
    exact partsFrom_lengths l [a] a
theorem partsFrom_sum : ∀ (l cur : List Nat) (y : Nat), ((partsFrom cur y l).map List.length).sum = cur.length + l.length
  | [], cur, y => by
    rw [partsFrom_end]
    simp
  | b :: l, cur, y => by
    rw [partsFrom]
    split
    · rw [partsFrom_sum l]
      simp only [List.length_append, List.length_cons, List.length_nil]
      omega
    · rw [List.map_cons, List.sum_cons, partsFrom_sum l]
      simp only [List.length_cons, List.length_nil]
      omega
theorem partsFrom_far {cur l : List Nat} {y : Nat} (h : ∀ b r, l = b :: r → ¬ y + 1 = b) : partsFrom cur y l = cur :: parts l := by
  cases l with
  | nil => rfl
  | cons b r => exact partsFrom_out (h b r rfl)
def goodsFrom (lo hi : Nat) : Nat → List Nat → List Nat
  | _, [] => []
  | i, x :: r => if lo ≤ x ∧ x ≤ hi then i :: goodsFrom lo hi (i + 1) r else goodsFrom lo hi (i + 1) r
theorem goods_in {lo hi i x : Nat} {r : List Nat} (h : lo ≤ x ∧ x ≤ hi) : goodsFrom lo hi i (x :: r) = i :: goodsFrom lo hi (i + 1) r := by
  rw [goodsFrom, if_pos h]
theorem goods_out {lo hi i x : Nat} {r : List Nat} (h : ¬ (lo ≤ x ∧ x ≤ hi)) : goodsFrom lo hi i (x :: r) = goodsFrom lo hi (i + 1) r := by
  rw [goodsFrom, if_neg h]
theorem goods_ge {lo hi : Nat} : ∀ (r : List Nat) (i : Nat), ∀ b ∈ goodsFrom lo hi i r, i ≤ b
  | [], i, b, h => by cases h
  | x :: r, i, b, h => by
    by_cases g : lo ≤ x ∧ x ≤ hi
    · rw [goods_in g] at h
      rcases List.mem_cons.mp h with e | h
      · omega
      · have := goods_ge r (i + 1) b h
        omega
    · rw [goods_out g] at h
      have := goods_ge r (i + 1) b h
      omega
theorem goods_length {lo hi : Nat} : ∀ (r : List Nat) (i : Nat), (goodsFrom lo hi i r).length ≤ r.length
  | [], i => Nat.le_refl _
  | x :: r, i => by
    have := goods_length (lo := lo) (hi := hi) r (i + 1)
    rw [goodsFrom]
    split
    · rw [List.length_cons, List.length_cons]
      omega
    · rw [List.length_cons]
      omega
def rng (b : Nat × Nat) : List Nat := List.range' b.1 b.2
theorem parts_blocks {lo hi : Nat} : ∀ (r : List Nat) (i : Nat), parts (goodsFrom lo hi i r) = (blocks lo hi i 0 r).map rng ∧
    ∀ c, 0 < c → c ≤ i → partsFrom (List.range' (i - c) c) (i - 1) (goodsFrom lo hi i r) = (blocks lo hi i c r).map rng
  | [], i => by
    refine ⟨rfl, fun c hc hi' => ?_⟩
    rw [blocks_end, if_pos hc]
    rfl
  | x :: r, i => by
    obtain ⟨h1, h2⟩ := parts_blocks r (i + 1)
    by_cases g : lo ≤ x ∧ x ≤ hi
    · rw [goods_in g]
      refine ⟨?_, fun c hc hi' => ?_⟩
      · rw [blocks_in g, ← h2 1 (by omega) (by omega)]
        rfl
      · rw [blocks_in g, ← h2 (c + 1) (by omega) (by omega), partsFrom_in (by omega)]
        have e1 : i + 1 - (c + 1) = i - c := by omega
        have e2 : i + 1 - 1 = i := by omega
        have e3 : List.range' (i - c) (c + 1) = List.range' (i - c) c ++ [i] := by
          rw [List.range'_concat, Nat.one_mul]
          congr 2
          omega
        rw [e1, e2, e3]
    · rw [goods_out g]
      refine ⟨?_, fun c hc hi' => ?_⟩
      · rw [blocks_out g, if_neg (Nat.lt_irrefl 0), List.nil_append]
        exact h1
      · rw [blocks_out g, if_pos hc, List.map_append, ← h1, partsFrom_far]
        · rfl
        · intro b l e z
          have := goods_ge (lo := lo) (hi := hi) r (i + 1) b (by rw [e]; exact List.mem_cons_self ..)
          omega
theorem parts_runs {lo hi : Nat} (l : List Nat) : parts (goodsFrom lo hi 0 l) = (blocks lo hi 0 0 l).map rng := (parts_blocks l 0).1
def longParts (p : Nat) (gs : List (List Nat)) : List (List Nat) := gs.filter fun g => decide (p ≤ g.length)
theorem longParts_runs (p : Nat) (bs : List (Nat × Nat)) : longParts p (bs.map rng) = (long p bs).map rng := by
  unfold longParts long
  rw [List.filter_map]
  congr 1
  apply List.filter_congr
  intro b _
  show decide (p ≤ (List.range' b.1 b.2).length) = _
  rw [List.length_range']
theorem rng_lengths (bs : List (Nat × Nat)) : (bs.map rng).map List.length = bs.map Prod.snd := by
  rw [List.map_map]
  apply List.map_congr_left
  intro b _
  exact List.length_range' ..
theorem flatten_rng (p : Nat) (bs : List (Nat × Nat)) : ((long p bs).map rng).flatten = tell p bs := by
  unfold tell long
  rw [List.flatMap_def]
  rfl
theorem longParts_snoc (p : Nat) (gs : List (List Nat)) (g : List Nat) : longParts p (gs ++ [g]) = if p ≤ g.length then longParts p gs ++ [g] else longParts p gs := by
  unfold longParts
  rw [List.filter_append]
  split
  · next h => simp [h]
  · next h => simp [h]
theorem longParts_length (p : Nat) (gs : List (List Nat)) : (longParts p gs).length ≤ gs.length := List.length_filter_le ..
theorem longParts_sum (p : Nat) (gs : List (List Nat)) : ((longParts p gs).map List.length).sum ≤ (gs.map List.length).sum := by
  induction gs with
  | nil => exact Nat.le_refl _
  | cons g gs ih =>
    unfold longParts at ih ⊢
    rw [List.filter_cons]
    split
    · rw [List.map_cons, List.map_cons, List.sum_cons, List.sum_cons]
      omega
    · rw [List.map_cons, List.sum_cons]
      omega
theorem partsFrom_count : ∀ (l cur : List Nat) (y : Nat), (partsFrom cur y l).length ≤ 1 + l.length
  | [], cur, y => by
    rw [partsFrom_end]
    exact Nat.le_refl _
  | b :: l, cur, y => by
    rw [partsFrom]
    split
    · have := partsFrom_count l (cur ++ [b]) b
      rw [List.length_cons]
      omega
    · have := partsFrom_count l [b] b
      rw [List.length_cons, List.length_cons]
      omega
theorem parts_count (l : List Nat) : (parts l).length ≤ l.length := by
  cases l with
  | nil => exact Nat.le_refl _
  | cons a l =>
    have := partsFrom_count l [a] a
    rw [List.length_cons]
    exact Nat.le_trans this (by omega)
theorem parts_sum (l : List Nat) : ((parts l).map List.length).sum = l.length := by
  cases l with
  | nil => rfl
  | cons a l =>
    show ((partsFrom [a] a l).map List.length).sum = _
    rw [partsFrom_sum]
    simp only [List.length_cons, List.length_nil]
    omega
theorem partsFrom_ne : ∀ (l cur : List Nat) (y : Nat), partsFrom cur y l ≠ []
  | [], cur, y => by
    rw [partsFrom_end]
    exact List.cons_ne_nil _ _
  | b :: l, cur, y => by
    rw [partsFrom]
    split
    · exact partsFrom_ne l _ _
    · exact List.cons_ne_nil _ _
theorem parts_pos {l : List Nat} (h : 1 ≤ l.length) : 1 ≤ (parts l).length := by
  cases l with
  | nil => cases h
  | cons a l =>
    have := partsFrom_ne l [a] a
    exact List.length_pos_iff.mpr this
theorem all_by_least {p : Nat} {l : List Nat} {m : Nat} (hm : m ∈ l) (hle : ∀ y ∈ l, m ≤ y) : (l.all fun x => decide (p ≤ x)) = decide (p ≤ m) := by
  by_cases h : p ≤ m
  · rw [decide_eq_true h, List.all_eq_true]
    intro y hy
    have := hle y hy
    exact decide_eq_true (by omega)
  · rw [decide_eq_false h, List.all_eq_false]
    exact ⟨m, hm, by simpa using h⟩
theorem top_ge : ∀ (l : List Nat) (a : Nat), a ≤ l.foldl max a ∧ ∀ x ∈ l, x ≤ l.foldl max a
  | [], a => ⟨Nat.le_refl _, fun x h => by cases h⟩
  | b :: l, a => by
    obtain ⟨h1, h2⟩ := top_ge l (max a b)
    rw [List.foldl_cons]
    refine ⟨by omega, fun x hx => ?_⟩
    rcases List.mem_cons.mp hx with e | hx
    · omega
    · exact h2 x hx
theorem top_le {m : Nat} : ∀ (l : List Nat) (a : Nat), a ≤ m → (∀ x ∈ l, x ≤ m) → l.foldl max a ≤ m
  | [], a, h, _ => h
  | b :: l, a, h, hl => by
    rw [List.foldl_cons]
    exact top_le l (max a b) (by have := hl b (List.mem_cons_self ..); omega) fun x hx => hl x (List.mem_cons_of_mem _ hx)
theorem top_is {l : List Nat} {m : Nat} (hm : m ∈ l) (hle : ∀ y ∈ l, y ≤ m) : Kza4.top l = m := by
  have h1 := (top_ge l 0).2 m hm
  have h2 := top_le l 0 (Nat.zero_le m) hle
  have e : Kza4.top l = l.foldl max 0 := rfl
  omega
theorem runs_by {lo hi p m : Int} {l : List Int} {ls : List Nat} (hw : Kza4.okWeb (l.map Int.toNat) = true) (hc : Kza4.okCut lo.toNat hi.toNat p.toNat 0 1 = true)
    (hls : ls = (long p.toNat (blocks lo.toNat hi.toNat 0 0 (l.map Int.toNat))).map Prod.snd) (hm : m = ((Kza4.top ls : Nat) : Int)) : PyKza4.runs lo hi p l = [(ls.length : Int), m, ((ls.sum : Nat) : Int)] := by
  refine runs_told hw hc ⟨?_, ?_, ?_⟩
  · rw [hls, List.length_map]
  · rw [hm, hls]
  · rw [hls]
end My
namespace By
open PySem PySem.Spec PyProof.Rows L2
open PySem.W (Codec)
/-! max of a list of whole numbers, or what default= says -/
open PySem.W in
/-- the value at a place of a list of whole numbers -/
theorem int_there : ∀ {us : List Value} {ns : List Int}, IntsAre us ns → ∀ {k : Nat} {u : Value}, us[k]? = some u → ∃ sign, u = .int (ns.getD k 0) sign
  | _, _, .nil, _, _, q => by cases q
  | _, _, .cons _ sign _, 0, _, q => ⟨sign, (Option.some.inj q).symm⟩
  | _, _, .cons _ _ more, k + 1, _, q => int_there more (k := k) q
theorem getD_in : ∀ {ns : List Int} {k : Nat}, k < ns.length → ns.getD k 0 ∈ ns
  | [], _, h => absurd h (Nat.not_lt_zero _)
  | _ :: _, 0, _ => List.mem_cons_self ..
  | _ :: _, k + 1, h => List.mem_cons_of_mem _ (getD_in (k := k) (Nat.lt_of_succ_lt_succ h))
theorem in_getD {y : Int} : ∀ {ns : List Int}, y ∈ ns → ∃ k, k < ns.length ∧ ns.getD k 0 = y
  | z :: ns, h => by
    rcases List.mem_cons.mp h with h | h
    · exact ⟨0, Nat.succ_pos _, h.symm⟩
    · obtain ⟨k, lt, q⟩ := in_getD h
      exact ⟨k + 1, Nat.succ_lt_succ lt, q⟩
/-- max(.., default=d) of whole numbers: d where there are none, else one of them, none of them above it -/
def rMaxDef (K : PySem.W.Frag) : List V → List V → Hp → VK → Prop := fun vs zs H Q => ∃ (a : Addr) (ns : List Int) (d : V), vs = [V.ref a] ∧ zs = [d] ∧ SqL K H a (ns.map V.int) ∧ (ns = [] → Q d H) ∧ ∀ m, m ∈ ns → (∀ y, y ∈ ns → y ≤ m) → Q (.int m) H
open PySem.W in
theorem cr_maxDef {X : Cx} (calm : X.calm = true) : CallRK X (.builtin "max") ["default"] (rMaxDef X.K) := by
  rintro pins st σ H _ _ us ws Q I rel rel2 ⟨a, ns, d, rfl, rfl, there, nothing, some_⟩
  obtain ⟨us', all, lst, _⟩ := I.list there
  have whole : IntsAre us' ns := all.ints
  have len : us'.toArray.size = ns.length := whole.length
  obtain ⟨u, rfl⟩ : ∃ u, ws = [u] := by
    cases rel2 with
    | cons _ none_ =>
      cases none_
      exact ⟨_, rfl⟩
  have relU : RelV d u := by
    cases rel2
    assumption
  rw [Vals.ref1 rel]
  refine call_max_walkD ?_
  refine iter_listW (I.ok.hd calm) lst.isList ?_
  intro st2 new walks start below old keeps
  refine ⟨_, _, _, _, _, _, _, st.heap, fun i j => decide (ns.getD i 0 > ns.getD j 0), rfl, walks, start, below, old, keeps, ?_, ?_⟩
  · intro zero st3 moved
    obtain ⟨hp, tk, rfl, stays⟩ := moved_old new rfl moved
    exact ⟨d, H, I.kept stays, relU, nothing (List.length_eq_zero_iff.mp (len.symm.trans zero))⟩
  · intro more
    have val : ∀ (i : Nat) (v : Value), us'.toArray[i]? = some v → ∃ t, v = .int (ns.getD i 0) t := fun i v q => int_there whole (by rw [List.getElem?_toArray] at q; exact q)
    refine ⟨fun i j vi vj s2 Q2 E2 _ pi pj last => CmpOf.ints_gt (fun i => ns.getD i 0) val i j vi vj s2 Q2 E2 pi pj last, ?_⟩
    intro v st3 best moved
    obtain ⟨hp, tk, rfl, stays⟩ := moved_old new rfl moved
    obtain ⟨sign, rfl⟩ := val _ v best
    have top := argBest_gt (fun i => ns.getD i 0) (us'.toArray.size - 1)
    refine ⟨.int _, H, I.kept stays, ⟨sign, rfl⟩, some_ _ (getD_in (by omega)) ?_⟩
    intro y hy
    obtain ⟨k, lt, rfl⟩ := in_getD hy
    exact top.2 k (by omega)
theorem web_max {ns : List Int} {m : Int} (hl : 1 ≤ (ns.length : Int) ∧ (ns.length : Int) ≤ 40) (hm : m ∈ ns) (hle : ∀ y, y ∈ ns → y ≤ m) : Kza4.okWeb (ns.map Int.toNat) = decide (m ≤ 1000) := by
  by_cases c : m ≤ 1000
  · rw [decide_eq_true c]
    exact My.web_ok hl (fun x hx => Int.le_trans (hle x hx) c)
  · rw [decide_eq_false c]
    exact My.no_web_item hm c
theorem limits_by {lo hi : Int} (h0 : 0 ≤ lo) (h1 : 0 ≤ hi) : Kza4.okLimits lo.toNat hi.toNat = decide (lo ≤ hi ∧ hi ≤ 1000) := by
  rw [Bool.eq_iff_iff, My.okLimits_iff, decide_eq_true_eq]
  omega
theorem cut_nx {t u : TS} {D : Ends} {σ : L2.St} {H : Hp} (h : ∀ kont : L2.St → Hp → Prop, kont = u D → t { D with nx := kont } σ H) : tSeq t u D σ H := h _ rfl
theorem take_snoc {α : Type} {l : List α} {i : Nat} {x : α} (h : l[i]? = some x) : l.take (i + 1) = l.take i ++ [x] := by
  rw [List.take_add_one, h]
  rfl
theorem drop_at {ns : List Int} {i : Nat} {z : Int} (h : ns[i]? = some z) : (ns.map Int.toNat).drop i = z.toNat :: (ns.map Int.toNat).drop (i + 1) := by
  have hlt : i < (ns.map Int.toNat).length := by
    rw [List.length_map]
    exact (List.getElem?_eq_some_iff.mp h).1
  rw [List.drop_eq_getElem_cons hlt]
  congr 1
  rw [List.getElem_map]
  obtain ⟨q, e⟩ := List.getElem?_eq_some_iff.mp h
  rw [e]
theorem drop_is {l : List Nat} {i x : Nat} (h : l[i]? = some x) : l.drop i = x :: l.drop (i + 1) := by
  obtain ⟨q, e⟩ := List.getElem?_eq_some_iff.mp h
  rw [List.drop_eq_getElem_cons q, e]
theorem map_at {ns : List Int} {i : Nat} {y : V} (h : (ns.map V.int)[i]? = some y) : ∃ z, ns[i]? = some z ∧ y = V.int z := by
  rw [List.getElem?_map] at h
  cases e : ns[i]? with
  | none =>
    rw [e] at h
    cases h
  | some z =>
    rw [e] at h
    exact ⟨z, rfl, (Option.some.inj h).symm⟩
theorem refs_at {as : List Addr} {i : Nat} {y : V} (h : (as.map V.ref)[i]? = some y) : ∃ t, as[i]? = some t ∧ y = V.ref t := by
  rw [List.getElem?_map] at h
  cases e : as[i]? with
  | none =>
    rw [e] at h
    cases h
  | some t =>
    rw [e] at h
    exact ⟨t, rfl, (Option.some.inj h).symm⟩
/-! numbers as values -/
def numsV (l : List Nat) : List V := l.map fun (x : Nat) => V.int (x : Int)
theorem numsV_append (l k : List Nat) : numsV (l ++ k) = numsV l ++ numsV k := List.map_append
theorem numsV_length (l : List Nat) : (numsV l).length = l.length := List.length_map _
theorem numsV_at {l : List Nat} {i x : Nat} (h : l[i]? = some x) : (numsV l)[i]? = some (V.int (x : Int)) := by
  unfold numsV
  rw [List.getElem?_map, h]
  rfl
theorem nums_at {l : List Nat} {i : Nat} {y : V} (h : (numsV l)[i]? = some y) : ∃ z, l[i]? = some z ∧ y = V.int (z : Int) := by
  unfold numsV at h
  rw [List.getElem?_map] at h
  cases e : l[i]? with
  | none =>
    rw [e] at h
    cases h
  | some z =>
    rw [e] at h
    exact ⟨z, rfl, (Option.some.inj h).symm⟩
def nI (l : List Nat) : List Int := l.map fun (x : Nat) => (x : Int)
theorem nI_V (l : List Nat) : (nI l).map V.int = numsV l := by
  unfold nI numsV
  rw [List.map_map]
  rfl
theorem nI_sum : ∀ (l : List Nat), (nI l).sum = ((l.sum : Nat) : Int)
  | [] => rfl
  | x :: l => by
    have ih := nI_sum l
    unfold nI at ih ⊢
    rw [List.map_cons, List.sum_cons, List.sum_cons, ih]
    omega
theorem nI_mem {l : List Nat} {m : Int} (h : m ∈ nI l) : ∃ x, x ∈ l ∧ m = (x : Int) := by
  obtain ⟨x, hx, e⟩ := List.mem_map.mp h
  exact ⟨x, hx, e.symm⟩
theorem mem_nI {l : List Nat} {x : Nat} (h : x ∈ l) : (x : Int) ∈ nI l := List.mem_map.mpr ⟨x, h, rfl⟩
/-! stores -/
theorem same_new {H : Hp} {T : Addr} {o : HO} (h : H T = none) : Same H (upd H T o) := fun b u e => by
  rw [upd_ne (ne_of_none e h)]
  exact e
/-- a store at p, which H did not know -/
theorem same_put {H H' : Hp} {p : Addr} {o : HO} (h : H p = none) (k : Same H H') : Same H (upd H' p o) := fun b u e => by
  rw [upd_ne (ne_of_none e h)]
  exact k b u e
theorem none_ahead {H H' : Hp} {p : Addr} (k : Same H H') (h : H' p = none) : H p = none := by
  cases e : H p with
  | none => rfl
  | some u =>
    have := k p u e
    rw [h] at this
    cases this
/-- a list at p of lists of numbers -/
structure ListsAt (H : Hp) (p : Addr) (as : List Addr) (gs : List (List Nat)) : Prop where
  lst : H p = some (.lst (as.map V.ref))
  len : as.length = gs.length
  at_ : ∀ (i : Nat) (a : Addr) (g : List Nat), as[i]? = some a → gs[i]? = some g → H a = some (.lst (numsV g))
theorem ListsAt.keep {H H' : Hp} {p : Addr} {as : List Addr} {gs : List (List Nat)} (P : ListsAt H p as gs) (k : Same H H') : ListsAt H' p as gs :=
  ⟨k _ _ P.lst, P.len, fun i a b h1 h2 => k _ _ (P.at_ i a b h1 h2)⟩
/-- each of its addresses stands -/
theorem ListsAt.some {H : Hp} {p : Addr} {as : List Addr} {gs : List (List Nat)} (P : ListsAt H p as gs) {x : Addr} (h : x ∈ as) : ∃ g, H x = .some (.lst (numsV g)) := by
  obtain ⟨i, hi, e⟩ := List.mem_iff_getElem.mp h
  have h1 : as[i]? = .some x := by rw [List.getElem?_eq_getElem hi, e]
  have h2 : gs[i]? = .some (gs[i]'(by rw [← P.len]; exact hi)) := List.getElem?_eq_getElem _
  exact ⟨_, P.at_ i x _ h1 h2⟩
/-- a store at an address that it does not reach -/
theorem ListsAt.off {H : Hp} {p q : Addr} {as : List Addr} {gs : List (List Nat)} {o : HO} (P : ListsAt H p as gs) (hp : p ≠ q) (ha : ∀ x ∈ as, x ≠ q) : ListsAt (upd H q o) p as gs :=
  ⟨by rw [upd_ne hp]; exact P.lst, P.len, fun i a g h1 h2 => by rw [upd_ne (ha a (List.mem_of_getElem? h1))]; exact P.at_ i a g h1 h2⟩
theorem ListsAt.push {H : Hp} {p T : Addr} {as : List Addr} {gs : List (List Nat)} {g : List Nat} (P : ListsAt H p as gs) (hT : H T = .some (.lst (numsV g))) (hp : T ≠ p) (ha : ∀ x ∈ as, x ≠ p) :
    ListsAt (upd H p (.lst (as.map V.ref ++ [.ref T]))) p (as ++ [T]) (gs ++ [g]) := by
  refine ⟨by rw [upd_same, List.map_append]; rfl, by rw [List.length_append, List.length_append, P.len]; rfl, fun i a c h1 h2 => ?_⟩
  by_cases hi : i < as.length
  · rw [List.getElem?_append_left hi] at h1
    rw [List.getElem?_append_left (by rw [← P.len]; exact hi)] at h2
    rw [upd_ne (ha a (List.mem_of_getElem? h1))]
    exact P.at_ i a c h1 h2
  · rw [List.getElem?_append_right (by omega)] at h1
    rw [List.getElem?_append_right (by rw [← P.len]; omega), ← P.len] at h2
    match h : i - as.length, h1, h2 with
    | 0, h1, h2 =>
      have e1 : T = a := Option.some.inj h1
      have e2 : g = c := Option.some.inj h2
      subst e1 e2
      rw [upd_ne hp]
      exact hT
    | k + 1, h1, h2 =>
      simp at h1
/-- its last list is made longer -/
theorem ListsAt.grow {H : Hp} {p b : Addr} {as : List Addr} {gs : List (List Nat)} {g k : List Nat} (P : ListsAt H p (as ++ [b]) (gs ++ [g])) (hd : (as ++ [b]).Nodup) (hp : p ≠ b) :
    ListsAt (upd H b (.lst (numsV k))) p (as ++ [b]) (gs ++ [k]) := by
  have hl : as.length = gs.length := by
    have := P.len
    rw [List.length_append, List.length_append] at this
    exact Nat.add_right_cancel this
  refine ⟨by rw [upd_ne hp]; exact P.lst, by rw [List.length_append, List.length_append, hl]; rfl, fun i a c h1 h2 => ?_⟩
  by_cases hi : i < as.length
  · have h1' := h1
    rw [List.getElem?_append_left hi] at h1'
    rw [List.getElem?_append_left (by rw [← hl]; exact hi)] at h2
    have n : a ≠ b := fun z => by
      rw [List.nodup_append] at hd
      exact hd.2.2 a (List.mem_of_getElem? h1') b (List.mem_singleton.mpr rfl) z
    rw [upd_ne n]
    refine P.at_ i a c h1 ?_
    rw [List.getElem?_append_left (by rw [← hl]; exact hi)]
    exact h2
  · rw [List.getElem?_append_right (by omega)] at h1
    rw [List.getElem?_append_right (by rw [← hl]; omega), ← hl] at h2
    match h : i - as.length, h1, h2 with
    | 0, h1, h2 =>
      have e1 : b = a := Option.some.inj h1
      have e2 : k = c := Option.some.inj h2
      subst e1 e2
      rw [upd_same]
    | m + 1, h1, h2 =>
      simp at h1
def top (i : Nat) : Stmt := PySem.Challenge.pw_paperweb_s04_rolls.main.body.getD i (.Pass ⟨0, 0, 0, 0⟩)
abbrev s_is_web : Stmt := top 7
abbrev s_are_limits : Stmt := top 8
abbrev s_is_least_length : Stmt := top 9
abbrev s_are_roll_numbers : Stmt := top 10
abbrev s_is_good : Stmt := top 11
abbrev s_split_at_gaps : Stmt := top 12
abbrev s_find_long_runs : Stmt := top 13
abbrev s_find_usable : Stmt := top 14
abbrev s_may_be_cut : Stmt := top 15
abbrev s_rolls : Stmt := top 16
structure Txt (K : PySem.W.Frag) (mg : Str → Option Value) : Prop where
  MOST_SECTIONS : ∃ t, mg "MOST_SECTIONS" = some (.int (40) t)
  MOST_MEASURED : ∃ t, mg "MOST_MEASURED" = some (.int (1000) t)
  MOST_LEAST_LENGTH : ∃ t, mg "MOST_LEAST_LENGTH" = some (.int (20) t)
  MOST_JOINS : ∃ t, mg "MOST_JOINS" = some (.int (5) t)
  MOST_TOGETHER : ∃ t, mg "MOST_TOGETHER" = some (.int (40) t)
  REFUSED : ∃ t, mg "REFUSED" = some (.int (-22) t)
  enumerate : mg "enumerate" = none
  len : mg "len" = none
  max : mg "max" = none
  min : mg "min" = none
structure Own (P : Program) (w : World) (K : PySem.W.Frag) (mg : Str → Option Value) (base : Heap) (k : Nat) (x : Str) (ps : List Str) (sp : Sp) : Prop where
  ex : ∃ (f : Addr) (fd : FuncData), FnOk P w K mg base CX0 k f fd ps sp ∧ mg x = some (.ref f) ∧ PySem.W.keepIn K (.ref f) = true ∧ Binds K fd ps []
def sp_is_web (K : PySem.W.Frag) : Sp := fun vs H Q _ => ∃ (a : Addr) (ns : List Int), vs = [.ref a] ∧ SqL K H a (ns.map V.int) ∧ Q (.bl (Kza4.okWeb (ns.map Int.toNat))) H
def sp_are_limits (K : PySem.W.Frag) : Sp := fun vs H Q _ => ∃ (lo hi : Int), vs = [.int lo, .int hi] ∧ 0 ≤ lo ∧ 0 ≤ hi ∧ Q (.bl (Kza4.okLimits lo.toNat hi.toNat)) H
def sp_is_least_length (K : PySem.W.Frag) : Sp := fun vs H Q _ => ∃ (p : Int), vs = [.int p] ∧ Q (.bl (decide (1 ≤ p ∧ p ≤ 20))) H
def sp_are_roll_numbers (K : PySem.W.Frag) : Sp := fun vs H Q _ => ∃ (j n : Int), vs = [.int j, .int n] ∧ Q (.bl (decide (j ≤ 5 ∧ 1 ≤ n ∧ n ≤ 40))) H
def sp_is_good (K : PySem.W.Frag) : Sp := fun vs H Q _ => ∃ (lo hi m : Int), vs = [.int lo, .int hi, .int m] ∧ Q (.bl (decide (lo ≤ m ∧ m ≤ hi))) H
/-- the parts behind i turns -/
def Mid (rs : List Nat) (i : Nat) (gs : List (List Nat)) : Prop := (i = 0 ∧ gs = []) ∨ ∃ (done : List (List Nat)) (init : List Nat) (y : Nat), gs = done ++ [init ++ [y]] ∧ My.parts rs = done ++ My.partsFrom (init ++ [y]) y (rs.drop i) ∧ (init ++ [y]).length ≤ i
/-- the loop of split_at_gaps -/
def SG (a p : Addr) (rs : List Nat) (H : Hp) (i : Nat) (σ : L2.St) (H' : Hp) : Prop := ∃ (as : List Addr) (gs : List (List Nat)) (v2 : Option V), σ = [some (V.ref a), some (V.ref p), v2] ∧ Same H H' ∧ ListsAt H' p as gs ∧ as.Nodup ∧ (∀ x ∈ as, H x = none ∧ x ≠ p) ∧ Mid rs i gs ∧ gs.length ≤ i
def sp_split_at_gaps (K : PySem.W.Frag) : Sp := fun vs H Q _ => ∃ (a : Addr) (rs : List Nat), vs = [.ref a] ∧ SqL K H a (numsV rs) ∧ rs.length ≤ 44 ∧
  ∀ (p : Addr) (as : List Addr) (H' : Hp), H p = none → (∀ x ∈ as, H x = none) → Same H H' → ListsAt H' p as (My.parts rs) → Q (.ref p) H'
/-- the comprehension of the good places -/
def GP (lo hi : Int) (ns : List Int) (D : Addr) (H : Hp) (i : Nat) (H' : Hp) : Prop := ∃ (acc : List Nat), Same H H' ∧ H' D = some (.lst (numsV acc)) ∧ acc.length ≤ i ∧
  My.goodsFrom lo.toNat hi.toNat 0 (ns.map Int.toNat) = acc ++ My.goodsFrom lo.toNat hi.toNat i ((ns.map Int.toNat).drop i)
/-- the comprehension of the long runs -/
def LR (p : Int) (as : List Addr) (gs : List (List Nat)) (D : Addr) (H : Hp) (i : Nat) (H' : Hp) : Prop := ∃ (bs : List Addr), Same H H' ∧ ListsAt H' D bs (My.longParts p.toNat (gs.take i)) ∧ (∀ x ∈ bs, x ∈ as) ∧ bs.length ≤ i
def sp_find_long_runs (K : PySem.W.Frag) : Sp := fun vs H Q _ => ∃ (lo hi p : Int) (a : Addr) (ns : List Int), vs = [.int lo, .int hi, .int p, .ref a] ∧ SqL K H a (ns.map V.int) ∧ ns.length ≤ 44 ∧ 0 ≤ lo ∧ 0 ≤ hi ∧ 0 ≤ p ∧ (∀ x ∈ ns, 0 ≤ x) ∧
  ∀ (q : Addr) (as : List Addr) (H' : Hp), H q = none → (∀ x ∈ as, H x = none) → Same H H' → ListsAt H' q as ((My.long p.toNat (My.blocks lo.toNat hi.toNat 0 0 (ns.map Int.toNat))).map My.rng) → Q (.ref q) H'
/-- the loop of find_usable -/
def FU (lo hi p : Int) (a r l : Addr) (as : List Addr) (gs : List (List Nat)) (H : Hp) (i : Nat) (σ : L2.St) (H' : Hp) : Prop := ∃ (v5 : Option V), σ = [some (V.int lo), some (V.int hi), some (V.int p), some (V.ref a), some (V.ref r), v5] ∧ Same H H' ∧ ListsAt H' l as gs ∧ H' r = some (.lst (numsV (gs.take i).flatten))
def sp_find_usable (K : PySem.W.Frag) : Sp := fun vs H Q _ => ∃ (lo hi p : Int) (a : Addr) (ns : List Int), vs = [.int lo, .int hi, .int p, .ref a] ∧ SqL K H a (ns.map V.int) ∧ ns.length ≤ 44 ∧ 0 ≤ lo ∧ 0 ≤ hi ∧ 0 ≤ p ∧ (∀ x ∈ ns, 0 ≤ x) ∧
  ∀ (q : Addr) (H' : Hp), Same H H' → H' q = some (.lst (numsV (My.tell p.toNat (My.blocks lo.toNat hi.toNat 0 0 (ns.map Int.toNat))))) → Q (.ref q) H'
/-- the comprehension of the lengths -/
def RN (gs : List (List Nat)) (D : Addr) (H : Hp) (i : Nat) (H' : Hp) : Prop := Same H H' ∧ H' D = some (.lst (numsV ((gs.take i).map List.length)))
def sp_may_be_cut (K : PySem.W.Frag) : Sp := fun vs H Q _ => ∃ (p j : Int) (a : Addr) (rs : List Nat), vs = [.int p, .int j, .ref a] ∧ SqL K H a (numsV rs) ∧ 1 ≤ rs.length ∧ rs.length ≤ 44 ∧ 0 ≤ p ∧ 0 ≤ j ∧ ∀ H', Same H H' → Q (.bl (Kza4.isRoll p.toNat j.toNat rs.length rs)) H'
theorem cut_at {U : List Nat} {t : Nat} {n : Int} (hn : 0 ≤ n) (h : (t : Int) + n ≤ (U.length : Int)) : cutV (numsV U) (some (t : Int)) (some ((t : Int) + n)) = numsV ((U.drop t).take n.toNat) := by
  have e : (t : Int) + n = ((t + n.toNat : Nat) : Int) := by omega
  rw [e]
  unfold cutV
  rw [HT.sIx_nat, HT.sIx_nat, numsV_length, Nat.min_eq_left (by omega), Nat.min_eq_left (by omega)]
  unfold numsV
  rw [← List.map_drop, ← List.map_take]
  congr 2
  omega
theorem ints_numsV (l : List Nat) : (Kza4Neutral.ints l).map V.int = numsV l := by
  unfold Kza4Neutral.ints numsV
  rw [List.map_map]
  rfl
/-- a while by an invariant and a measure; the test changes nothing -/
theorem while_of {c : TT} {tb : TS} {D : Ends} {σ : L2.St} {H : Hp} (Pv : L2.St → Hp → Prop) (m : L2.St → Hp → Nat) (h0 : Pv σ H)
    (hs : ∀ σ H, Pv σ H → ∃ b : Bool, (∀ Q : Bool → Hp → Prop, Q b H → c σ H Q) ∧ (if b = true then tb { D with nx := fun σ' H' => Pv σ' H' ∧ m σ' H' < m σ H, ct := fun σ' H' => Pv σ' H' ∧ m σ' H' < m σ H, bk := D.nx } σ H else D.nx σ H)) : tWhile c tb D σ H := by
  refine ⟨fun k σ H => k = m σ H ∧ Pv σ H, ⟨_, rfl, h0⟩, ?_⟩
  rintro k σ H ⟨rfl, p⟩
  obtain ⟨b, hc, q⟩ := hs σ H p
  refine hc _ ?_
  cases b with
  | false => exact q
  | true => exact ⟨_, fun s1 H1 z => ⟨_, z.2, rfl, z.1⟩, q⟩
/-- the loop of rolls -/
def WL (lo hi p j n : Int) (a u r : Addr) (U : List Nat) (σ : L2.St) (H' : Hp) : Prop := ∃ (t : Nat) (bs : List Nat) (v9 : Option V), σ = [some (V.int lo), some (V.int hi), some (V.int p), some (V.int j), some (V.int n), some (V.ref a), some (V.ref u), some (V.ref r), some (V.int (t : Int)), v9] ∧
  H' u = some (.lst (numsV U)) ∧ H' r = some (.lst (numsV bs)) ∧ My.front p.toNat j.toNat n.toNat 0 U = bs ++ My.front p.toNat j.toNat n.toNat 0 (U.drop t) ∧ bs.length ≤ t ∧ t ≤ U.length
def left (σ : L2.St) (H : Hp) : Nat := match σ[8]? with
  | some (some (V.int t)) => (100 - t).toNat
  | _ => 0
def sp_rolls (K : PySem.W.Frag) : Sp := fun vs H Q _ => ∃ (lo hi p j n : Int) (a : Addr) (ns : List Int), vs = [.int lo, .int hi, .int p, .int j, .int n, .ref a] ∧ SqL K H a (ns.map V.int) ∧ ns.length ≤ 44 ∧ 0 ≤ lo ∧ 0 ≤ hi ∧ 0 ≤ p ∧ 0 ≤ j ∧ 0 ≤ n ∧ (∀ x ∈ ns, 0 ≤ x) ∧
  ∀ (q : Addr) (H' : Hp), H' q = some (.lst ((PyKza4.rolls lo hi p j n ns).map V.int)) → Q (.ref q) H'
section
variable {P : Program} {w : World} {K : PySem.W.Frag} {mg : Str → Option Value} {base : Heap}
theorem sc_is_web : FnScope ["sections"] ["sections"] (defScope s_is_web) := ⟨rfl, rfl, rfl, by decide +kernel, rfl, by decide +kernel, by decide +kernel⟩
theorem ok_is_web {f : Addr} {fd : FuncData} (F : Fun K "is_web" "is_web" s_is_web f fd) (T : Txt K mg) : FnOk P w K mg base CX0 1 f fd ["sections"] (sp_is_web K) := by
  obtain ⟨t_MOST_MEASURED, c_MOST_MEASURED⟩ := T.MOST_MEASURED
  obtain ⟨t_MOST_SECTIONS, c_MOST_SECTIONS⟩ := T.MOST_SECTIONS
  refine F.ok sc_is_web (fun vs H Q E h => ?_) (fun cdv A outer s H vs Q E hr h => ?_)
  · obtain ⟨_, _, rfl, _⟩ := h
    rfl
  · refine ⟨_,
      (pss_cons (ps_if (pt_not (pt_chain op_le op_le pe_int (pe_callB call_len_seq (by rfl) T.len PySem.boot_len (pa_cons (pv 0) pa_nil)) (pe_glob (v := V.int (40)) rfl c_MOST_SECTIONS ⟨_, rfl⟩)))
        (pss_one (ps_ret pe_bl)) pss_nil)
      (pss_one (ps_ret (pe_cmpR op_le (pe_callB (cr_max rfl) (by rfl) T.max (by decide +kernel) (pa_cons (pv 0) pa_nil)) (pe_glob (v := V.int (1000)) rfl c_MOST_MEASURED ⟨_, rfl⟩) (nomark _))))), ?_⟩
    obtain ⟨a, ns, rfl, hS, q⟩ := h
    simp only [tSeq, tIfS, tNot, tAnd, tOr, tTest, tChain, tB, tCB, tCall, tCons, tNil, tVar, tC, rI0, rU, tUn, tRet, tRetN, tOp, tNext, tAsg, gName, tAug, ipI, tLst, tTup, tDrop, tNotV, tAndV, tOrV, tIf, rEq, rNe, tCont, tBreak, tBM, tBM0, gTup, gCons, gNil, wipe, tYes, tCKw, tSl, tPart, tNoPart, cxOf, Cx.nox, L2.start, List.map_cons, List.map_nil, List.length_cons, List.length_nil, List.cons_append, List.nil_append, List.append_nil, List.getElem?_cons_zero, List.getElem?_cons_succ, List.set_cons_zero, List.set_cons_succ, Nat.reduceAdd, Nat.reduceSub, Nat.sub_self, Nat.zero_add, List.replicate, Nat.sub_zero, Option.some.injEq, V.int.injEq, V.bl.injEq, V.ref.injEq, List.cons.injEq, and_true, true_and, exists_and_left, exists_and_right, and_assoc, exists_eq_left, exists_eq_left', exists_eq_right, exists_eq_right', exists_const, Bool.not_eq_true', decide_eq_true_eq, decide_eq_false_iff_not]
    refine ⟨ns.map V.int, .inl hS, ?_⟩
    rw [List.length_map]
    by_cases c1 : 1 ≤ (ns.length : Int)
    · rw [if_pos c1]
      by_cases c2 : (ns.length : Int) ≤ 40
      · rw [if_neg (fun h => h c2)]
        refine ⟨a, ns, rfl, hS, by omega, fun m hm hle => ⟨m, rfl, ?_⟩⟩
        rw [← web_max ⟨c1, c2⟩ hm hle]
        exact q
      · rw [if_pos c2]
        rw [My.no_web_len (fun h => c2 h.2)] at q
        exact q
    · rw [if_neg c1, if_pos trivial]
      rw [My.no_web_len (fun h => c1 h.1)] at q
      exact q
theorem sc_are_limits : FnScope ["lo", "hi"] ["lo", "hi"] (defScope s_are_limits) := ⟨rfl, rfl, rfl, by decide +kernel, rfl, by decide +kernel, by decide +kernel⟩
theorem ok_are_limits {f : Addr} {fd : FuncData} (F : Fun K "are_limits" "are_limits" s_are_limits f fd) (T : Txt K mg) : FnOk P w K mg base CX0 1 f fd ["lo", "hi"] (sp_are_limits K) := by
  obtain ⟨t_MOST_MEASURED, c_MOST_MEASURED⟩ := T.MOST_MEASURED
  refine F.ok sc_are_limits (fun vs H Q E h => ?_) (fun cdv A outer s H vs Q E hr h => ?_)
  · obtain ⟨_, _, rfl, _⟩ := h
    rfl
  · refine ⟨_,
      (pss_one (ps_ret (pe_chain op_le op_le (pv 0) (pv 1) (pe_glob (v := V.int (1000)) rfl c_MOST_MEASURED ⟨_, rfl⟩)))), ?_⟩
    obtain ⟨lo, hi, rfl, h0, h1, q⟩ := h
    simp only [tSeq, tIfS, tNot, tAnd, tOr, tTest, tChain, tB, tCB, tCall, tCons, tNil, tVar, tC, rI0, rU, tUn, tRet, tRetN, tOp, tNext, tAsg, gName, tAug, ipI, tLst, tTup, tDrop, tNotV, tAndV, tOrV, tIf, rEq, rNe, tCont, tBreak, tBM, tBM0, gTup, gCons, gNil, wipe, tYes, tCKw, tSl, tPart, tNoPart, cxOf, Cx.nox, L2.start, List.map_cons, List.map_nil, List.length_cons, List.length_nil, List.cons_append, List.nil_append, List.append_nil, List.getElem?_cons_zero, List.getElem?_cons_succ, List.set_cons_zero, List.set_cons_succ, Nat.reduceAdd, Nat.reduceSub, Nat.sub_self, Nat.zero_add, List.replicate, Nat.sub_zero, Option.some.injEq, V.int.injEq, V.bl.injEq, V.ref.injEq, List.cons.injEq, and_true, true_and, exists_and_left, exists_and_right, and_assoc, exists_eq_left, exists_eq_left', exists_eq_right, exists_eq_right', exists_const, Bool.not_eq_true', decide_eq_true_eq, decide_eq_false_iff_not]
    rw [limits_by h0 h1] at q
    by_cases c : lo ≤ hi
    · rw [if_pos c]
      simpa only [c, true_and] using q
    · rw [if_neg c]
      simpa only [c, false_and, decide_false] using q
theorem sc_is_least_length : FnScope ["p"] ["p"] (defScope s_is_least_length) := ⟨rfl, rfl, rfl, by decide +kernel, rfl, by decide +kernel, by decide +kernel⟩
theorem ok_is_least_length {f : Addr} {fd : FuncData} (F : Fun K "is_least_length" "is_least_length" s_is_least_length f fd) (T : Txt K mg) : FnOk P w K mg base CX0 1 f fd ["p"] (sp_is_least_length K) := by
  obtain ⟨t_MOST_LEAST_LENGTH, c_MOST_LEAST_LENGTH⟩ := T.MOST_LEAST_LENGTH
  refine F.ok sc_is_least_length (fun vs H Q E h => ?_) (fun cdv A outer s H vs Q E hr h => ?_)
  · obtain ⟨_, rfl, _⟩ := h
    rfl
  · refine ⟨_,
      (pss_one (ps_ret (pe_chain op_le op_le pe_int (pv 0) (pe_glob (v := V.int (20)) rfl c_MOST_LEAST_LENGTH ⟨_, rfl⟩)))), ?_⟩
    obtain ⟨p, rfl, q⟩ := h
    simp only [tSeq, tIfS, tNot, tAnd, tOr, tTest, tChain, tB, tCB, tCall, tCons, tNil, tVar, tC, rI0, rU, tUn, tRet, tRetN, tOp, tNext, tAsg, gName, tAug, ipI, tLst, tTup, tDrop, tNotV, tAndV, tOrV, tIf, rEq, rNe, tCont, tBreak, tBM, tBM0, gTup, gCons, gNil, wipe, tYes, tCKw, tSl, tPart, tNoPart, cxOf, Cx.nox, L2.start, List.map_cons, List.map_nil, List.length_cons, List.length_nil, List.cons_append, List.nil_append, List.append_nil, List.getElem?_cons_zero, List.getElem?_cons_succ, List.set_cons_zero, List.set_cons_succ, Nat.reduceAdd, Nat.reduceSub, Nat.sub_self, Nat.zero_add, List.replicate, Nat.sub_zero, Option.some.injEq, V.int.injEq, V.bl.injEq, V.ref.injEq, List.cons.injEq, and_true, true_and, exists_and_left, exists_and_right, and_assoc, exists_eq_left, exists_eq_left', exists_eq_right, exists_eq_right', exists_const, Bool.not_eq_true', decide_eq_true_eq, decide_eq_false_iff_not]
    by_cases c : 1 ≤ p
    · rw [if_pos c]
      simpa only [c, true_and] using q
    · rw [if_neg c]
      simpa only [c, false_and, decide_false] using q
theorem sc_are_roll_numbers : FnScope ["j", "n"] ["j", "n"] (defScope s_are_roll_numbers) := ⟨rfl, rfl, rfl, by decide +kernel, rfl, by decide +kernel, by decide +kernel⟩
theorem ok_are_roll_numbers {f : Addr} {fd : FuncData} (F : Fun K "are_roll_numbers" "are_roll_numbers" s_are_roll_numbers f fd) (T : Txt K mg) : FnOk P w K mg base CX0 1 f fd ["j", "n"] (sp_are_roll_numbers K) := by
  obtain ⟨t_MOST_JOINS, c_MOST_JOINS⟩ := T.MOST_JOINS
  obtain ⟨t_MOST_TOGETHER, c_MOST_TOGETHER⟩ := T.MOST_TOGETHER
  refine F.ok sc_are_roll_numbers (fun vs H Q E h => ?_) (fun cdv A outer s H vs Q E hr h => ?_)
  · obtain ⟨_, _, rfl, _⟩ := h
    rfl
  · refine ⟨_,
      (pss_one (ps_ret (pe_and (pe_cmpR op_le (pv 0) (pe_glob (v := V.int (5)) rfl c_MOST_JOINS ⟨_, rfl⟩) (nomark _)) (pe_one (pe_chain op_le op_le pe_int (pv 1) (pe_glob (v := V.int (40)) rfl c_MOST_TOGETHER ⟨_, rfl⟩)))))), ?_⟩
    obtain ⟨j, n, rfl, q⟩ := h
    simp only [tSeq, tIfS, tNot, tAnd, tOr, tTest, tChain, tB, tCB, tCall, tCons, tNil, tVar, tC, rI0, rU, tUn, tRet, tRetN, tOp, tNext, tAsg, gName, tAug, ipI, tLst, tTup, tDrop, tNotV, tAndV, tOrV, tIf, rEq, rNe, tCont, tBreak, tBM, tBM0, gTup, gCons, gNil, wipe, tYes, tCKw, tSl, tPart, tNoPart, cxOf, Cx.nox, L2.start, List.map_cons, List.map_nil, List.length_cons, List.length_nil, List.cons_append, List.nil_append, List.append_nil, List.getElem?_cons_zero, List.getElem?_cons_succ, List.set_cons_zero, List.set_cons_succ, Nat.reduceAdd, Nat.reduceSub, Nat.sub_self, Nat.zero_add, List.replicate, Nat.sub_zero, Option.some.injEq, V.int.injEq, V.bl.injEq, V.ref.injEq, List.cons.injEq, and_true, true_and, exists_and_left, exists_and_right, and_assoc, exists_eq_left, exists_eq_left', exists_eq_right, exists_eq_right', exists_const, Bool.not_eq_true', decide_eq_true_eq, decide_eq_false_iff_not]
    by_cases c : j ≤ 5
    · rw [if_pos c]
      by_cases c2 : 1 ≤ n
      · rw [if_pos c2]
        simpa only [c, c2, true_and] using q
      · rw [if_neg c2]
        simpa only [c, c2, true_and, false_and, decide_false] using q
    · rw [if_neg c]
      simpa only [c, false_and, decide_false] using q
theorem sc_is_good : FnScope ["lo", "hi", "measured"] ["lo", "hi", "measured"] (defScope s_is_good) := ⟨rfl, rfl, rfl, by decide +kernel, rfl, by decide +kernel, by decide +kernel⟩
theorem ok_is_good {f : Addr} {fd : FuncData} (F : Fun K "is_good" "is_good" s_is_good f fd) (T : Txt K mg) : FnOk P w K mg base CX0 1 f fd ["lo", "hi", "measured"] (sp_is_good K) := by
  refine F.ok sc_is_good (fun vs H Q E h => ?_) (fun cdv A outer s H vs Q E hr h => ?_)
  · obtain ⟨_, _, _, rfl, _⟩ := h
    rfl
  · refine ⟨_,
      (pss_one (ps_ret (pe_chain op_le op_le (pv 0) (pv 2) (pv 1)))), ?_⟩
    obtain ⟨lo, hi, m, rfl, q⟩ := h
    simp only [tSeq, tIfS, tNot, tAnd, tOr, tTest, tChain, tB, tCB, tCall, tCons, tNil, tVar, tC, rI0, rU, tUn, tRet, tRetN, tOp, tNext, tAsg, gName, tAug, ipI, tLst, tTup, tDrop, tNotV, tAndV, tOrV, tIf, rEq, rNe, tCont, tBreak, tBM, tBM0, gTup, gCons, gNil, wipe, tYes, tCKw, tSl, tPart, tNoPart, cxOf, Cx.nox, L2.start, List.map_cons, List.map_nil, List.length_cons, List.length_nil, List.cons_append, List.nil_append, List.append_nil, List.getElem?_cons_zero, List.getElem?_cons_succ, List.set_cons_zero, List.set_cons_succ, Nat.reduceAdd, Nat.reduceSub, Nat.sub_self, Nat.zero_add, List.replicate, Nat.sub_zero, Option.some.injEq, V.int.injEq, V.bl.injEq, V.ref.injEq, List.cons.injEq, and_true, true_and, exists_and_left, exists_and_right, and_assoc, exists_eq_left, exists_eq_left', exists_eq_right, exists_eq_right', exists_const, Bool.not_eq_true', decide_eq_true_eq, decide_eq_false_iff_not]
    by_cases c : lo ≤ m
    · rw [if_pos c]
      simpa only [c, true_and] using q
    · rw [if_neg c]
      simpa only [c, false_and, decide_false] using q
theorem sc_split_at_gaps : FnScope ["places", "parts", "place"] ["places"] (defScope s_split_at_gaps) := ⟨rfl, rfl, rfl, by decide +kernel, rfl, by decide +kernel, by decide +kernel⟩
theorem ok_split_at_gaps {f : Addr} {fd : FuncData} (F : Fun K "split_at_gaps" "split_at_gaps" s_split_at_gaps f fd) (T : Txt K mg) : FnOk P w K mg base CX0 1 f fd ["places"] (sp_split_at_gaps K) := by
  refine F.ok sc_split_at_gaps (fun vs H Q E h => ?_) (fun cdv A outer s H vs Q E hr h => ?_)
  · obtain ⟨_, _, rfl, _⟩ := h
    rfl
  · refine ⟨_,
      (pss_cons (ps_set (i := 1) sc_split_at_gaps.nd rfl (Or.inl rfl) (pe_lst pa_nil))
      (pss_cons (ps_for PassesOwn.never rfl (pi_list (pv 0)) (pg_name (i := 2) sc_split_at_gaps.nd rfl (Or.inl rfl))
        (pss_one (ps_if (PW.pt (pw_and (pt_truth (pv 1) (by intro _; rfl)) (pw_and1 (pt_cmpR op_eq (pe_op op_add (pe_ix ix_list (pe_ix ix_list (pv 1) (pe_un un_neg pe_int) (fun _ _ => rfl)) (pe_un un_neg pe_int) (fun _ _ => rfl)) pe_int) (pv 2) (nomark _)))))
          (pss_one (ps_expr (pe_bm PySem.F.plainAttrs_list PySem.F.slot_list_append PySem.F.type_list_append mt_append (pe_ix ix_list (pv 1) (pe_un un_neg pe_int) (fun _ _ => rfl)) (pa_cons (pv 2) pa_nil))))
          (pss_one (ps_expr (pe_bm PySem.F.plainAttrs_list PySem.F.slot_list_append PySem.F.type_list_append mt_append (pv 1) (pa_cons (pe_lst (pa_cons (pv 2) pa_nil)) pa_nil)))))))
      (pss_one (ps_ret (pv 1))))), ?_⟩
    obtain ⟨a, rs, rfl, hS, hl, q⟩ := h
    simp only [tSeq, tIfS, tNot, tAnd, tOr, tTest, tChain, tB, tCB, tCall, tCons, tNil, tVar, tC, rI0, rU, tUn, tRet, tRetN, tOp, tNext, tAsg, gName, tAug, ipI, tLst, tTup, tDrop, tNotV, tAndV, tOrV, tIf, rEq, rNe, tCont, tBreak, tBM, tBM0, gTup, gCons, gNil, wipe, tYes, tCKw, tSl, tPart, tNoPart, cxOf, Cx.nox, L2.start, List.map_cons, List.map_nil, List.length_cons, List.length_nil, List.cons_append, List.nil_append, List.append_nil, List.getElem?_cons_zero, List.getElem?_cons_succ, List.set_cons_zero, List.set_cons_succ, Nat.reduceAdd, Nat.reduceSub, Nat.sub_self, Nat.zero_add, List.replicate, Nat.sub_zero, Option.some.injEq, V.int.injEq, V.bl.injEq, V.ref.injEq, List.cons.injEq, and_true, true_and, exists_and_left, exists_and_right, and_assoc, exists_eq_left, exists_eq_left', exists_eq_right, exists_eq_right', exists_const, Bool.not_eq_true', decide_eq_true_eq, decide_eq_false_iff_not]
    refine ⟨by decide, fun p hp => ?_⟩
    have hS1 : SqL K (upd H p (HO.lst [])) a (numsV rs) := (same_new hp).seq hS
    refine ⟨_, rfl, a, rfl, ⟨_, hS1⟩, for_it (walk_list (xs := numsV rs)) (SG a p rs H) ⟨[], [], none, rfl, same_new hp, ⟨upd_same, rfl, fun i a b h => by simp at h⟩, List.nodup_nil, (fun x h => by cases h), .inl ⟨rfl, rfl⟩, Nat.le_refl _⟩ (fun i σ H' _ ⟨_, _, _, _, s, _⟩ => s.seq hS) ?_ ?_⟩
    · rintro i x σ H1 H2 hi' ⟨as, gs, v2, rfl, s1, P1, nd, fr, mid, hb⟩ ⟨rfl, hx⟩
      obtain ⟨z, hz, rfl⟩ := nums_at hx
      rw [numsV_length] at hi'
      have hd := drop_is hz
      simp only [tSeq, tIfS, tNot, tAnd, tOr, tTest, tChain, tB, tCB, tCall, tCons, tNil, tVar, tC, rI0, rU, tUn, tRet, tRetN, tOp, tNext, tAsg, gName, tAug, ipI, tLst, tTup, tDrop, tNotV, tAndV, tOrV, tIf, rEq, rNe, tCont, tBreak, tBM, tBM0, gTup, gCons, gNil, wipe, tYes, tCKw, tSl, tPart, tNoPart, cxOf, Cx.nox, L2.start, List.map_cons, List.map_nil, List.length_cons, List.length_nil, List.cons_append, List.nil_append, List.append_nil, List.getElem?_cons_zero, List.getElem?_cons_succ, List.set_cons_zero, List.set_cons_succ, Nat.reduceAdd, Nat.reduceSub, Nat.sub_self, Nat.zero_add, List.replicate, Nat.sub_zero, Option.some.injEq, V.int.injEq, V.bl.injEq, V.ref.injEq, List.cons.injEq, and_true, true_and, exists_and_left, exists_and_right, and_assoc, exists_eq_left, exists_eq_left', exists_eq_right, exists_eq_right', exists_const, Bool.not_eq_true', decide_eq_true_eq, decide_eq_false_iff_not]
      -- a part of its own
      have own : ∀ (T : Addr), H2 T = none → ListsAt (upd (upd H2 T (HO.lst [V.int (z : Int)])) p (HO.lst (as.map V.ref ++ [V.ref T]))) p (as ++ [T]) (gs ++ [[z]]) ∧ Same H (upd (upd H2 T (HO.lst [V.int (z : Int)])) p (HO.lst (as.map V.ref ++ [V.ref T]))) ∧
          (as ++ [T]).Nodup ∧ (∀ x ∈ as ++ [T], H x = none ∧ x ≠ p) := fun T hT => by
        have hTp : T ≠ p := fun e => by
          rw [e, P1.lst] at hT
          cases hT
        have hTa : ∀ x ∈ as, x ≠ T := fun x hx e => by
          obtain ⟨g, hg⟩ := P1.some hx
          rw [e, hT] at hg
          cases hg
        refine ⟨ListsAt.push (P1.keep (same_new hT)) upd_same hTp (fun x hx => (fr x hx).2), same_put hp (s1.trans (same_new hT)), ?_, ?_⟩
        · rw [List.nodup_append]
          refine ⟨nd, (by simp), fun x hx y hy => ?_⟩
          rw [List.mem_singleton.mp hy]
          exact hTa x hx
        · intro x hx
          rcases List.mem_append.mp hx with hx | hx
          · exact fr x hx
          · rw [List.mem_singleton.mp hx]
            exact ⟨none_ahead s1 hT, hTp⟩
      have short : (as.map V.ref).length < sizeLine := by
        rw [List.length_map, P1.len]
        exact small1000 (by omega)
      rcases mid with ⟨hi0, hgs⟩ | ⟨done, init, y, hgs, e1, hc⟩
      · -- the first
        have has : as = [] := List.length_eq_zero_iff.mp (by rw [P1.len, hgs]; rfl)
        refine ⟨false, .inl ⟨_, SqL.of P1.lst, by rw [has]; rfl⟩, ?_⟩
        rw [if_neg (by decide), if_neg (by decide)]
        refine ⟨.inl ⟨rfl, _, SqL.of P1.lst⟩, by decide, fun T hT => ?_⟩
        have hTp : T ≠ p := fun e => by
          rw [e, P1.lst] at hT
          cases hT
        obtain ⟨w1, w2, w3, w4⟩ := own T hT
        refine ⟨p, _, _, rfl, rfl, by rw [upd_ne hTp.symm]; exact P1.lst, short, ?_⟩
        refine ⟨as ++ [T], gs ++ [[z]], _, rfl, w2, w1, w3, w4, .inr ⟨[], [], z, by rw [hgs]; rfl, ?_, by show 1 ≤ i + 1; omega⟩, ?_⟩
        · subst hi0
          rw [List.drop_zero] at hd
          rw [hd]
          rfl
        · rw [List.length_append]
          show gs.length + 1 ≤ i + 1
          omega
      · rw [hd] at e1
        obtain ⟨as', b, has⟩ : ∃ as' b, as = as' ++ [b] := by
          have hne : as ≠ [] := fun e => by
            have := P1.len
            rw [e, hgs] at this
            simp at this
          exact ⟨as.dropLast, as.getLast hne, (List.dropLast_concat_getLast hne).symm⟩
        have hlen : as'.length = done.length := by
          have := P1.len
          rw [has, hgs, List.length_append, List.length_append] at this
          exact Nat.add_right_cancel this
        have hb1 : H2 b = some (.lst (numsV (init ++ [y]))) := by
          refine P1.at_ as'.length b (init ++ [y]) ?_ ?_
          · rw [has, List.getElem?_append_right (Nat.le_refl _), Nat.sub_self]
            rfl
          · rw [hgs, hlen, List.getElem?_append_right (Nat.le_refl _), Nat.sub_self]
            rfl
        have hlast : atI (as.map V.ref) (-1) = some (V.ref b) := by
          rw [has, List.map_append]
          exact atI_last _ _
        have hlast2 : atI (numsV (init ++ [y])) (-1) = some (V.int (y : Int)) := by
          rw [numsV_append]
          exact atI_last _ _
        refine ⟨true, .inl ⟨_, SqL.of P1.lst, by rw [has]; simp⟩, ?_⟩
        rw [if_pos rfl]
        refine ⟨p, _, _, _, rfl, rfl, SqL.of P1.lst, hlast, b, _, _, _, rfl, rfl, SqL.of hb1, hlast2, _, rfl, rfl, ?_⟩
        by_cases g : y + 1 = z
        · rw [if_pos (by omega)]
          rw [My.partsFrom_in g] at e1
          refine ⟨p, _, _, _, rfl, rfl, SqL.of P1.lst, hlast, .inl ⟨rfl, _, SqL.of hb1⟩, b, _, _, rfl, rfl, hb1, ?_, ?_⟩
          · rw [numsV_length]
            exact small1000 (by omega)
          · have e2 : numsV (init ++ [y]) ++ [V.int (z : Int)] = numsV (init ++ [y] ++ [z]) := by
              rw [numsV_append (init ++ [y]) [z]]
              rfl
            have hbf := fr b (by rw [has]; exact List.mem_append_right _ (List.mem_singleton.mpr rfl))
            rw [e2]
            rw [has] at P1 nd
            rw [hgs] at P1
            refine ⟨as, done ++ [init ++ [y] ++ [z]], _, rfl, same_put hbf.1 s1, ?_, by rw [has]; exact nd, fr, .inr ⟨done, init ++ [y], z, rfl, e1, ?_⟩, ?_⟩
            · rw [has]
              exact P1.grow nd (fun e => hbf.2 e.symm)
            · rw [List.length_append]
              show (init ++ [y]).length + 1 ≤ i + 1
              omega
            · rw [hgs] at hb
              rw [List.length_append] at hb ⊢
              exact Nat.le_succ_of_le hb
        · rw [if_neg (by omega)]
          rw [My.partsFrom_out g] at e1
          refine ⟨.inl ⟨rfl, _, SqL.of P1.lst⟩, by decide, fun T hT => ?_⟩
          have hTp : T ≠ p := fun e => by
            rw [e, P1.lst] at hT
            cases hT
          obtain ⟨w1, w2, w3, w4⟩ := own T hT
          refine ⟨p, _, _, rfl, rfl, by rw [upd_ne hTp.symm]; exact P1.lst, short, ?_⟩
          refine ⟨as ++ [T], gs ++ [[z]], _, rfl, w2, w1, w3, w4, .inr ⟨gs, [], z, rfl, ?_, by show 1 ≤ i + 1; omega⟩, ?_⟩
          · rw [e1, hgs, List.append_assoc]
            rfl
          · rw [List.length_append]
            show gs.length + 1 ≤ i + 1
            omega
    · rintro σ H1 ⟨as, gs, v2, rfl, s1, P1, nd, fr, mid, hb⟩
      rw [numsV_length] at mid
      simp only [tSeq, tIfS, tNot, tAnd, tOr, tTest, tChain, tB, tCB, tCall, tCons, tNil, tVar, tC, rI0, rU, tUn, tRet, tRetN, tOp, tNext, tAsg, gName, tAug, ipI, tLst, tTup, tDrop, tNotV, tAndV, tOrV, tIf, rEq, rNe, tCont, tBreak, tBM, tBM0, gTup, gCons, gNil, wipe, tYes, tCKw, tSl, tPart, tNoPart, cxOf, Cx.nox, L2.start, List.map_cons, List.map_nil, List.length_cons, List.length_nil, List.cons_append, List.nil_append, List.append_nil, List.getElem?_cons_zero, List.getElem?_cons_succ, List.set_cons_zero, List.set_cons_succ, Nat.reduceAdd, Nat.reduceSub, Nat.sub_self, Nat.zero_add, List.replicate, Nat.sub_zero, Option.some.injEq, V.int.injEq, V.bl.injEq, V.ref.injEq, List.cons.injEq, and_true, true_and, exists_and_left, exists_and_right, and_assoc, exists_eq_left, exists_eq_left', exists_eq_right, exists_eq_right', exists_const, Bool.not_eq_true', decide_eq_true_eq, decide_eq_false_iff_not]
      have e : gs = My.parts rs := by
        rcases mid with ⟨h0, rfl⟩ | ⟨done, init, y, rfl, e1, hc⟩
        · rw [List.length_eq_zero_iff.mp h0]
          rfl
        · rw [e1, List.drop_length, My.partsFrom_end]
      rw [e] at P1
      exact q p as _ hp (fun x hx => (fr x hx).1) s1 P1
theorem sc_find_long_runs : FnScope ["lo", "hi", "p", "sections", "places", "place", "measured", "run"] ["lo", "hi", "p", "sections"] (defScope s_find_long_runs) := ⟨rfl, rfl, rfl, by decide +kernel, rfl, by decide +kernel, by decide +kernel⟩
theorem ok_find_long_runs {f : Addr} {fd : FuncData} (F : Fun K "find_long_runs" "find_long_runs" s_find_long_runs f fd) (T : Txt K mg) (O_is_good : Own P w K mg base 1 "is_good" ["lo", "hi", "measured"] (sp_is_good K)) (O_split_at_gaps : Own P w K mg base 1 "split_at_gaps" ["places"] (sp_split_at_gaps K)) : FnOk P w K mg base CX0 2 f fd ["lo", "hi", "p", "sections"] (sp_find_long_runs K) := by
  obtain ⟨f_is_good, d_is_good, G_is_good, m_is_good, k_is_good, b_is_good⟩ := O_is_good.ex
  obtain ⟨f_split_at_gaps, d_split_at_gaps, G_split_at_gaps, m_split_at_gaps, k_split_at_gaps, b_split_at_gaps⟩ := O_split_at_gaps.ex
  refine F.ok sc_find_long_runs (fun vs H Q E h => ?_) (fun cdv A outer s H vs Q E hr h => ?_)
  · obtain ⟨_, _, _, _, _, h⟩ := h
    rw [h.1]
    rfl
  · refine ⟨_,
      (pss_cons (ps_setLc (i := 4) (own := [("place", 5), ("measured", 6)]) (g := gTup K 2 (gCons (gName 5) (gCons (gName 6) gNil))) rfl sc_find_long_runs.nd rfl rfl (sw_true rfl rfl rfl (by decide +kernel)) (pi_enum (by rfl) T.enumerate (pa_cons (pv 3) pa_nil)) (blkOk_by (N := ["lo", "hi", "p", "sections", "places", "place", "measured", "run"]) (sc := defScope s_find_long_runs) (by decide +kernel)) (fun _ _ _ _ _ => (pg_tup (n := 2) rfl (pgs_cons (pg_name (i := 5) sc_find_long_runs.nd rfl (Or.inl rfl) (Or.inr rfl)) (pgs_cons (pg_name (i := 6) sc_find_long_runs.nd rfl (Or.inl rfl) (Or.inr rfl)) pgs_nil)))) (fun _ _ _ _ _ => pts_one (pt_val (pe_call G_is_good (hr.mono (by decide)) rfl m_is_good k_is_good b_is_good .nil pass0 (pa_cons (pv 0) (pa_cons (pv 1) (pa_cons (pv 6) pa_nil)))))) (fun _ _ _ _ _ => (pv 5)))
      (pss_one (ps_ret (pe_lc (own := [("run", 7)]) rfl sc_find_long_runs.nd (pi_list (pe_call G_split_at_gaps (hr.mono (by decide)) rfl m_split_at_gaps k_split_at_gaps b_split_at_gaps .nil pass0 (pa_cons (pv 4) pa_nil))) (blkOk_by (N := ["lo", "hi", "p", "sections", "places", "place", "measured", "run"]) (sc := defScope s_find_long_runs) (by decide +kernel)) (fun _ _ _ _ _ => (pg_name (i := 7) sc_find_long_runs.nd rfl (Or.inl rfl) (Or.inr rfl))) (fun _ _ _ _ _ => pts_one (pt_cmpR op_ge (pe_callB (r := fun xs H Q => ∃ p ys, xs = [V.ref p] ∧ (SqL K H p ys ∨ SqT K H p ys) ∧ Q (V.int (ys.length : Nat)) H) call_len_seq (by rfl) T.len PySem.boot_len (pa_cons (pv 7) pa_nil)) (pv 2) (nomark _))) (fun _ _ _ _ _ => (pv 7)))))), ?_⟩
    obtain ⟨lo, hi, p, a, ns, rfl, hS, hl, h0, h1, hp0, hs, q⟩ := h
    refine cut_nx fun kont hk => ?_
    simp only [tSeq, tIfS, tNot, tAnd, tOr, tTest, tChain, tB, tCB, tCall, tCons, tNil, tVar, tC, rI0, rU, tUn, tRet, tRetN, tOp, tNext, tAsg, gName, tAug, ipI, tLst, tTup, tDrop, tNotV, tAndV, tOrV, tIf, rEq, rNe, tCont, tBreak, tBM, tBM0, gTup, gCons, gNil, wipe, tYes, tCKw, tSl, tPart, tNoPart, cxOf, Cx.nox, L2.start, List.map_cons, List.map_nil, List.length_cons, List.length_nil, List.cons_append, List.nil_append, List.append_nil, List.getElem?_cons_zero, List.getElem?_cons_succ, List.set_cons_zero, List.set_cons_succ, Nat.reduceAdd, Nat.reduceSub, Nat.sub_self, Nat.zero_add, List.replicate, Nat.sub_zero, Option.some.injEq, V.int.injEq, V.bl.injEq, V.ref.injEq, List.cons.injEq, and_true, true_and, exists_and_left, exists_and_right, and_assoc, exists_eq_left, exists_eq_left', exists_eq_right, exists_eq_right', exists_const, Bool.not_eq_true', decide_eq_true_eq, decide_eq_false_iff_not]
    refine ⟨_, rfl, a, _, rfl, hS, fun D hD => lc_it (walk_enum (xs := ns.map V.int)) (GP lo hi ns D H) ⟨[], same_new hD, upd_same, Nat.le_refl _, rfl⟩ (fun i H' _ ⟨_, s, _⟩ => s.seq hS) ?_ ?_⟩
    · rintro i x H1 H2 hi' ⟨acc, s1, hD1, hb, e1⟩ ⟨T, x, y, rfl, hT, rfl, ex, ey⟩
      cases ex
      obtain ⟨z, hz, rfl⟩ := map_at ey
      have hz0 : 0 ≤ z := hs z (List.mem_of_getElem? hz)
      rw [List.length_map] at hi'
      rw [drop_at hz] at e1
      have s2 : Same H (upd H1 T (HO.tup [V.int (i : Nat), V.int z])) := s1.trans (same_new hT)
      have hD2 : (upd H1 T (HO.tup [V.int (i : Nat), V.int z])) D = some (.lst (numsV acc)) := same_new hT _ _ hD1
      refine ⟨T, [.int (i : Nat), .int z], rfl, SqT.of upd_same, rfl, ?_⟩
      simp only [tSeq, tIfS, tNot, tAnd, tOr, tTest, tChain, tB, tCB, tCall, tCons, tNil, tVar, tC, rI0, rU, tUn, tRet, tRetN, tOp, tNext, tAsg, gName, tAug, ipI, tLst, tTup, tDrop, tNotV, tAndV, tOrV, tIf, rEq, rNe, tCont, tBreak, tBM, tBM0, gTup, gCons, gNil, wipe, tYes, tCKw, tSl, tPart, tNoPart, cxOf, Cx.nox, L2.start, List.map_cons, List.map_nil, List.length_cons, List.length_nil, List.cons_append, List.nil_append, List.append_nil, List.getElem?_cons_zero, List.getElem?_cons_succ, List.set_cons_zero, List.set_cons_succ, Nat.reduceAdd, Nat.reduceSub, Nat.sub_self, Nat.zero_add, List.replicate, Nat.sub_zero, Option.some.injEq, V.int.injEq, V.bl.injEq, V.ref.injEq, List.cons.injEq, and_true, true_and, exists_and_left, exists_and_right, and_assoc, exists_eq_left, exists_eq_left', exists_eq_right, exists_eq_right', exists_const, Bool.not_eq_true', decide_eq_true_eq, decide_eq_false_iff_not]
      refine ⟨lo, hi, z, rfl, _, rfl, ?_⟩
      by_cases g : lo ≤ z ∧ z ≤ hi
      · rw [decide_eq_true g, if_pos rfl]
        rw [My.goods_in (by omega)] at e1
        refine ⟨_, hD2, ?_, acc ++ [i], same_put hD s2, ?_, ?_, ?_⟩
        · rw [numsV_length]
          exact small1000 (by omega)
        · rw [upd_same, numsV_append]
          rfl
        · rw [List.length_append]
          show acc.length + 1 ≤ i + 1
          omega
        · rw [e1, List.append_assoc]
          rfl
      · rw [decide_eq_false g, if_neg (by decide)]
        rw [My.goods_out (by omega)] at e1
        exact ⟨acc, s2, hD2, by omega, e1⟩
    · rintro H1 ⟨acc, s1, hD1, hb, e1⟩
      rw [List.length_map] at hb e1
      rw [List.drop_eq_nil_of_le (by rw [List.length_map]; exact Nat.le_refl _)] at e1
      have e2 : acc = My.goodsFrom lo.toNat hi.toNat 0 (ns.map Int.toNat) := by
        rw [e1]
        exact (List.append_nil acc).symm
      rw [hk]
      clear hk e1
      simp only [tSeq, tIfS, tNot, tAnd, tOr, tTest, tChain, tB, tCB, tCall, tCons, tNil, tVar, tC, rI0, rU, tUn, tRet, tRetN, tOp, tNext, tAsg, gName, tAug, ipI, tLst, tTup, tDrop, tNotV, tAndV, tOrV, tIf, rEq, rNe, tCont, tBreak, tBM, tBM0, gTup, gCons, gNil, wipe, tYes, tCKw, tSl, tPart, tNoPart, cxOf, Cx.nox, L2.start, List.map_cons, List.map_nil, List.length_cons, List.length_nil, List.cons_append, List.nil_append, List.append_nil, List.getElem?_cons_zero, List.getElem?_cons_succ, List.set_cons_zero, List.set_cons_succ, Nat.reduceAdd, Nat.reduceSub, Nat.sub_self, Nat.zero_add, List.replicate, Nat.sub_zero, Option.some.injEq, V.int.injEq, V.bl.injEq, V.ref.injEq, List.cons.injEq, and_true, true_and, exists_and_left, exists_and_right, and_assoc, exists_eq_left, exists_eq_left', exists_eq_right, exists_eq_right', exists_const, Bool.not_eq_true', decide_eq_true_eq, decide_eq_false_iff_not]
      refine ⟨_, rfl, D, acc, rfl, SqL.of hD1, by omega, fun P as H2 hP hf s2 P2 => ?_⟩
      rw [e2, My.parts_runs] at P2
      have hcount : ((My.blocks lo.toNat hi.toNat 0 0 (ns.map Int.toNat)).map My.rng).length ≤ 44 := by
        rw [← My.parts_runs, ← e2]
        exact Nat.le_trans (My.parts_count acc) (by omega)
      rw [← My.longParts_runs] at q
      revert P2 hcount q
      generalize (My.blocks lo.toNat hi.toNat 0 0 (ns.map Int.toNat)).map My.rng = gs
      intro q P2 hcount
      have s3 : Same H H2 := s1.trans s2
      refine ⟨P, rfl, ⟨_, SqL.of P2.lst⟩, fun D2 hD2 => lc_it (walk_list (xs := as.map V.ref)) (LR p as gs D2 H2) ⟨[], same_new hD2, ⟨upd_same, rfl, fun i a b h => by simp at h⟩, (fun x h => by cases h), Nat.le_refl _⟩ (fun i H' _ ⟨_, s, _⟩ => SqL.of (s _ _ P2.lst)) ?_ ?_⟩
      · rintro i x H3 H4 hi' ⟨bs, s4, P4, hm, hb4⟩ ⟨rfl, hx⟩
        rw [List.length_map] at hi'
        obtain ⟨t, ht, rfl⟩ := refs_at hx
        obtain ⟨g, hg⟩ : ∃ g, gs[i]? = some g := ⟨_, List.getElem?_eq_getElem (by rw [← P2.len]; exact hi')⟩
        have hT2 := P2.at_ i t g ht hg
        have hT := s4 _ _ hT2
        simp only [tSeq, tIfS, tNot, tAnd, tOr, tTest, tChain, tB, tCB, tCall, tCons, tNil, tVar, tC, rI0, rU, tUn, tRet, tRetN, tOp, tNext, tAsg, gName, tAug, ipI, tLst, tTup, tDrop, tNotV, tAndV, tOrV, tIf, rEq, rNe, tCont, tBreak, tBM, tBM0, gTup, gCons, gNil, wipe, tYes, tCKw, tSl, tPart, tNoPart, cxOf, Cx.nox, L2.start, List.map_cons, List.map_nil, List.length_cons, List.length_nil, List.cons_append, List.nil_append, List.append_nil, List.getElem?_cons_zero, List.getElem?_cons_succ, List.set_cons_zero, List.set_cons_succ, Nat.reduceAdd, Nat.reduceSub, Nat.sub_self, Nat.zero_add, List.replicate, Nat.sub_zero, Option.some.injEq, V.int.injEq, V.bl.injEq, V.ref.injEq, List.cons.injEq, and_true, true_and, exists_and_left, exists_and_right, and_assoc, exists_eq_left, exists_eq_left', exists_eq_right, exists_eq_right', exists_const, Bool.not_eq_true', decide_eq_true_eq, decide_eq_false_iff_not]
        refine ⟨numsV g, .inl (SqL.of hT), ?_⟩
        rw [numsV_length]
        by_cases c : p ≤ (g.length : Int)
        · rw [if_pos c]
          have hTD : t ≠ D2 := fun e => by
            rw [e, hD2] at hT2
            cases hT2
          refine ⟨_, P4.lst, ?_, bs ++ [t], same_put hD2 s4, ?_, ?_, ?_⟩
          · rw [List.length_map]
            exact small1000 (by have := P2.len; omega)
          · rw [take_snoc hg, My.longParts_snoc, if_pos (by omega)]
            exact P4.push hT hTD (fun x hx e => by
              obtain ⟨g', hg'⟩ := P2.some (hm x hx)
              rw [e, hD2] at hg'
              cases hg')
          · intro x hx
            rcases List.mem_append.mp hx with hx | hx
            · exact hm x hx
            · rw [List.mem_singleton.mp hx]
              exact List.mem_of_getElem? ht
          · rw [List.length_append]
            show bs.length + 1 ≤ i + 1
            omega
        · rw [if_neg c]
          refine ⟨bs, s4, ?_, hm, by omega⟩
          rw [take_snoc hg, My.longParts_snoc, if_neg (by omega)]
          exact P4
      · rintro H3 ⟨bs, s4, P4, hm, hb4⟩
        rw [List.length_map, P2.len, List.take_length] at P4
        exact q D2 bs H3 (none_ahead s3 hD2) (fun x hx => none_ahead s1 (hf x (hm x hx))) (s3.trans s4) P4
theorem sc_find_usable : FnScope ["lo", "hi", "p", "sections", "usable", "run"] ["lo", "hi", "p", "sections"] (defScope s_find_usable) := ⟨rfl, rfl, rfl, by decide +kernel, rfl, by decide +kernel, by decide +kernel⟩
theorem ok_find_usable {f : Addr} {fd : FuncData} (F : Fun K "find_usable" "find_usable" s_find_usable f fd) (T : Txt K mg) (O_find_long_runs : Own P w K mg base 2 "find_long_runs" ["lo", "hi", "p", "sections"] (sp_find_long_runs K)) : FnOk P w K mg base CX0 3 f fd ["lo", "hi", "p", "sections"] (sp_find_usable K) := by
  obtain ⟨f_find_long_runs, d_find_long_runs, G_find_long_runs, m_find_long_runs, k_find_long_runs, b_find_long_runs⟩ := O_find_long_runs.ex
  refine F.ok sc_find_usable (fun vs H Q E h => ?_) (fun cdv A outer s H vs Q E hr h => ?_)
  · obtain ⟨_, _, _, _, _, h⟩ := h
    rw [h.1]
    rfl
  · refine ⟨_,
      (pss_cons (ps_set (i := 4) sc_find_usable.nd rfl (Or.inl rfl) (pe_lst pa_nil))
      (pss_cons (ps_for PassesOwn.never rfl (pi_list (pe_call G_find_long_runs (hr.mono (by decide)) rfl m_find_long_runs k_find_long_runs b_find_long_runs .nil pass0 (pa_cons (pv 0) (pa_cons (pv 1) (pa_cons (pv 2) (pa_cons (pv 3) pa_nil)))))) (pg_name (i := 5) sc_find_usable.nd rfl (Or.inl rfl))
        (pss_one (ps_expr (pe_bm PySem.F.plainAttrs_list PySem.F.slot_list_extend PySem.F.type_list_extend mt_extend (pv 4) (pa_cons (pv 5) pa_nil)))))
      (pss_one (ps_ret (pv 4))))), ?_⟩
    obtain ⟨lo, hi, p, a, ns, rfl, hS, hl, h0, h1, hp0, hs, q⟩ := h
    simp only [tSeq, tIfS, tNot, tAnd, tOr, tTest, tChain, tB, tCB, tCall, tCons, tNil, tVar, tC, rI0, rU, tUn, tRet, tRetN, tOp, tNext, tAsg, gName, tAug, ipI, tLst, tTup, tDrop, tNotV, tAndV, tOrV, tIf, rEq, rNe, tCont, tBreak, tBM, tBM0, gTup, gCons, gNil, wipe, tYes, tCKw, tSl, tPart, tNoPart, cxOf, Cx.nox, L2.start, List.map_cons, List.map_nil, List.length_cons, List.length_nil, List.cons_append, List.nil_append, List.append_nil, List.getElem?_cons_zero, List.getElem?_cons_succ, List.set_cons_zero, List.set_cons_succ, Nat.reduceAdd, Nat.reduceSub, Nat.sub_self, Nat.zero_add, List.replicate, Nat.sub_zero, Option.some.injEq, V.int.injEq, V.bl.injEq, V.ref.injEq, List.cons.injEq, and_true, true_and, exists_and_left, exists_and_right, and_assoc, exists_eq_left, exists_eq_left', exists_eq_right, exists_eq_right', exists_const, Bool.not_eq_true', decide_eq_true_eq, decide_eq_false_iff_not]
    refine ⟨by decide, fun r hr0 => ?_⟩
    have hS1 : SqL K (upd H r (HO.lst [])) a (ns.map V.int) := (same_new hr0).seq hS
    have hTell : (My.tell p.toNat (My.blocks lo.toNat hi.toNat 0 0 (ns.map Int.toNat))).length ≤ 44 := by
      have e1 := My.tell_le p.toNat (My.blocks lo.toNat hi.toNat 0 0 (ns.map Int.toNat))
      have e2 := My.blocks_sum (lo := lo.toNat) (hi := hi.toNat) (ns.map Int.toNat) 0 0
      rw [List.length_map] at e2
      omega
    refine ⟨_, rfl, _, rfl, _, rfl, _, rfl, lo, hi, p, a, ns, rfl, hS1, hl, h0, h1, hp0, hs, fun l as H1 hl0 hf s1 P1 => ?_⟩
    have hne : l ≠ r := fun z => by
      rw [z, upd_same] at hl0
      cases hl0
    have hnea : ∀ x ∈ as, x ≠ r := fun x hx z => by
      have := hf x hx
      rw [z, upd_same] at this
      cases this
    have hr1 : H1 r = some (.lst (numsV [])) := s1 _ _ upd_same
    rw [← My.flatten_rng] at q hTell
    revert q hTell P1
    generalize (My.long p.toNat (My.blocks lo.toNat hi.toNat 0 0 (ns.map Int.toNat))).map My.rng = gs
    intro q hTell P1
    refine ⟨l, rfl, ⟨_, SqL.of P1.lst⟩, for_it (walk_list (xs := as.map V.ref)) (FU lo hi p a r l as gs H) ⟨none, rfl, (same_new hr0).trans s1, P1, hr1⟩ (fun i σ H' _ ⟨_, _, _, P, _⟩ => SqL.of P.lst) ?_ ?_⟩
    · rintro i x σ H2 H3 hi' ⟨v5, rfl, s2, P2, hr2⟩ ⟨rfl, hx⟩
      rw [List.length_map] at hi'
      obtain ⟨t, ht, rfl⟩ := refs_at hx
      obtain ⟨g, hg⟩ : ∃ g, gs[i]? = some g := ⟨_, List.getElem?_eq_getElem (by rw [← P2.len]; exact hi')⟩
      have hT := P2.at_ i t g ht hg
      have hlen : (gs.take i).flatten.length + g.length ≤ 44 := by
        have e1 := congrArg (fun z => (List.flatten z).length) (List.take_append_drop (i + 1) gs)
        simp only [List.flatten_append, List.length_append] at e1
        rw [take_snoc hg, List.flatten_append, List.length_append] at e1
        have e2 : [g].flatten = g := by simp
        rw [e2] at e1
        omega
      simp only [tSeq, tIfS, tNot, tAnd, tOr, tTest, tChain, tB, tCB, tCall, tCons, tNil, tVar, tC, rI0, rU, tUn, tRet, tRetN, tOp, tNext, tAsg, gName, tAug, ipI, tLst, tTup, tDrop, tNotV, tAndV, tOrV, tIf, rEq, rNe, tCont, tBreak, tBM, tBM0, gTup, gCons, gNil, wipe, tYes, tCKw, tSl, tPart, tNoPart, cxOf, Cx.nox, L2.start, List.map_cons, List.map_nil, List.length_cons, List.length_nil, List.cons_append, List.nil_append, List.append_nil, List.getElem?_cons_zero, List.getElem?_cons_succ, List.set_cons_zero, List.set_cons_succ, Nat.reduceAdd, Nat.reduceSub, Nat.sub_self, Nat.zero_add, List.replicate, Nat.sub_zero, Option.some.injEq, V.int.injEq, V.bl.injEq, V.ref.injEq, List.cons.injEq, and_true, true_and, exists_and_left, exists_and_right, and_assoc, exists_eq_left, exists_eq_left', exists_eq_right, exists_eq_right', exists_const, Bool.not_eq_true', decide_eq_true_eq, decide_eq_false_iff_not]
      refine ⟨.inl ⟨rfl, _, SqL.of hr2⟩, r, t, _, _, rfl, rfl, hr2, hT, ?_, ?_⟩
      · rw [numsV_length, numsV_length]
        exact Nat.le_of_lt (small1000 (by omega))
      · refine ⟨_, rfl, same_put hr0 s2, P2.off hne hnea, ?_⟩
        rw [upd_same, take_snoc hg, List.flatten_append, numsV_append]
        simp
    · rintro σ H2 ⟨v5, rfl, s2, P2, hr2⟩
      rw [List.length_map, P2.len, List.take_length] at hr2
      simp only [tSeq, tIfS, tNot, tAnd, tOr, tTest, tChain, tB, tCB, tCall, tCons, tNil, tVar, tC, rI0, rU, tUn, tRet, tRetN, tOp, tNext, tAsg, gName, tAug, ipI, tLst, tTup, tDrop, tNotV, tAndV, tOrV, tIf, rEq, rNe, tCont, tBreak, tBM, tBM0, gTup, gCons, gNil, wipe, tYes, tCKw, tSl, tPart, tNoPart, cxOf, Cx.nox, L2.start, List.map_cons, List.map_nil, List.length_cons, List.length_nil, List.cons_append, List.nil_append, List.append_nil, List.getElem?_cons_zero, List.getElem?_cons_succ, List.set_cons_zero, List.set_cons_succ, Nat.reduceAdd, Nat.reduceSub, Nat.sub_self, Nat.zero_add, List.replicate, Nat.sub_zero, Option.some.injEq, V.int.injEq, V.bl.injEq, V.ref.injEq, List.cons.injEq, and_true, true_and, exists_and_left, exists_and_right, and_assoc, exists_eq_left, exists_eq_left', exists_eq_right, exists_eq_right', exists_const, Bool.not_eq_true', decide_eq_true_eq, decide_eq_false_iff_not]
      exact q r _ s2 hr2
theorem sc_may_be_cut : FnScope ["p", "j", "roll", "pieces", "piece"] ["p", "j", "roll"] (defScope s_may_be_cut) := ⟨rfl, rfl, rfl, by decide +kernel, rfl, by decide +kernel, by decide +kernel⟩
theorem ok_may_be_cut {f : Addr} {fd : FuncData} (F : Fun K "may_be_cut" "may_be_cut" s_may_be_cut f fd) (T : Txt K mg) (O_split_at_gaps : Own P w K mg base 1 "split_at_gaps" ["places"] (sp_split_at_gaps K)) : FnOk P w K mg base CX0 2 f fd ["p", "j", "roll"] (sp_may_be_cut K) := by
  obtain ⟨f_split_at_gaps, d_split_at_gaps, G_split_at_gaps, m_split_at_gaps, k_split_at_gaps, b_split_at_gaps⟩ := O_split_at_gaps.ex
  refine F.ok sc_may_be_cut (fun vs H Q E h => ?_) (fun cdv A outer s H vs Q E hr h => ?_)
  · obtain ⟨_, _, _, _, h⟩ := h
    rw [h.1]
    rfl
  · refine ⟨_,
      (pss_cons (ps_set (i := 3) sc_may_be_cut.nd rfl (Or.inl rfl) (pe_call G_split_at_gaps (hr.mono (by decide)) rfl m_split_at_gaps k_split_at_gaps b_split_at_gaps .nil pass0 (pa_cons (pv 2) pa_nil)))
      (pss_one (ps_ret (pe_and (pe_cmpR op_le (pe_callB call_len_seq (by rfl) T.len PySem.boot_len (pa_cons (pv 3) pa_nil)) (pe_op op_add (pv 1) pe_int) (nomark _)) (pe_one (pe_cmpR op_ge (pe_callB (cr_min rfl) (by rfl) T.min (by decide +kernel) (pa_cons (pe_lc (own := [("piece", 4)]) rfl sc_may_be_cut.nd (pi_list (pv 3)) (blkOk_by (N := ["p", "j", "roll", "pieces", "piece"]) (sc := defScope s_may_be_cut) (by decide +kernel)) (fun _ _ _ _ _ => (pg_name (i := 4) sc_may_be_cut.nd rfl (Or.inl rfl) (Or.inr rfl))) (fun _ _ _ _ _ => pts_nil) (fun _ _ _ _ _ => (pe_callB (r := fun xs H Q => ∃ p ys, xs = [V.ref p] ∧ (SqL K H p ys ∨ SqT K H p ys) ∧ Q (V.int (ys.length : Nat)) H) call_len_seq (by rfl) T.len PySem.boot_len (pa_cons (pv 4) pa_nil)))) pa_nil)) (pv 0) (nomark _))))))), ?_⟩
    obtain ⟨p, j, a, rs, rfl, hS, h1, hl, hp0, hj0, q⟩ := h
    rw [My.isRoll_of rfl] at q
    simp only [tSeq, tIfS, tNot, tAnd, tOr, tTest, tChain, tB, tCB, tCall, tCons, tNil, tVar, tC, rI0, rU, tUn, tRet, tRetN, tOp, tNext, tAsg, gName, tAug, ipI, tLst, tTup, tDrop, tNotV, tAndV, tOrV, tIf, rEq, rNe, tCont, tBreak, tBM, tBM0, gTup, gCons, gNil, wipe, tYes, tCKw, tSl, tPart, tNoPart, cxOf, Cx.nox, L2.start, List.map_cons, List.map_nil, List.length_cons, List.length_nil, List.cons_append, List.nil_append, List.append_nil, List.getElem?_cons_zero, List.getElem?_cons_succ, List.set_cons_zero, List.set_cons_succ, Nat.reduceAdd, Nat.reduceSub, Nat.sub_self, Nat.zero_add, List.replicate, Nat.sub_zero, Option.some.injEq, V.int.injEq, V.bl.injEq, V.ref.injEq, List.cons.injEq, and_true, true_and, exists_and_left, exists_and_right, and_assoc, exists_eq_left, exists_eq_left', exists_eq_right, exists_eq_right', exists_const, Bool.not_eq_true', decide_eq_true_eq, decide_eq_false_iff_not]
    refine ⟨a, rs, rfl, hS, hl, fun P as H1 hP hf s1 P1 => ?_⟩
    have hpos := My.parts_pos h1
    have hcnt := My.parts_count rs
    rw [← My.parts_lengths, List.length_map] at q
    revert P1 q hpos hcnt
    generalize My.parts rs = gs
    intro q P1 hpos hcnt
    refine ⟨P, rfl, _, .inl (SqL.of P1.lst), ?_⟩
    rw [List.length_map, P1.len]
    by_cases c : (gs.length : Int) ≤ j + 1
    · rw [if_pos c]
      rw [decide_eq_true (show gs.length ≤ j.toNat + 1 by omega), Bool.true_and] at q
      refine ⟨_, rfl, P, rfl, ⟨_, SqL.of P1.lst⟩, fun D hD => lc_it (walk_list (xs := as.map V.ref)) (RN gs D H1) ⟨same_new hD, upd_same⟩ (fun i H' _ ⟨s, _⟩ => SqL.of (s _ _ P1.lst)) ?_ ?_⟩
      · rintro i x H2 H3 hi' ⟨s2, hD2⟩ ⟨rfl, hx⟩
        rw [List.length_map] at hi'
        obtain ⟨t, ht, rfl⟩ := refs_at hx
        have hi2 : i < gs.length := by
          rw [← P1.len]
          exact hi'
        obtain ⟨g, hg⟩ : ∃ g, gs[i]? = some g := ⟨_, List.getElem?_eq_getElem hi2⟩
        have hT := s2 _ _ (P1.at_ i t g ht hg)
        simp only [tSeq, tIfS, tNot, tAnd, tOr, tTest, tChain, tB, tCB, tCall, tCons, tNil, tVar, tC, rI0, rU, tUn, tRet, tRetN, tOp, tNext, tAsg, gName, tAug, ipI, tLst, tTup, tDrop, tNotV, tAndV, tOrV, tIf, rEq, rNe, tCont, tBreak, tBM, tBM0, gTup, gCons, gNil, wipe, tYes, tCKw, tSl, tPart, tNoPart, cxOf, Cx.nox, L2.start, List.map_cons, List.map_nil, List.length_cons, List.length_nil, List.cons_append, List.nil_append, List.append_nil, List.getElem?_cons_zero, List.getElem?_cons_succ, List.set_cons_zero, List.set_cons_succ, Nat.reduceAdd, Nat.reduceSub, Nat.sub_self, Nat.zero_add, List.replicate, Nat.sub_zero, Option.some.injEq, V.int.injEq, V.bl.injEq, V.ref.injEq, List.cons.injEq, and_true, true_and, exists_and_left, exists_and_right, and_assoc, exists_eq_left, exists_eq_left', exists_eq_right, exists_eq_right', exists_const, Bool.not_eq_true', decide_eq_true_eq, decide_eq_false_iff_not]
        refine ⟨numsV g, .inl (SqL.of hT), _, hD2, ?_, same_put hD s2, ?_⟩
        · rw [numsV_length, List.length_map, List.length_take]
          exact small1000 (by omega)
        · rw [upd_same, take_snoc hg, List.map_append, numsV_append, numsV_length]
          rfl
      · rintro H2 ⟨s2, hD2⟩
        rw [List.length_map, P1.len, List.take_length] at hD2
        refine ⟨D, nI (gs.map List.length), rfl, by rw [nI_V]; exact SqL.of hD2, ?_, fun m hm hle => ⟨m, rfl, ?_⟩⟩
        · unfold nI
          rw [List.length_map, List.length_map]
          exact hpos
        · obtain ⟨x, hx, rfl⟩ := nI_mem hm
          have e := My.all_by_least (p := p.toNat) hx fun y hy => by have := hle _ (mem_nI hy); omega
          rw [e] at q
          have e2 : decide (p ≤ (x : Int)) = decide (p.toNat ≤ x) := by
            rw [Bool.eq_iff_iff, decide_eq_true_iff, decide_eq_true_iff]
            omega
          rw [e2]
          exact q H2 (s1.trans s2)
    · rw [if_neg c]
      rw [decide_eq_false (show ¬ gs.length ≤ j.toNat + 1 by omega), Bool.false_and] at q
      exact q H1 s1
theorem sc_rolls : FnScope ["lo", "hi", "p", "j", "n", "sections", "usable", "begins", "ahead", "roll"] ["lo", "hi", "p", "j", "n", "sections"] (defScope s_rolls) := ⟨rfl, rfl, rfl, by decide +kernel, rfl, by decide +kernel, by decide +kernel⟩
theorem ok_rolls {f : Addr} {fd : FuncData} (F : Fun K "rolls" "rolls" s_rolls f fd) (T : Txt K mg) (O_find_usable : Own P w K mg base 3 "find_usable" ["lo", "hi", "p", "sections"] (sp_find_usable K)) (O_may_be_cut : Own P w K mg base 2 "may_be_cut" ["p", "j", "roll"] (sp_may_be_cut K)) (O_is_web : Own P w K mg base 1 "is_web" ["sections"] (sp_is_web K)) (O_are_limits : Own P w K mg base 1 "are_limits" ["lo", "hi"] (sp_are_limits K)) (O_is_least_length : Own P w K mg base 1 "is_least_length" ["p"] (sp_is_least_length K)) (O_are_roll_numbers : Own P w K mg base 1 "are_roll_numbers" ["j", "n"] (sp_are_roll_numbers K)) : FnOk P w K mg base CX0 4 f fd ["lo", "hi", "p", "j", "n", "sections"] (sp_rolls K) := by
  obtain ⟨f_find_usable, d_find_usable, G_find_usable, m_find_usable, k_find_usable, b_find_usable⟩ := O_find_usable.ex
  obtain ⟨f_may_be_cut, d_may_be_cut, G_may_be_cut, m_may_be_cut, k_may_be_cut, b_may_be_cut⟩ := O_may_be_cut.ex
  obtain ⟨f_is_web, d_is_web, G_is_web, m_is_web, k_is_web, b_is_web⟩ := O_is_web.ex
  obtain ⟨f_are_limits, d_are_limits, G_are_limits, m_are_limits, k_are_limits, b_are_limits⟩ := O_are_limits.ex
  obtain ⟨f_is_least_length, d_is_least_length, G_is_least_length, m_is_least_length, k_is_least_length, b_is_least_length⟩ := O_is_least_length.ex
  obtain ⟨f_are_roll_numbers, d_are_roll_numbers, G_are_roll_numbers, m_are_roll_numbers, k_are_roll_numbers, b_are_roll_numbers⟩ := O_are_roll_numbers.ex
  obtain ⟨t_REFUSED, c_REFUSED⟩ := T.REFUSED
  refine F.ok sc_rolls (fun vs H Q E h => ?_) (fun cdv A outer s H vs Q E hr h => ?_)
  · obtain ⟨_, _, _, _, _, _, _, h⟩ := h
    rw [h.1]
    rfl
  · refine ⟨_,
      (pss_cons (ps_if (PW.pt (pw_or (pt_not (pt_val (pe_call G_is_web (hr.mono (by decide)) rfl m_is_web k_is_web b_is_web .nil pass0 (pa_cons (pv 5) pa_nil)))) (pw_or (pt_not (pt_val (pe_call G_are_limits (hr.mono (by decide)) rfl m_are_limits k_are_limits b_are_limits .nil pass0 (pa_cons (pv 0) (pa_cons (pv 1) pa_nil))))) (pw_or (pt_not (pt_val (pe_call G_is_least_length (hr.mono (by decide)) rfl m_is_least_length k_is_least_length b_is_least_length .nil pass0 (pa_cons (pv 2) pa_nil)))) (pw_or1 (pt_not (pt_val (pe_call G_are_roll_numbers (hr.mono (by decide)) rfl m_are_roll_numbers k_are_roll_numbers b_are_roll_numbers .nil pass0 (pa_cons (pv 3) (pa_cons (pv 4) pa_nil))))))))))
        (pss_one (ps_ret (pe_lst (pa_cons (pe_glob (v := V.int (-22)) rfl c_REFUSED ⟨_, rfl⟩) pa_nil)))) pss_nil)
      (pss_cons (ps_set (i := 6) sc_rolls.nd rfl (Or.inl rfl) (pe_call G_find_usable (hr.mono (by decide)) rfl m_find_usable k_find_usable b_find_usable .nil pass0 (pa_cons (pv 0) (pa_cons (pv 1) (pa_cons (pv 2) (pa_cons (pv 5) pa_nil))))))
      (pss_cons (ps_set (i := 7) sc_rolls.nd rfl (Or.inl rfl) (pe_lst pa_nil))
      (pss_cons (ps_set (i := 8) sc_rolls.nd rfl (Or.inl rfl) pe_int)
      (pss_cons (ps_while PassesOwn.never (pt_cmpR op_le (pe_op op_add (pv 8) (pv 4)) (pe_callB call_len_seq (by rfl) T.len PySem.boot_len (pa_cons (pv 6) pa_nil)) (nomark _))
        (pss_cons (ps_set (i := 9) sc_rolls.nd rfl (Or.inl rfl) (pe_slice sl_list (pv 6) (po_some (pv 8)) (po_some (pe_op op_add (pv 8) (pv 4)))))
        (pss_one (ps_if (pt_val (pe_call G_may_be_cut (hr.mono (by decide)) rfl m_may_be_cut k_may_be_cut b_may_be_cut .nil pass0 (pa_cons (pv 2) (pa_cons (pv 3) (pa_cons (pv 9) pa_nil)))))
          (pss_cons (ps_expr (pe_bm PySem.F.plainAttrs_list PySem.F.slot_list_append PySem.F.type_list_append mt_append (pv 7) (pa_cons (pe_ix ix_list (pv 9) pe_int (fun _ _ => rfl)) pa_nil)))
          (pss_one (ps_aug (i := 8) sc_rolls.nd rfl (.inl rfl) (pv 4) ip_add)))
          (pss_one (ps_aug (i := 8) sc_rolls.nd rfl (.inl rfl) pe_int ip_add))))))
      (pss_one (ps_ret (pe_op op_cat (pe_lst (pa_cons (pe_callB call_len_seq (by rfl) T.len PySem.boot_len (pa_cons (pv 7) pa_nil)) pa_nil)) (pv 7))))))))), ?_⟩
    obtain ⟨lo, hi, p, j, n, a, ns, rfl, hS, hl, h0, h1, hp0, hj0, hn0, hs, q⟩ := h
    have refuse : (Kza4.okWeb (ns.map Int.toNat) = false ∨ Kza4.okCut lo.toNat hi.toNat p.toNat j.toNat n.toNat = false) → 1 ≤ sizeLine ∧ ∀ (x : Addr), H x = none → Q (V.ref x) (upd H x (HO.lst [V.int (-22)])) := fun c => ⟨by decide, fun x _ =>
      q x _ (by rw [upd_same, My.rolls_refused c]; rfl)⟩
    refine cut_nx fun kont hk => ?_
    simp only [tSeq, tIfS, tNot, tAnd, tOr, tTest, tChain, tB, tCB, tCall, tCons, tNil, tVar, tC, rI0, rU, tUn, tRet, tRetN, tOp, tNext, tAsg, gName, tAug, ipI, tLst, tTup, tDrop, tNotV, tAndV, tOrV, tIf, rEq, rNe, tCont, tBreak, tBM, tBM0, gTup, gCons, gNil, wipe, tYes, tCKw, tSl, tPart, tNoPart, cxOf, Cx.nox, L2.start, List.map_cons, List.map_nil, List.length_cons, List.length_nil, List.cons_append, List.nil_append, List.append_nil, List.getElem?_cons_zero, List.getElem?_cons_succ, List.set_cons_zero, List.set_cons_succ, Nat.reduceAdd, Nat.reduceSub, Nat.sub_self, Nat.zero_add, List.replicate, Nat.sub_zero, Option.some.injEq, V.int.injEq, V.bl.injEq, V.ref.injEq, List.cons.injEq, and_true, true_and, exists_and_left, exists_and_right, and_assoc, exists_eq_left, exists_eq_left', exists_eq_right, exists_eq_right', exists_const, Bool.not_eq_true', decide_eq_true_eq, decide_eq_false_iff_not]
    refine ⟨a, ns, rfl, hS, _, rfl, ?_⟩
    cases hw : Kza4.okWeb (ns.map Int.toNat) with
    | false =>
      rw [if_pos rfl, if_pos trivial]
      exact refuse (.inl hw)
    | true =>
      rw [if_neg (by decide)]
      refine ⟨lo, hi, rfl, h0, h1, _, rfl, ?_⟩
      have cut : ¬ (Kza4.okLimits lo.toNat hi.toNat = true ∧ (1 ≤ p ∧ p ≤ 20) ∧ (j ≤ 5 ∧ 1 ≤ n ∧ n ≤ 40)) → 1 ≤ sizeLine ∧ ∀ (x : Addr), H x = none → Q (V.ref x) (upd H x (HO.lst [V.int (-22)])) := fun c => refuse (.inr (by
        rw [Bool.eq_false_iff]
        intro z
        have := (My.okCut_iff _ _ _ _ _).mp z
        exact c ⟨this.1, by omega, by omega⟩))
      cases hL : Kza4.okLimits lo.toNat hi.toNat with
      | false =>
        rw [if_pos rfl, if_pos trivial]
        exact cut (by rw [hL]; exact fun z => Bool.noConfusion z.1)
      | true =>
        rw [if_neg (by decide)]
        refine ⟨p, rfl, _, rfl, ?_⟩
        by_cases c1 : 1 ≤ p ∧ p ≤ 20
        · rw [decide_eq_true c1, if_neg (by decide)]
          refine ⟨j, n, rfl, _, rfl, ?_⟩
          by_cases c2 : j ≤ 5 ∧ 1 ≤ n ∧ n ≤ 40
          · rw [decide_eq_true c2, if_neg (by decide), hk]
            have hC : Kza4.okCut lo.toNat hi.toNat p.toNat j.toNat n.toNat = true := (My.okCut_iff _ _ _ _ _).mpr ⟨hL, by omega, by omega, by omega, by omega, by omega⟩
            clear refuse cut hk
            refine ⟨_, rfl, _, rfl, _, rfl, _, rfl, lo, hi, p, a, ns, rfl, hS, hl, h0, h1, hp0, hs, fun u H1 s1 hu => ?_⟩
            have hU : (My.tell p.toNat (My.blocks lo.toNat hi.toNat 0 0 (ns.map Int.toNat))).length ≤ 44 := by
              have e1 := My.tell_le p.toNat (My.blocks lo.toNat hi.toNat 0 0 (ns.map Int.toNat))
              have e2 := My.blocks_sum (lo := lo.toNat) (hi := hi.toNat) (ns.map Int.toNat) 0 0
              rw [List.length_map] at e2
              omega
            have told := My.rolls_told (lo := lo) (hi := hi) (p := p) (j := j) (n := n) (l := ns) hw hC
            revert told hU hu
            generalize My.tell p.toNat (My.blocks lo.toNat hi.toNat 0 0 (ns.map Int.toNat)) = U
            intro hu hU told
            simp only [tSeq, tIfS, tNot, tAnd, tOr, tTest, tChain, tB, tCB, tCall, tCons, tNil, tVar, tC, rI0, rU, tUn, tRet, tRetN, tOp, tNext, tAsg, gName, tAug, ipI, tLst, tTup, tDrop, tNotV, tAndV, tOrV, tIf, rEq, rNe, tCont, tBreak, tBM, tBM0, gTup, gCons, gNil, wipe, tYes, tCKw, tSl, tPart, tNoPart, cxOf, Cx.nox, L2.start, List.map_cons, List.map_nil, List.length_cons, List.length_nil, List.cons_append, List.nil_append, List.append_nil, List.getElem?_cons_zero, List.getElem?_cons_succ, List.set_cons_zero, List.set_cons_succ, Nat.reduceAdd, Nat.reduceSub, Nat.sub_self, Nat.zero_add, List.replicate, Nat.sub_zero, Option.some.injEq, V.int.injEq, V.bl.injEq, V.ref.injEq, List.cons.injEq, and_true, true_and, exists_and_left, exists_and_right, and_assoc, exists_eq_left, exists_eq_left', exists_eq_right, exists_eq_right', exists_const, Bool.not_eq_true', decide_eq_true_eq, decide_eq_false_iff_not]
            refine ⟨by decide, fun r hr => ?_⟩
            have hne : r ≠ u := fun z => by
              rw [z, hu] at hr
              cases hr
            refine while_of (WL lo hi p j n a u r U) left ⟨0, [], none, rfl, by rw [upd_ne hne.symm]; exact hu, upd_same, rfl, Nat.le_refl _, Nat.zero_le _⟩ ?_
            rintro σ H2 ⟨t, bs, v9, rfl, hu2, hr2, e2, hb, ht⟩
            refine ⟨decide ((t : Int) + n ≤ (U.length : Int)), fun X x => ?_, ?_⟩
            · simp only [tSeq, tIfS, tNot, tAnd, tOr, tTest, tChain, tB, tCB, tCall, tCons, tNil, tVar, tC, rI0, rU, tUn, tRet, tRetN, tOp, tNext, tAsg, gName, tAug, ipI, tLst, tTup, tDrop, tNotV, tAndV, tOrV, tIf, rEq, rNe, tCont, tBreak, tBM, tBM0, gTup, gCons, gNil, wipe, tYes, tCKw, tSl, tPart, tNoPart, cxOf, Cx.nox, L2.start, List.map_cons, List.map_nil, List.length_cons, List.length_nil, List.cons_append, List.nil_append, List.append_nil, List.getElem?_cons_zero, List.getElem?_cons_succ, List.set_cons_zero, List.set_cons_succ, Nat.reduceAdd, Nat.reduceSub, Nat.sub_self, Nat.zero_add, List.replicate, Nat.sub_zero, Option.some.injEq, V.int.injEq, V.bl.injEq, V.ref.injEq, List.cons.injEq, and_true, true_and, exists_and_left, exists_and_right, and_assoc, exists_eq_left, exists_eq_left', exists_eq_right, exists_eq_right', exists_const, Bool.not_eq_true', decide_eq_true_eq, decide_eq_false_iff_not]
              refine ⟨numsV U, .inl (SqL.of hu2), ?_⟩
              rw [numsV_length]
              exact x
            · by_cases c : (t : Int) + n ≤ (U.length : Int)
              · rw [decide_eq_true c, if_pos rfl]
                obtain ⟨v, hv⟩ : ∃ v, U[t]? = some v := ⟨_, List.getElem?_eq_getElem (by omega)⟩
                have hd := drop_is hv
                simp only [tSeq, tIfS, tNot, tAnd, tOr, tTest, tChain, tB, tCB, tCall, tCons, tNil, tVar, tC, rI0, rU, tUn, tRet, tRetN, tOp, tNext, tAsg, gName, tAug, ipI, tLst, tTup, tDrop, tNotV, tAndV, tOrV, tIf, rEq, rNe, tCont, tBreak, tBM, tBM0, gTup, gCons, gNil, wipe, tYes, tCKw, tSl, tPart, tNoPart, cxOf, Cx.nox, L2.start, List.map_cons, List.map_nil, List.length_cons, List.length_nil, List.cons_append, List.nil_append, List.append_nil, List.getElem?_cons_zero, List.getElem?_cons_succ, List.set_cons_zero, List.set_cons_succ, Nat.reduceAdd, Nat.reduceSub, Nat.sub_self, Nat.zero_add, List.replicate, Nat.sub_zero, Option.some.injEq, V.int.injEq, V.bl.injEq, V.ref.injEq, List.cons.injEq, and_true, true_and, exists_and_left, exists_and_right, and_assoc, exists_eq_left, exists_eq_left', exists_eq_right, exists_eq_right', exists_const, Bool.not_eq_true', decide_eq_true_eq, decide_eq_false_iff_not]
                refine ⟨u, numsV U, rfl, SqL.of hu2, fun s hs2 => ?_⟩
                rw [cut_at hn0 c]
                have hl2 : ((U.drop t).take n.toNat).length = n.toNat := by
                  rw [List.length_take, List.length_drop]
                  omega
                have hfirst : ((U.drop t).take n.toNat)[0]? = some v := by
                  rw [List.getElem?_take_of_lt (by omega), hd]
                  rfl
                refine ⟨p, j, s, (U.drop t).take n.toNat, rfl, SqL.of upd_same, by omega, by omega, hp0, hj0, fun H3 s3 => ⟨_, rfl, ?_⟩⟩
                have hs3 : H3 s = some (.lst (numsV ((U.drop t).take n.toNat))) := s3 _ _ upd_same
                have hu3 : H3 u = some (.lst (numsV U)) := s3 _ _ (same_new hs2 _ _ hu2)
                have hr3 : H3 r = some (.lst (numsV bs)) := s3 _ _ (same_new hs2 _ _ hr2)
                rw [hl2]
                cases hR : Kza4.isRoll p.toNat j.toNat n.toNat ((U.drop t).take n.toNat) with
                | true =>
                  rw [if_pos rfl]
                  refine ⟨.inl ⟨rfl, _, SqL.of hr3⟩, s, _, _, _, rfl, rfl, SqL.of hs3, at_of (j := 0) rfl (numsV_at hfirst), r, _, _, rfl, rfl, hr3, ?_, ?_⟩
                  · rw [numsV_length]
                    exact small1000 (by omega)
                  · refine ⟨⟨t + n.toNat, bs ++ [v], some (V.ref s), ?_, ?_, ?_, ?_, ?_, by omega⟩, ?_⟩
                    · have e : (t : Int) + n = ((t + n.toNat : Nat) : Int) := by omega
                      rw [e]
                    · rw [upd_ne hne.symm]
                      exact hu3
                    · rw [upd_same, numsV_append]
                      rfl
                    · rw [hd] at hR
                      rw [e2, hd, My.front_take hR, List.append_assoc, List.drop_drop]
                      have e : t + 1 + (n.toNat - 1) = t + n.toNat := by omega
                      rw [e]
                      rfl
                    · rw [List.length_append]
                      show bs.length + 1 ≤ _
                      omega
                    · show (100 - ((t : Int) + n)).toNat < (100 - (t : Int)).toNat
                      omega
                | false =>
                  rw [if_neg (by decide)]
                  refine ⟨⟨t + 1, bs, _, rfl, hu3, hr3, ?_, by omega, by omega⟩, ?_⟩
                  · rw [hd] at hR
                    rw [e2, hd, My.front_skip hR]
                  · show (100 - ((t : Int) + 1)).toNat < (100 - (t : Int)).toNat
                    omega
              · rw [decide_eq_false c, if_neg (by decide)]
                have e3 : My.front p.toNat j.toNat n.toNat 0 U = bs := by
                  rw [e2, My.front_short _ (by rw [List.length_drop]; omega), List.append_nil]
                rw [e3] at told
                simp only [tSeq, tIfS, tNot, tAnd, tOr, tTest, tChain, tB, tCB, tCall, tCons, tNil, tVar, tC, rI0, rU, tUn, tRet, tRetN, tOp, tNext, tAsg, gName, tAug, ipI, tLst, tTup, tDrop, tNotV, tAndV, tOrV, tIf, rEq, rNe, tCont, tBreak, tBM, tBM0, gTup, gCons, gNil, wipe, tYes, tCKw, tSl, tPart, tNoPart, cxOf, Cx.nox, L2.start, List.map_cons, List.map_nil, List.length_cons, List.length_nil, List.cons_append, List.nil_append, List.append_nil, List.getElem?_cons_zero, List.getElem?_cons_succ, List.set_cons_zero, List.set_cons_succ, Nat.reduceAdd, Nat.reduceSub, Nat.sub_self, Nat.zero_add, List.replicate, Nat.sub_zero, Option.some.injEq, V.int.injEq, V.bl.injEq, V.ref.injEq, List.cons.injEq, and_true, true_and, exists_and_left, exists_and_right, and_assoc, exists_eq_left, exists_eq_left', exists_eq_right, exists_eq_right', exists_const, Bool.not_eq_true', decide_eq_true_eq, decide_eq_false_iff_not]
                refine ⟨numsV bs, .inl (SqL.of hr2), by decide, fun s hs2 => ?_⟩
                refine ⟨s, r, _, _, rfl, rfl, upd_same, same_new hs2 _ _ hr2, ?_, fun x hx => q x _ ?_⟩
                · rw [numsV_length]
                  exact Nat.le_of_lt (small1000 (by show 1 + bs.length ≤ 1000; omega))
                · rw [upd_same, told, List.map_cons, ints_numsV, numsV_length]
                  rfl
          · rw [decide_eq_false c2, if_pos rfl]
            exact cut fun z => c2 z.2.2
        · rw [decide_eq_false c1, if_pos rfl, if_pos trivial]
          exact cut fun z => c1 z.2.1
end
theorem all_mk {P : Program} {w : World} {K : PySem.W.Frag} {h : Heap} {mg : Str → Option Value} {fa : Addr} (X : K.In h) (G : h.Ns mainGlobals mg) (hfa : mg "rolls" = some (.ref fa))
    {f0 f1 f2 f3 f4 f5 f6 f7 f8 f9 : Addr} {od0 an0 od1 an1 od2 an2 od3 an3 od4 an4 od5 an5 od6 an6 od7 an7 od8 an8 od9 an9 : Option Addr} {sl0 sl1 sl2 sl3 sl4 sl5 sl6 sl7 sl8 sl9 : Array (Option Value)} {oc0 kV0 dc0 pm0 cd0 ct0 oc1 kV1 dc1 pm1 cd1 ct1 oc2 kV2 dc2 pm2 cd2 ct2 oc3 kV3 dc3 pm3 cd3 ct3 oc4 kV4 dc4 pm4 cd4 ct4 oc5 kV5 dc5 pm5 cd5 ct5 oc6 kV6 dc6 pm6 cd6 ct6 oc7 kV7 dc7 pm7 cd7 ct7 oc8 kV8 dc8 pm8 cd8 ct8 oc9 kV9 dc9 pm9 cd9 ct9 : Value} {t0 t1 t2 t3 t4 t5 : Tok}
    (a0 : PySem.W.nsIn K mainGlobals "is_web" = some (some (.ref f0)))
    (l0 : K.lookup f0 = some ⟨oc0, od0, .func (PySem.W.fnOf "is_web" "is_web" (defArgs s_is_web) (defBody s_is_web) (defScope s_is_web) .none kV0 dc0 pm0 an0 cd0 ct0), sl0⟩)
    (c0 : PySem.W.codeIn K cd0 "is_web" = true)
    (k0 : PySem.W.keepIn K (.ref f0) = true)
    (a1 : PySem.W.nsIn K mainGlobals "are_limits" = some (some (.ref f1)))
    (l1 : K.lookup f1 = some ⟨oc1, od1, .func (PySem.W.fnOf "are_limits" "are_limits" (defArgs s_are_limits) (defBody s_are_limits) (defScope s_are_limits) .none kV1 dc1 pm1 an1 cd1 ct1), sl1⟩)
    (c1 : PySem.W.codeIn K cd1 "are_limits" = true)
    (k1 : PySem.W.keepIn K (.ref f1) = true)
    (a2 : PySem.W.nsIn K mainGlobals "is_least_length" = some (some (.ref f2)))
    (l2 : K.lookup f2 = some ⟨oc2, od2, .func (PySem.W.fnOf "is_least_length" "is_least_length" (defArgs s_is_least_length) (defBody s_is_least_length) (defScope s_is_least_length) .none kV2 dc2 pm2 an2 cd2 ct2), sl2⟩)
    (c2 : PySem.W.codeIn K cd2 "is_least_length" = true)
    (k2 : PySem.W.keepIn K (.ref f2) = true)
    (a3 : PySem.W.nsIn K mainGlobals "are_roll_numbers" = some (some (.ref f3)))
    (l3 : K.lookup f3 = some ⟨oc3, od3, .func (PySem.W.fnOf "are_roll_numbers" "are_roll_numbers" (defArgs s_are_roll_numbers) (defBody s_are_roll_numbers) (defScope s_are_roll_numbers) .none kV3 dc3 pm3 an3 cd3 ct3), sl3⟩)
    (c3 : PySem.W.codeIn K cd3 "are_roll_numbers" = true)
    (k3 : PySem.W.keepIn K (.ref f3) = true)
    (a4 : PySem.W.nsIn K mainGlobals "is_good" = some (some (.ref f4)))
    (l4 : K.lookup f4 = some ⟨oc4, od4, .func (PySem.W.fnOf "is_good" "is_good" (defArgs s_is_good) (defBody s_is_good) (defScope s_is_good) .none kV4 dc4 pm4 an4 cd4 ct4), sl4⟩)
    (c4 : PySem.W.codeIn K cd4 "is_good" = true)
    (k4 : PySem.W.keepIn K (.ref f4) = true)
    (a5 : PySem.W.nsIn K mainGlobals "split_at_gaps" = some (some (.ref f5)))
    (l5 : K.lookup f5 = some ⟨oc5, od5, .func (PySem.W.fnOf "split_at_gaps" "split_at_gaps" (defArgs s_split_at_gaps) (defBody s_split_at_gaps) (defScope s_split_at_gaps) .none kV5 dc5 pm5 an5 cd5 ct5), sl5⟩)
    (c5 : PySem.W.codeIn K cd5 "split_at_gaps" = true)
    (k5 : PySem.W.keepIn K (.ref f5) = true)
    (a6 : PySem.W.nsIn K mainGlobals "find_long_runs" = some (some (.ref f6)))
    (l6 : K.lookup f6 = some ⟨oc6, od6, .func (PySem.W.fnOf "find_long_runs" "find_long_runs" (defArgs s_find_long_runs) (defBody s_find_long_runs) (defScope s_find_long_runs) .none kV6 dc6 pm6 an6 cd6 ct6), sl6⟩)
    (c6 : PySem.W.codeIn K cd6 "find_long_runs" = true)
    (k6 : PySem.W.keepIn K (.ref f6) = true)
    (a7 : PySem.W.nsIn K mainGlobals "find_usable" = some (some (.ref f7)))
    (l7 : K.lookup f7 = some ⟨oc7, od7, .func (PySem.W.fnOf "find_usable" "find_usable" (defArgs s_find_usable) (defBody s_find_usable) (defScope s_find_usable) .none kV7 dc7 pm7 an7 cd7 ct7), sl7⟩)
    (c7 : PySem.W.codeIn K cd7 "find_usable" = true)
    (k7 : PySem.W.keepIn K (.ref f7) = true)
    (a8 : PySem.W.nsIn K mainGlobals "may_be_cut" = some (some (.ref f8)))
    (l8 : K.lookup f8 = some ⟨oc8, od8, .func (PySem.W.fnOf "may_be_cut" "may_be_cut" (defArgs s_may_be_cut) (defBody s_may_be_cut) (defScope s_may_be_cut) .none kV8 dc8 pm8 an8 cd8 ct8), sl8⟩)
    (c8 : PySem.W.codeIn K cd8 "may_be_cut" = true)
    (k8 : PySem.W.keepIn K (.ref f8) = true)
    (a9 : PySem.W.nsIn K mainGlobals "rolls" = some (some (.ref f9)))
    (l9 : K.lookup f9 = some ⟨oc9, od9, .func (PySem.W.fnOf "rolls" "rolls" (defArgs s_rolls) (defBody s_rolls) (defScope s_rolls) .none kV9 dc9 pm9 an9 cd9 ct9), sl9⟩)
    (c9 : PySem.W.codeIn K cd9 "rolls" = true)
    (k9 : PySem.W.keepIn K (.ref f9) = true)
    (g0 : PySem.W.nsIn K mainGlobals "MOST_SECTIONS" = some (some (.int (40) t0)))
    (g1 : PySem.W.nsIn K mainGlobals "MOST_MEASURED" = some (some (.int (1000) t1)))
    (g2 : PySem.W.nsIn K mainGlobals "MOST_LEAST_LENGTH" = some (some (.int (20) t2)))
    (g3 : PySem.W.nsIn K mainGlobals "MOST_JOINS" = some (some (.int (5) t3)))
    (g4 : PySem.W.nsIn K mainGlobals "MOST_TOGETHER" = some (some (.int (40) t4)))
    (g5 : PySem.W.nsIn K mainGlobals "REFUSED" = some (some (.int (-22) t5)))
    (z0 : PySem.W.nsIn K mainGlobals "enumerate" = some none)
    (z1 : PySem.W.nsIn K mainGlobals "len" = some none)
    (z2 : PySem.W.nsIn K mainGlobals "max" = some none)
    (z3 : PySem.W.nsIn K mainGlobals "min" = some none)
    : ∃ fd : FuncData, (∀ (s : Shared) (us : List Value), us.length = (["lo", "hi", "p", "j", "n", "sections"] : List Str).length → BindsTo s fd ⟨us, []⟩ ((["lo", "hi", "p", "j", "n", "sections"] : List Str).zip us)) ∧ ∀ base : Heap, K.In base → base.Ns mainGlobals mg → FnOk P w K mg base CX0 4 fa fd ["lo", "hi", "p", "j", "n", "sections"] (sp_rolls K) := by
  have e := hfa.symm.trans (PySem.W.mg_of X G a9)
  cases e
  have T : Txt K mg := ⟨⟨_, PySem.W.mg_of X G g0⟩, ⟨_, PySem.W.mg_of X G g1⟩, ⟨_, PySem.W.mg_of X G g2⟩, ⟨_, PySem.W.mg_of X G g3⟩, ⟨_, PySem.W.mg_of X G g4⟩, ⟨_, PySem.W.mg_of X G g5⟩, PySem.W.mg_none_of X G z0, PySem.W.mg_none_of X G z1, PySem.W.mg_none_of X G z2, PySem.W.mg_none_of X G z3⟩
  have F0 := fun_mk (st := s_is_web) l0 c0 k0
  have b0 := F0.binds (ps := ["sections"]) fun _ _ _ _ _ _ us hl => match us, hl with | [_], _ => rfl
  have F1 := fun_mk (st := s_are_limits) l1 c1 k1
  have b1 := F1.binds (ps := ["lo", "hi"]) fun _ _ _ _ _ _ us hl => match us, hl with | [_, _], _ => rfl
  have F2 := fun_mk (st := s_is_least_length) l2 c2 k2
  have b2 := F2.binds (ps := ["p"]) fun _ _ _ _ _ _ us hl => match us, hl with | [_], _ => rfl
  have F3 := fun_mk (st := s_are_roll_numbers) l3 c3 k3
  have b3 := F3.binds (ps := ["j", "n"]) fun _ _ _ _ _ _ us hl => match us, hl with | [_, _], _ => rfl
  have F4 := fun_mk (st := s_is_good) l4 c4 k4
  have b4 := F4.binds (ps := ["lo", "hi", "measured"]) fun _ _ _ _ _ _ us hl => match us, hl with | [_, _, _], _ => rfl
  have F5 := fun_mk (st := s_split_at_gaps) l5 c5 k5
  have b5 := F5.binds (ps := ["places"]) fun _ _ _ _ _ _ us hl => match us, hl with | [_], _ => rfl
  have F6 := fun_mk (st := s_find_long_runs) l6 c6 k6
  have b6 := F6.binds (ps := ["lo", "hi", "p", "sections"]) fun _ _ _ _ _ _ us hl => match us, hl with | [_, _, _, _], _ => rfl
  have F7 := fun_mk (st := s_find_usable) l7 c7 k7
  have b7 := F7.binds (ps := ["lo", "hi", "p", "sections"]) fun _ _ _ _ _ _ us hl => match us, hl with | [_, _, _, _], _ => rfl
  have F8 := fun_mk (st := s_may_be_cut) l8 c8 k8
  have b8 := F8.binds (ps := ["p", "j", "roll"]) fun _ _ _ _ _ _ us hl => match us, hl with | [_, _, _], _ => rfl
  have F9 := fun_mk (st := s_rolls) l9 c9 k9
  have b9 := F9.binds (ps := ["lo", "hi", "p", "j", "n", "sections"]) fun _ _ _ _ _ _ us hl => match us, hl with | [_, _, _, _, _, _], _ => rfl
  refine ⟨PySem.W.fnOf "rolls" "rolls" (defArgs s_rolls) (defBody s_rolls) (defScope s_rolls) .none kV9 dc9 pm9 an9 cd9 ct9, fun s us hu => match us, hu with | [_, _, _, _, _, _], _ => .of_eq rfl, fun base _ _ => ?_⟩
  have O_is_good : Own P w K mg base 1 "is_good" ["lo", "hi", "measured"] (sp_is_good K) := ⟨f4, _, ok_is_good F4 T, PySem.W.mg_of X G a4, k4, b4⟩
  have O_split_at_gaps : Own P w K mg base 1 "split_at_gaps" ["places"] (sp_split_at_gaps K) := ⟨f5, _, ok_split_at_gaps F5 T, PySem.W.mg_of X G a5, k5, b5⟩
  have O_find_long_runs : Own P w K mg base 2 "find_long_runs" ["lo", "hi", "p", "sections"] (sp_find_long_runs K) := ⟨f6, _, ok_find_long_runs F6 T O_is_good O_split_at_gaps, PySem.W.mg_of X G a6, k6, b6⟩
  have O_find_usable : Own P w K mg base 3 "find_usable" ["lo", "hi", "p", "sections"] (sp_find_usable K) := ⟨f7, _, ok_find_usable F7 T O_find_long_runs, PySem.W.mg_of X G a7, k7, b7⟩
  have O_may_be_cut : Own P w K mg base 2 "may_be_cut" ["p", "j", "roll"] (sp_may_be_cut K) := ⟨f8, _, ok_may_be_cut F8 T O_split_at_gaps, PySem.W.mg_of X G a8, k8, b8⟩
  have O_is_web : Own P w K mg base 1 "is_web" ["sections"] (sp_is_web K) := ⟨f0, _, ok_is_web F0 T, PySem.W.mg_of X G a0, k0, b0⟩
  have O_are_limits : Own P w K mg base 1 "are_limits" ["lo", "hi"] (sp_are_limits K) := ⟨f1, _, ok_are_limits F1 T, PySem.W.mg_of X G a1, k1, b1⟩
  have O_is_least_length : Own P w K mg base 1 "is_least_length" ["p"] (sp_is_least_length K) := ⟨f2, _, ok_is_least_length F2 T, PySem.W.mg_of X G a2, k2, b2⟩
  have O_are_roll_numbers : Own P w K mg base 1 "are_roll_numbers" ["j", "n"] (sp_are_roll_numbers K) := ⟨f3, _, ok_are_roll_numbers F3 T, PySem.W.mg_of X G a3, k3, b3⟩
  exact ok_rolls F9 T O_find_usable O_may_be_cut O_is_web O_are_limits O_is_least_length O_are_roll_numbers
end By
open PySem PySem.W PyProof.Rows
set_option maxRecDepth 100000 in
set_option maxHeartbeats 8000000 in
theorem PySem.Challenge.cw_paperweb_s04_rolls_holds : PySem.Challenge.rw_paperweb_s04_rolls.Holds := by
  w_on; k_headS; (case hw => exact ⟨[.int 0, .int 0, .int 0, .int 0, .int 0, .list []], by decide +kernel, by decide +kernel⟩)
  k_fillS
  refine L2.walk_specK (r := PySem.Challenge.rw_paperweb_s04_rolls) (k := 4) (CX := L2.CX0) (ps := ["lo", "hi", "p", "j", "n", "sections"]) (sp := By.sp_rolls) (by decide +kernel) rfl rfl ⟨rfl, by decide, by decide⟩ (fun w h Y => PySem.W.kIn_of Y) ?F ?S (fun _ _ _ _ z => z)
  case F =>
    intro w mg fa h Y KX G hmg
    refine' By.all_mk KX G hmg ?ya0 ?yl0 ?yc0 ?yk0 ?ya1 ?yl1 ?yc1 ?yk1 ?ya2 ?yl2 ?yc2 ?yk2 ?ya3 ?yl3 ?yc3 ?yk3 ?ya4 ?yl4 ?yc4 ?yk4 ?ya5 ?yl5 ?yc5 ?yk5 ?ya6 ?yl6 ?yc6 ?yk6 ?ya7 ?yl7 ?yc7 ?yk7 ?ya8 ?yl8 ?yc8 ?yk8 ?ya9 ?yl9 ?yc9 ?yk9 ?yg0 ?yg1 ?yg2 ?yg3 ?yg4 ?yg5 ?yz0 ?yz1 ?yz2 ?yz3
    (case ya0 => k_is)
    (case yl0 => k_is)
    (case yc0 => k_is)
    (case yk0 => k_is)
    (case ya1 => k_is)
    (case yl1 => k_is)
    (case yc1 => k_is)
    (case yk1 => k_is)
    (case ya2 => k_is)
    (case yl2 => k_is)
    (case yc2 => k_is)
    (case yk2 => k_is)
    (case ya3 => k_is)
    (case yl3 => k_is)
    (case yc3 => k_is)
    (case yk3 => k_is)
    (case ya4 => k_is)
    (case yl4 => k_is)
    (case yc4 => k_is)
    (case yk4 => k_is)
    (case ya5 => k_is)
    (case yl5 => k_is)
    (case yc5 => k_is)
    (case yk5 => k_is)
    (case ya6 => k_is)
    (case yl6 => k_is)
    (case yc6 => k_is)
    (case yk6 => k_is)
    (case ya7 => k_is)
    (case yl7 => k_is)
    (case yc7 => k_is)
    (case yk7 => k_is)
    (case ya8 => k_is)
    (case yl8 => k_is)
    (case yc8 => k_is)
    (case yk8 => k_is)
    (case ya9 => k_is)
    (case yl9 => k_is)
    (case yc9 => k_is)
    (case yk9 => k_is)
    (case yg0 => k_is)
    (case yg1 => k_is)
    (case yg2 => k_is)
    (case yg3 => k_is)
    (case yg4 => k_is)
    (case yg5 => k_is)
    (case yz0 => k_is)
    (case yz1 => k_is)
    (case yz2 => k_is)
    (case yz3 => k_is)
  case S =>
    intro K H xs a hO hwi hask hx
    obtain ⟨lo, hi, p, j, n, ns, u⟩ := a
    have w1 : (Codec.inInt (Int.ofNat 0) (Int.ofNat 4294967295) lo && (Codec.inInt (Int.ofNat 0) (Int.ofNat 4294967295) hi && (Codec.inInt (Int.ofNat 0) (Int.ofNat 4294967295) p && (Codec.inInt (Int.ofNat 0) (Int.ofNat 4294967295) j && (Codec.inInt (Int.ofNat 0) (Int.ofNat 4294967295) n && ((Codec.inLen 0 44 ns && ns.all (Codec.inInt (Int.ofNat 0) (Int.ofNat 4294967295))) && true)))))) = true := hwi
    simp only [Bool.and_eq_true, Codec.inInt_iff, List.all_eq_true, and_true] at w1
    obtain ⟨⟨b0, _⟩, ⟨b1, _⟩, ⟨b2, _⟩, ⟨b3, _⟩, ⟨b4, _⟩, bl, bs⟩ := w1
    have bl' : ns.length ≤ 44 := (Codec.inNat_iff.mp bl).2
    have hx' : L2.DwAll K H xs [WData.int lo, WData.int hi, WData.int p, WData.int j, WData.int n, WData.list (ns.map WData.int)] := hx
    cases hx' with
    | cons x0 hx =>
    cases hx with
    | cons x1 hx =>
    cases hx with
    | cons x2 hx =>
    cases hx with
    | cons x3 hx =>
    cases hx with
    | cons x4 hx =>
    cases hx with
    | cons x5 hx =>
    cases hx
    cases x0
    cases x1
    cases x2
    cases x3
    cases x4
    cases x5 with
    | lst hs ha =>
    have e := L2.ints_dw ns _ ha
    subst e
    exact ⟨lo, hi, p, j, n, _, ns, rfl, hs, bl', b0, b1, b2, b3, b4, fun x hx => (bs x hx).1, fun q H' hq => .lst (L2.SqL.of hq) (L2.dw_ints _)⟩
#print axioms PySem.Challenge.cw_paperweb_s04_rolls_holds
