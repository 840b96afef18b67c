/-
  What comes out of a heap is in order: plain mathematics.
-/
import Derived.Test.YtlodenfdcckemaaGreatDoorOrder
namespace Go.Proofs.YtlodenfdcckemaaGreatDoor

/-- The item at a place. -/
def at0 (l : List Itm) (i : Nat) : Itm := l.getD i (0, 0)

theorem ahead_asymm {a b : Itm} (h : aheadOf a b = true) : aheadOf b a = false := by
  simp only [aheadOf, Bool.or_eq_true, Bool.and_eq_true, decide_eq_true_eq, beq_iff_eq] at h
  simp only [aheadOf, Bool.or_eq_false_iff, Bool.and_eq_false_iff, decide_eq_false_iff_not, beq_eq_false_iff_ne, ne_eq]
  omega
theorem ahead_trans {a b c : Itm} (h : aheadOf a b = true) (k : aheadOf b c = true) : aheadOf a c = true := by
  simp only [aheadOf, Bool.or_eq_true, Bool.and_eq_true, decide_eq_true_eq, beq_iff_eq] at *
  omega
theorem not_trans {a b c : Itm} (h : aheadOf a b = false) (k : aheadOf b c = false) : aheadOf a c = false := by
  simp only [aheadOf, Bool.or_eq_false_iff, Bool.and_eq_false_iff, decide_eq_false_iff_not, beq_eq_false_iff_ne, ne_eq] at *
  omega
theorem ahead_irrefl (a : Itm) : aheadOf a a = false := by simp [aheadOf]
theorem ahead_antisymm {a b : Itm} (h : aheadOf a b = false) (k : aheadOf b a = false) : a = b := by
  obtain ⟨x, p⟩ := a
  obtain ⟨y, q⟩ := b
  simp only [aheadOf, Bool.or_eq_false_iff, Bool.and_eq_false_iff, decide_eq_false_iff_not, beq_eq_false_iff_ne, ne_eq] at *
  simp only [Prod.mk.injEq]
  omega

theorem at0_swap {l : List Itm} {a b : Nat} (ha : a < l.length) (hb : b < l.length) (hab : a ≠ b) (i : Nat) : at0 (swapL l a b) i = if i = a then at0 l b else if i = b then at0 l a else at0 l i := by
  unfold at0 swapL
  simp only [List.getD_eq_getElem?_getD, List.getElem?_set]
  by_cases h1 : i = a
  · subst h1
    simp [Ne.symm hab, ha]
  · by_cases h2 : i = b
    · subst h2
      simp [h1, hb]
    · simp [h1, h2, Ne.symm h1, Ne.symm h2]

theorem swap_perm {l : List Itm} {a b : Nat} (ha : a < l.length) (hb : b < l.length) : (swapL l a b).Perm l := by
  unfold swapL
  rw [getD_lt _ _ _ hb, getD_lt _ _ _ ha]
  exact List.set_set_perm ha hb

/-- No item is ahead of the one above it. -/
def IsHeap (l : List Itm) : Prop := ∀ i, 0 < i → i < l.length → aheadOf (at0 l i) (at0 l ((i - 1) / 2)) = false

structure Rising (l : List Itm) (k : Nat) : Prop where
  rest : ∀ i, 0 < i → i < l.length → i ≠ k → aheadOf (at0 l i) (at0 l ((i - 1) / 2)) = false
  kids : ∀ c, 0 < c → c < l.length → (c - 1) / 2 = k → 0 < k → aheadOf (at0 l c) (at0 l ((k - 1) / 2)) = false

theorem rise_heap : ∀ (f : Nat) (l : List Itm) (k : Nat), k < f → k < l.length → Rising l k → IsHeap (riseL f l k) ∧ (riseL f l k).Perm l
  | 0, l, k, h, _, _ => by omega
  | f + 1, l, k, hf, hk, hR => by
    unfold riseL
    by_cases h0 : k = 0
    · rw [if_pos h0]
      exact ⟨fun i hi hl => hR.rest i hi hl (by omega), List.Perm.refl _⟩
    · rw [if_neg h0]
      have hp : (k - 1) / 2 < k := by omega
      generalize hpp : (k - 1) / 2 = p at *
      by_cases ha : aheadOf (l.getD k (0, 0)) (l.getD p (0, 0)) = true
      · rw [if_pos ha]
        change aheadOf (at0 l k) (at0 l p) = true at ha
        have hpl : p < l.length := by omega
        have hne : k ≠ p := by omega
        have hsw := at0_swap hk hpl hne
        have hnew : Rising (swapL l k p) p := by
          constructor
          · intro i hi hl hip
            rw [swapL_length] at hl
            rw [hsw i, hsw ((i - 1) / 2)]
            by_cases hik : i = k
            · subst hik
              rw [if_pos rfl, hpp, if_neg (by omega), if_pos rfl]
              exact ahead_asymm ha
            · rw [if_neg hik, if_neg hip]
              by_cases h1 : (i - 1) / 2 = k
              · rw [if_pos h1]
                have := hR.kids i hi hl h1 (by omega)
                rwa [hpp] at this
              · rw [if_neg h1]
                by_cases h2 : (i - 1) / 2 = p
                · rw [if_pos h2]
                  have hx := hR.rest i hi hl hik
                  rw [h2] at hx
                  cases hy : aheadOf (at0 l i) (at0 l k)
                  · rfl
                  · rw [ahead_trans hy ha] at hx; cases hx
                · rw [if_neg h2]
                  exact hR.rest i hi hl hik
          · intro c hc hl hcp hp0
            rw [swapL_length] at hl
            rw [hsw c, hsw ((p - 1) / 2), if_neg (show (p - 1) / 2 ≠ k by omega), if_neg (show (p - 1) / 2 ≠ p by omega)]
            have hpr := hR.rest p hp0 hpl (Ne.symm hne)
            by_cases hck : c = k
            · rw [if_pos hck]; exact hpr
            · rw [if_neg hck, if_neg (show c ≠ p by omega)]
              have hx := hR.rest c hc hl hck
              rw [hcp] at hx
              exact not_trans hx hpr
        obtain ⟨h1, h2⟩ := rise_heap f (swapL l k p) p (by omega) (by rw [swapL_length]; exact hpl) hnew
        exact ⟨h1, h2.trans (swap_perm hk hpl)⟩
      · rw [if_neg ha]
        refine ⟨fun i hi hl => ?_, List.Perm.refl _⟩
        by_cases hik : i = k
        · subst hik
          rw [hpp]
          simpa [at0] using ha
        · exact hR.rest i hi hl hik

structure Sinking (l : List Itm) (k : Nat) : Prop where
  rest : ∀ i, 0 < i → i < l.length → (i - 1) / 2 ≠ k → aheadOf (at0 l i) (at0 l ((i - 1) / 2)) = false
  kids : ∀ c, 0 < c → c < l.length → (c - 1) / 2 = k → 0 < k → aheadOf (at0 l c) (at0 l ((k - 1) / 2)) = false

/-- The place that goes up: not behind any of the three. -/
theorem fore_best (l : List Itm) (k : Nat) (hk : k < l.length) : ∀ c, c < l.length → (c = k ∨ c = 2 * k + 1 ∨ c = 2 * k + 2) → aheadOf (at0 l c) (at0 l (foreL l k (foreL l (2 * k + 1) (2 * k + 2)))) = false := by
  intro c hc h
  have key : ∀ a b, (b < l.length → a < l.length) → (∀ c, c < l.length → (c = a ∨ c = b) → aheadOf (at0 l c) (at0 l (foreL l a b)) = false ∨ l.length ≤ foreL l a b) := by
    intro a b hab c hc hcc
    unfold foreL
    by_cases hb : b < l.length ∧ aheadOf (l.getD b (0, 0)) (l.getD a (0, 0)) = true
    · rw [if_pos hb]
      left
      rcases hcc with rfl | rfl
      · exact ahead_asymm hb.2
      · exact ahead_irrefl _
    · rw [if_neg hb]
      rcases hcc with rfl | rfl
      · left; exact ahead_irrefl _
      · left
        have : ¬ aheadOf (l.getD c (0, 0)) (l.getD a (0, 0)) = true := fun e => hb ⟨hc, e⟩
        simpa [at0] using this
  have h1 := key (2 * k + 1) (2 * k + 2) (by omega)
  have hm : foreL l (2 * k + 1) (2 * k + 2) = 2 * k + 1 ∨ (foreL l (2 * k + 1) (2 * k + 2) = 2 * k + 2 ∧ 2 * k + 2 < l.length) := by
    unfold foreL
    split
    · rename_i h; exact Or.inr ⟨rfl, h.1⟩
    · exact Or.inl rfl
  generalize foreL l (2 * k + 1) (2 * k + 2) = m at *
  have h2 := key k m (by omega)
  have hn : foreL l k m < l.length := by unfold foreL; split <;> omega
  rcases h with rfl | h
  · rcases h2 c hc (Or.inl rfl) with h | h
    · exact h
    · omega
  · have hml : m < l.length ∨ l.length ≤ m := by omega
    rcases hml with hml | hml
    · have hmx := (h2 m hml (Or.inr rfl)).resolve_right (by omega)
      have hcx := (h1 c hc h).resolve_right (by omega)
      exact not_trans hcx hmx
    · omega

theorem sink_heap : ∀ (f : Nat) (l : List Itm) (k : Nat), l.length ≤ k + f → k < l.length → Sinking l k → IsHeap (sinkL f l k) ∧ (sinkL f l k).Perm l
  | 0, l, k, h, hk, _ => by omega
  | f + 1, l, k, hf, hk, hS => by
    unfold sinkL
    have hbest := fore_best l k hk
    have hlt := foreL_lt l k hk
    have hw : foreL l k (foreL l (2 * k + 1) (2 * k + 2)) = k ∨ ((foreL l k (foreL l (2 * k + 1) (2 * k + 2)) - 1) / 2 = k ∧ 0 < foreL l k (foreL l (2 * k + 1) (2 * k + 2)) ∧ foreL l k (foreL l (2 * k + 1) (2 * k + 2)) ≠ k) := by
      unfold foreL
      repeat' split
      all_goals omega
    generalize foreL l k (foreL l (2 * k + 1) (2 * k + 2)) = x at *
    by_cases hx : x = k
    · rw [if_pos hx]
      subst hx
      refine ⟨fun i hi hl => ?_, List.Perm.refl _⟩
      by_cases hp : (i - 1) / 2 = x
      · rw [hp]; exact hbest i hl (by omega)
      · exact hS.rest i hi hl hp
    · rw [if_neg hx]
      obtain ⟨hxp, hx0, _⟩ := hw.resolve_left hx
      have hsw := at0_swap hk hlt (Ne.symm hx)
      have hkx := hbest k hk (Or.inl rfl)
      have hnew : Sinking (swapL l k x) x := by
        constructor
        · intro i hi hl hip
          rw [swapL_length] at hl
          rw [hsw i, hsw ((i - 1) / 2)]
          by_cases hik : i = k
          · rw [if_pos hik, if_neg (show (i - 1) / 2 ≠ k by omega), if_neg hip, hik]
            exact hS.kids x hx0 hlt hxp (by omega)
          · rw [if_neg hik]
            by_cases hix : i = x
            · rw [if_pos hix, hix, hxp, if_pos rfl]; exact hkx
            · rw [if_neg hix]
              by_cases hpk : (i - 1) / 2 = k
              · rw [if_pos hpk]; exact hbest i hl (by omega)
              · rw [if_neg hpk, if_neg hip]; exact hS.rest i hi hl hpk
        · intro c hc hl hcx hx0'
          rw [swapL_length] at hl
          rw [hsw c, hsw ((x - 1) / 2), hxp, if_pos rfl, if_neg (show c ≠ k by omega), if_neg (show c ≠ x by omega)]
          have := hS.rest c hc hl (by omega)
          rwa [hcx] at this
      obtain ⟨h1, h2⟩ := sink_heap f (swapL l k x) x (by rw [swapL_length]; omega) (by rw [swapL_length]; exact hlt) hnew
      exact ⟨h1, h2.trans (swap_perm hk hlt)⟩

theorem heap_top {l : List Itm} (h : IsHeap l) : ∀ (f i : Nat), i < f → i < l.length → aheadOf (at0 l i) (at0 l 0) = false
  | 0, i, hi, _ => by omega
  | f + 1, i, hi, hl => by
    by_cases h0 : i = 0
    · subst h0; exact ahead_irrefl _
    · exact not_trans (h i (by omega) hl) (heap_top h f ((i - 1) / 2) (by omega) (by omega))

theorem at0_append_left {l m : List Itm} {i : Nat} (h : i < l.length) : at0 (l ++ m) i = at0 l i := by
  unfold at0; simp [List.getElem?_append, h]

theorem built_heap (wt : Nat → Nat) : ∀ i, IsHeap (built wt i) ∧ (built wt i).Perm ((List.range i).map fun (j : Nat) => (((j : Int) + 1, wt j) : Itm))
  | 0 => ⟨fun i h1 h2 => by simp [built] at h2, by simp [built]⟩
  | i + 1 => by
    obtain ⟨h1, h2⟩ := built_heap wt i
    have hl := built_length wt i
    have hR : Rising (built wt i ++ [((i : Int) + 1, wt i)]) i := by
      constructor
      · intro j hj hjl hne
        simp [hl] at hjl
        rw [at0_append_left (by omega), at0_append_left (by omega)]
        exact h1 j hj (by omega)
      · intro c hc hcl hci _
        simp [hl] at hcl
        omega
    obtain ⟨h3, h4⟩ := rise_heap (i + 1) _ i (by omega) (by simp [hl]) hR
    refine ⟨h3, h4.trans ?_⟩
    rw [List.range_succ, List.map_append]
    exact List.Perm.append h2 (List.Perm.refl _)

theorem pop_perm {l : List Itm} (h : 0 < l.length) : (at0 l 0 :: popL l).Perm l := by
  match l, h with
  | [a], _ => simp [popL, at0]
  | a :: b :: r, _ =>
    have e : popL (a :: b :: r) = (b :: r).getLast (by simp) :: (b :: r).dropLast := by
      unfold popL
      simp only [List.length_cons, List.set_cons_zero, Nat.add_sub_cancel]
      rw [List.take_succ_cons]
      congr 1
      · rw [List.getLast_eq_getElem]; simp
      · rw [List.dropLast_eq_take]; simp
    rw [e]
    show (a :: _).Perm _
    refine List.Perm.cons a ?_
    have hd : (b :: r).dropLast ++ [(b :: r).getLast (by simp)] = b :: r := List.dropLast_concat_getLast (by simp)
    have hp := List.perm_append_comm (l₁ := [(b :: r).getLast (by simp)]) (l₂ := (b :: r).dropLast)
    rw [hd] at hp
    exact hp

theorem at0_pop {l : List Itm} {i : Nat} (h0 : 0 < i) (h : i < l.length - 1) : at0 (popL l) i = at0 l i := by
  unfold at0 popL
  rw [List.getD_eq_getElem?_getD, List.getElem?_take, if_pos h, List.getElem?_set_ne (by omega), ← List.getD_eq_getElem?_getD]

theorem pop_sinking {l : List Itm} (h : IsHeap l) : Sinking (popL l) 0 := by
  constructor
  · intro i hi hl hp
    rw [popL_length] at hl
    rw [at0_pop hi hl, at0_pop (by omega) (by omega)]
    exact h i hi (by omega)
  · intro c _ _ _ h0
    omega

/-- The items in the order in which they come out. -/
def drainI : Nat → List Itm → List Itm
  | 0, _ => []
  | f + 1, l => l.getD 0 (0, 0) :: drainI f (sinkL (l.length - 1) (popL l) 0)

theorem drain_fst : ∀ (f : Nat) (l : List Itm), drain f l = (drainI f l).map Prod.fst
  | 0, _ => rfl
  | f + 1, l => by rw [drain, drainI, List.map_cons, drain_fst f]

/-- Not behind. -/
def Le (a b : Itm) : Prop := aheadOf b a = false

theorem drainI_sorted : ∀ (f : Nat) (l : List Itm), l.length = f → IsHeap l → (drainI f l).Pairwise Le ∧ (drainI f l).Perm l
  | 0, l, h, _ => by
    have : l = [] := List.eq_nil_of_length_eq_zero h
    subst this
    exact ⟨List.Pairwise.nil, List.Perm.refl _⟩
  | f + 1, l, h, hH => by
    unfold drainI
    have hpos : 0 < l.length := by omega
    have hs : IsHeap (sinkL (l.length - 1) (popL l) 0) ∧ (sinkL (l.length - 1) (popL l) 0).Perm (popL l) := by
      by_cases h1 : l.length = 1
      · have : popL l = [] := List.eq_nil_of_length_eq_zero (by rw [popL_length]; omega)
        rw [this, h1]
        exact ⟨fun i _ hi => by simp [sinkL] at hi, List.Perm.refl _⟩
      · exact sink_heap _ _ 0 (by rw [popL_length]; omega) (by rw [popL_length]; omega) (pop_sinking hH)
    obtain ⟨h2, h3⟩ := drainI_sorted f _ (by rw [sinkL_length, popL_length]; omega) hs.1
    have hperm : (at0 l 0 :: drainI f (sinkL (l.length - 1) (popL l) 0)).Perm l := (List.Perm.cons _ (h3.trans hs.2)).trans (pop_perm hpos)
    refine ⟨List.pairwise_cons.2 ⟨fun b hb => ?_, h2⟩, hperm⟩
    have hbl : b ∈ l := hperm.mem_iff.1 (List.mem_cons_of_mem _ hb)
    obtain ⟨i, hi, rfl⟩ := List.mem_iff_getElem.1 hbl
    have := heap_top hH (i + 1) i (by omega) hi
    unfold Le
    rw [at0, getD_lt _ _ _ hi] at this
    exact this

/-- What the program's order is, whatever the heap did: the one list in order. -/
theorem drain_eq (wt : Nat → Nat) (n : Nat) (out : List Nat) (hn : out.Nodup) (hm : ∀ i, i ∈ out ↔ i < n) (hp : (out.map fun (j : Nat) => (((j : Int) + 1, wt j) : Itm)).Pairwise Le) :
    drain n (built wt n) = out.map fun (j : Nat) => (j : Int) + 1 := by
  obtain ⟨h1, h2⟩ := built_heap wt n
  obtain ⟨h3, h4⟩ := drainI_sorted n (built wt n) (built_length wt n) h1
  have hperm : out.Perm (List.range n) := (List.perm_ext_iff_of_nodup hn List.nodup_range).2 (fun a => by rw [hm, List.mem_range])
  have he : drainI n (built wt n) = out.map fun (j : Nat) => (((j : Int) + 1, wt j) : Itm) :=
    List.Perm.eq_of_pairwise (fun a b _ _ hab hba => ahead_antisymm hba hab) h3 hp ((h4.trans h2).trans (hperm.map _).symm)
  rw [drain_fst, he, List.map_map]
  rfl

end Go.Proofs.YtlodenfdcckemaaGreatDoor
