/-
  The search's steps, of no program: back, choose, what an end says.
-/
import Derived.Test.YtomebpjjeldhdaaDoorSeaL
namespace Go.Proofs.YtomebpjjeldhdaaDoor

/-- The level to go back to. -/
def backLev (L c : Nat) : List Pk → Nat
  | [] => 0
  | p :: P => if p.lev < L ∧ within (opp p.lit) c = true then p.lev else backLev L c P

def popTo (to : Nat) : List Pk → List Pk
  | [] => []
  | p :: P => if to < lv (p :: P) then popTo to P else p :: P

theorem popTo_split (to : Nat) : ∀ P : List Pk, ∃ A, P = A ++ popTo to P
  | [] => ⟨[], rfl⟩
  | p :: P => by
    rw [popTo]
    split
    · obtain ⟨A, h⟩ := popTo_split to P
      exact ⟨p :: A, by rw [List.cons_append, ← h]⟩
    · exact ⟨[], rfl⟩

theorem popTo_lv (to : Nat) : ∀ P : List Pk, lv (popTo to P) ≤ to
  | [] => Nat.zero_le _
  | p :: P => by
    rw [popTo]
    split
    · exact popTo_lv to P
    · omega

theorem backLev_some {V : Nat} (hV : V ≤ 20) {D : Nat → Prop} (L c : Nat) (hc : c < 2 ^ (2 * V)) : ∀ {P : List Pk}, Trail V D P → 0 < backLev L c P → ∃ p ∈ P, p.lev = backLev L c P ∧ p.lev < L ∧ ∃ n, p.lit = 2 ^ n ∧ c.testBit (mir n) = true
  | [], _, h => by simp [backLev] at h
  | p :: P, hT, h => by
    rw [backLev] at h ⊢
    split
    · rename_i hp
      obtain ⟨n, hn, e⟩ := hT.lit List.mem_cons_self
      rw [e] at hp
      exact ⟨p, List.mem_cons_self, rfl, hp.1, n, e, (within_opp hV hn hc).1 hp.2⟩
    · rename_i hp
      rw [if_neg hp] at h
      obtain ⟨q, hq, h1⟩ := backLev_some hV L c hc hT.1 h
      exact ⟨q, List.mem_cons_of_mem _ hq, h1⟩

theorem Rest.drop {K : List Nat} {A P : List Pk} (h : Rest K (A ++ P)) : Rest K P := fun B c Q e => h (A ++ B) c Q (by rw [e, List.append_assoc])

/-- Back behind a lemma: ahead of each choice that is left the lemma brings nothing. -/
theorem Lem.rest {V : Nat} (hV : V ≤ 20) {C : List (List Int)} {K : List Nat} {P : List Pk} {c : Nat} (hT : Trail V (Known V C) P) (hR : Rest K P) (h : Lem V C K P c) (hL : 0 < lv P) : Rest (addTo K c) (popTo (backLev (lv P) c P) P) := by
  obtain ⟨A, eA⟩ := popTo_split (backLev (lv P) c P) P
  have hlv := popTo_lv (backLev (lv P) c P) P
  generalize eto : backLev (lv P) c P = to at *
  generalize popTo to P = P1 at *
  have hR1 : Rest K P1 := by rw [eA] at hR; exact hR.drop
  intro B ch Q eB hch k hk
  have hin : k ∈ K ∨ k = c := by
    unfold addTo at hk
    split at hk
    · exact .inl hk
    · split at hk
      · exact .inl hk
      · rcases List.mem_append.1 hk with hk | hk
        · exact .inl (List.mem_filter.1 hk).1
        · exact .inr (List.mem_singleton.1 hk)
  rcases hin with hin | rfl
  · exact hR1 B ch Q eB hch k hin
  · have eQ : P = (A ++ B ++ [ch]) ++ Q := by rw [eA, eB]; simp
    have hTQ : Trail V (Known V C) Q := by rw [eQ] at hT; exact hT.drop
    have hlq : lv Q + 1 ≤ to := by
      have : lv (ch :: Q) = lv Q + 1 := by rw [lv, if_pos hch]
      have h2 := lv_append B (ch :: Q)
      rw [← eB] at h2
      omega
    obtain ⟨p, hp, hpl, hplt, n, epn, hcn⟩ := backLev_some hV (lv P) k h.small hT (by omega)
    rw [eto] at hpl
    obtain ⟨u, hu, ⟨pu, hpu, epu, hlu⟩, -⟩ := h.last hL
    have hopen : ∀ q ∈ P, ∀ j, q.lit = 2 ^ j → lv Q < q.lev → k.testBit (mir j) = true → (openOf k (truthOf Q)).testBit (mir j) = true := fun q hq j ej hl hb => by
      rw [openOf_bit hV h.small hTQ.small, hb, mir_mir]
      simp only [Bool.true_and, Bool.not_eq_true']
      refine bool_false fun hx => ?_
      obtain ⟨q', hq', e'⟩ := hTQ.pick hx
      have : q = q' := hT.same hq (by rw [eQ]; simp [hq']) (by rw [ej, e'])
      have h2 := hTQ.level hq'
      rw [this] at hl
      omega
    have o1 := hopen p hp n epn (by omega) hcn
    have o2 := hopen pu hpu (mir u) epu (by omega) (by rw [mir_mir]; exact hu)
    rw [mir_mir] at o2
    refine ⟨fun e => by rw [e] at o1; simp at o1, fun hs => ?_⟩
    have := single_one (lt64 hV (dif_lt h.small)) hs o1 o2
    have hpp : p.lit = pu.lit := by rw [epn, epu, ← this, mir_mir]
    have := hT.same hp hpu hpp
    rw [this] at hplt
    omega

/-- Sets without opposites, numbered: of each variable none, the one, or the other. -/
def dec : Nat → Nat → Nat
  | 0, _ => 0
  | V + 1, n => dec V (n % 3 ^ V) ||| (if n / 3 ^ V = 0 then 0 else if n / 3 ^ V = 1 then 2 ^ (2 * V) else 2 ^ (2 * V + 1))

theorem dec_lt : ∀ (V n : Nat), dec V n < 2 ^ (2 * V)
  | 0, _ => by simp [dec]
  | V + 1, n => by
    rw [dec]
    have h1 := dec_lt V (n % 3 ^ V)
    have h2 : 2 ^ (2 * V) < 2 ^ (2 * (V + 1)) := Nat.pow_lt_pow_right (by decide) (by omega)
    refine Nat.or_lt_two_pow (Nat.lt_trans h1 h2) ?_
    split
    · exact Nat.two_pow_pos _
    · split
      · exact h2
      · exact Nat.pow_lt_pow_right (by decide) (by omega)

theorem dec_all : ∀ (V c : Nat), c < 2 ^ (2 * V) → (∀ n, c.testBit n = true → c.testBit (mir n) = false) → ∃ n, n < 3 ^ V ∧ dec V n = c
  | 0, c, h, _ => ⟨0, by simp, by simp at h; simp [dec, h]⟩
  | V + 1, c, h, ha => by
    have hlow : c % 2 ^ (2 * V) < 2 ^ (2 * V) := Nat.mod_lt _ (Nat.two_pow_pos _)
    have hbit : ∀ n, (c % 2 ^ (2 * V)).testBit n = (decide (n < 2 * V) && c.testBit n) := fun n => Nat.testBit_mod_two_pow c (2 * V) n
    obtain ⟨m, hm, em⟩ := dec_all V (c % 2 ^ (2 * V)) hlow (fun n hn => by
      rw [hbit] at hn ⊢
      rw [Bool.and_eq_true] at hn
      rw [ha n hn.2]; simp)
    have hhi : ∀ n, c.testBit n = true → n < 2 * V ∨ n = 2 * V ∨ n = 2 * V + 1 := fun n hn => by
      have := bit_lt h hn
      omega
    have hno : ¬ (c.testBit (2 * V) = true ∧ c.testBit (2 * V + 1) = true) := fun ⟨h1, h2⟩ => by
      have := ha _ h1
      unfold mir at this
      rw [if_pos (by omega), h2] at this
      cases this
    have build : ∀ d : Nat, d < 3 → (c = (c % 2 ^ (2 * V)) ||| (if d = 0 then 0 else if d = 1 then 2 ^ (2 * V) else 2 ^ (2 * V + 1))) → ∃ n, n < 3 ^ (V + 1) ∧ dec (V + 1) n = c := fun d hd e => by
      refine ⟨d * 3 ^ V + m, ?_, ?_⟩
      · rw [Nat.pow_succ]
        have : d * 3 ^ V ≤ 2 * 3 ^ V := Nat.mul_le_mul_right _ (by omega)
        omega
      · have h0 : 0 < 3 ^ V := Nat.pow_pos (by decide)
        have e1 : (d * 3 ^ V + m) % 3 ^ V = m := by rw [Nat.mul_comm, Nat.mul_add_mod, Nat.mod_eq_of_lt hm]
        have e2 : (d * 3 ^ V + m) / 3 ^ V = d := by rw [Nat.mul_comm, Nat.mul_add_div h0, Nat.div_eq_of_lt hm, Nat.add_zero]
        rw [dec, e1, e2, em]
        exact e.symm
    have eqs : ∀ x : Nat, (∀ n, n < 2 * V → x.testBit n = false) → (∀ n, 2 * V ≤ n → c.testBit n = x.testBit n) → c = (c % 2 ^ (2 * V)) ||| x := fun x h1 h2 => by
      apply Nat.eq_of_testBit_eq
      intro n
      rw [Nat.testBit_or, hbit]
      by_cases hn : n < 2 * V
      · rw [h1 n hn]; simp [hn]
      · rw [h2 n (by omega)]; simp [hn]
    cases e1 : c.testBit (2 * V) with
    | true =>
      refine build 1 (by omega) (eqs _ (fun n hn => bool_false fun hb => ?_) (fun n hn => ?_))
      · simp only [Nat.one_ne_zero, if_false, if_true] at hb
        rw [two_pow_bit] at hb; omega
      · simp only [Nat.one_ne_zero, if_false, if_true]
        rw [Bool.eq_iff_iff, two_pow_bit]
        constructor
        · intro hb
          rcases hhi n hb with h3 | h3 | h3
          · omega
          · exact h3.symm
          · rw [h3] at hb; exact absurd ⟨e1, hb⟩ hno
        · rintro rfl; exact e1
    | false =>
      cases e2 : c.testBit (2 * V + 1) with
      | true =>
        refine build 2 (by omega) (eqs _ (fun n hn => bool_false fun hb => ?_) (fun n hn => ?_))
        · simp only [show ¬ (2 : Nat) = 0 by decide, show ¬ (2 : Nat) = 1 by decide, if_false] at hb
          rw [two_pow_bit] at hb; omega
        · simp only [show ¬ (2 : Nat) = 0 by decide, show ¬ (2 : Nat) = 1 by decide, if_false]
          rw [Bool.eq_iff_iff, two_pow_bit]
          constructor
          · intro hb
            rcases hhi n hb with h3 | h3 | h3
            · omega
            · rw [h3, e1] at hb; cases hb
            · exact h3.symm
          · rintro rfl; exact e2
      | false =>
        refine build 0 (by omega) ?_
        rw [if_pos rfl]
        refine eqs 0 (fun n _ => by simp) (fun n hn => ?_)
        rw [Nat.zero_testBit]
        refine bool_false fun hb => ?_
        rcases hhi n hb with h3 | h3 | h3
        · omega
        · rw [h3, e1] at hb; cases hb
        · rw [h3, e2] at hb; cases hb

/-- How many sets hold all of a kept one. -/
def cov (V : Nat) (K : List Nat) : Nat := (List.range (3 ^ V)).countP fun m => K.any fun k => within k (dec V m)

theorem cov_le (V : Nat) (K : List Nat) : cov V K ≤ 3 ^ V := by
  have := List.countP_le_length (p := fun m => K.any fun k => within k (dec V m)) (l := List.range (3 ^ V))
  rwa [List.length_range] at this

theorem countP_less {p q : Nat → Bool} : ∀ (l : List Nat), (∀ x ∈ l, q x = true → p x = true) → (∃ x ∈ l, p x = true ∧ q x = false) → l.countP q < l.countP p
  | [], _, h => by obtain ⟨x, hx, _⟩ := h; cases hx
  | y :: l, hle, h => by
    have hle' : ∀ x ∈ l, q x = true → p x = true := fun x hx => hle x (List.mem_cons_of_mem _ hx)
    have hm : l.countP q ≤ l.countP p := List.countP_mono_left hle'
    rw [List.countP_cons, List.countP_cons]
    obtain ⟨x, hx, h1, h2⟩ := h
    rcases List.mem_cons.1 hx with rfl | hx
    · simp only [h1, h2, if_true]; simp; omega
    · have := countP_less l hle' ⟨x, hx, h1, h2⟩
      have hy := hle y List.mem_cons_self
      cases hq : q y <;> cases hp : p y
      · simp; omega
      · simp; omega
      · rw [hy hq] at hp; cases hp
      · simp; omega

theorem within_self (c : Nat) (h : c < 18446744073709551616) : within c c = true := (within_iff h h).2 fun _ h => h

theorem cov_add {V : Nat} (hV : V ≤ 20) {K : List Nat} {c : Nat} (hKs : ∀ k ∈ K, k < 2 ^ (2 * V)) (hc : c < 2 ^ (2 * V)) (ha : ∀ n, c.testBit n = true → c.testBit (mir n) = false) (hcl : clash c = 0) (hf : ∀ k ∈ K, within k c = false) : cov V K < cov V (addTo K c) := by
  have hany : (K.any fun k => within k c) = false := by
    rw [List.any_eq_false]
    intro k hk; rw [hf k hk]; decide
  have e : addTo K c = K.filter (fun k => !within c k) ++ [c] := by
    unfold addTo
    rw [if_neg (by rw [hcl]; simp), if_neg (by rw [hany]; simp)]
  obtain ⟨n, hn, en⟩ := dec_all V c hc ha
  unfold cov
  refine countP_less _ (fun m _ hq => ?_) ⟨n, List.mem_range.2 hn, ?_, by rw [en]; exact hany⟩
  · rw [List.any_eq_true] at hq ⊢
    obtain ⟨k, hk, hw⟩ := hq
    have hm64 := lt64 hV (dec_lt V m)
    rw [e]
    by_cases hd : within c k = true
    · refine ⟨c, by simp, (within_iff (lt64 hV hc) hm64).2 fun n hn => ?_⟩
      exact (within_iff (lt64 hV (hKs k hk)) hm64).1 hw n ((within_iff (lt64 hV hc) (lt64 hV (hKs k hk))).1 hd n hn)
    · exact ⟨k, List.mem_append_left _ (List.mem_filter.2 ⟨hk, by simp [hd]⟩), hw⟩
  · rw [List.any_eq_true]
    exact ⟨c, by rw [e]; simp, by rw [en]; exact within_self c (lt64 hV hc)⟩

/-! Sets as lists. -/

theorem mask_list {s : Nat} (hs : s < 18446744073709551616) : maskOf (litsOf 64 s) = s := by
  apply Nat.eq_of_testBit_eq
  intro n
  rw [Bool.eq_iff_iff, maskOf_bit]
  unfold litsOf
  constructor
  · rintro ⟨l, hl, e⟩
    rw [List.mem_map] at hl
    obtain ⟨i, hi, rfl⟩ := hl
    rw [pl_atp] at e
    subst e
    exact (List.mem_filter.1 hi).2
  · intro hn
    exact ⟨atp n, List.mem_map.2 ⟨n, List.mem_filter.2 ⟨List.mem_range.2 (bit_lt (show s < 2 ^ 64 from hs) hn), hn⟩, rfl⟩, pl_atp n⟩

theorem list_lit {V s : Nat} (hs : s < 2 ^ (2 * V)) : ∀ l ∈ litsOf 64 s, IsLit V l := by
  intro l hl
  unfold litsOf at hl
  rw [List.mem_map] at hl
  obtain ⟨i, hi, rfl⟩ := hl
  exact atp_lit (bit_lt hs (List.mem_filter.1 hi).2)

theorem litsOf_two (V s : Nat) : litsOf (2 * (V + 1)) s = litsOf (2 * V) s ++ ((if s.testBit (2 * V) then [((V + 1 : Nat) : Int)] else []) ++ if s.testBit (2 * V + 1) then [-((V + 1 : Nat) : Int)] else []) := by
  unfold litsOf
  rw [show 2 * (V + 1) = 2 * V + 1 + 1 by omega, List.range_succ, List.range_succ]
  simp only [List.filter_append, List.map_append, List.append_assoc]
  congr 1
  have e1 : atp (2 * V) = ((V + 1 : Nat) : Int) := by unfold atp; split <;> omega
  have e2 : atp (2 * V + 1) = -((V + 1 : Nat) : Int) := by unfold atp; split <;> omega
  rw [List.filter_cons, List.filter_cons, List.filter_nil]
  cases s.testBit (2 * V) <;> cases s.testBit (2 * V + 1) <;> simp [e1, e2]

theorem litsOf_half (s : Nat) (h : ∀ n, s.testBit n = true → s.testBit (mir n) = false) : ∀ V, (litsOf (2 * V) s).length ≤ V
  | 0 => by simp [litsOf]
  | V + 1 => by
    rw [litsOf_two, List.length_append, List.length_append]
    have := litsOf_half s h V
    have hm : s.testBit (2 * V) = true → s.testBit (2 * V + 1) = false := fun hb => by
      have := h _ hb
      unfold mir at this
      rwa [if_pos (by omega)] at this
    cases e1 : s.testBit (2 * V) with
    | false => cases s.testBit (2 * V + 1) <;> simp <;> omega
    | true => rw [hm e1]; simp; omega

/-- An assignment as it is told. -/
def modelOf (V s : Nat) : List Int := (List.range V).map fun v => if s.testBit (2 * v) then ((v + 1 : Nat) : Int) else -((v + 1 : Nat) : Int)

theorem litsOf_model (s : Nat) : ∀ V, (∀ v, v < V → s.testBit (2 * v + 1) = !s.testBit (2 * v)) → litsOf (2 * V) s = modelOf V s
  | 0, _ => by simp [litsOf, modelOf]
  | V + 1, h => by
    rw [litsOf_two, litsOf_model s V (fun v hv => h v (by omega)), h V (by omega)]
    unfold modelOf
    rw [List.range_succ, List.map_append]
    congr 1
    cases e : s.testBit (2 * V) <;> simp [e]

end Go.Proofs.YtomebpjjeldhdaaDoor
