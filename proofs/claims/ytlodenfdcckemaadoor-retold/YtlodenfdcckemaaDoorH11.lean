/-
  Several texts, one behind the other.
-/
import Derived.Lib.TrailingZeros
/-
  Literals as places, sets of them as numbers, and what follows at once (of no program).
-/

namespace Go.Proofs.YtlodenfdcckemaaDoor

/-- The place of a literal in the row 1, -1, 2, -2, .. -/
def pl (l : Int) : Nat := if l < 0 then (2 * (-l - 1) + 1).toNat else (2 * (l - 1)).toNat
/-- The literal at a place. -/
def atp (n : Nat) : Int := if n % 2 = 1 then -((n / 2 + 1 : Nat) : Int) else ((n / 2 + 1 : Nat) : Int)
/-- The place of the opposite. -/
def mir (n : Nat) : Nat := if n % 2 = 0 then n + 1 else n - 1

/-- A literal of V variables. -/
def IsLit (V : Nat) (l : Int) : Prop := l ≠ 0 ∧ l ≤ V ∧ -(V : Int) ≤ l

theorem pl_atp (n : Nat) : pl (atp n) = n := by unfold pl atp; split <;> split <;> omega
theorem atp_pl {l : Int} (h : l ≠ 0) : atp (pl l) = l := by unfold pl atp; split <;> split <;> omega
theorem pl_inj {a b : Int} (ha : a ≠ 0) (hb : b ≠ 0) (h : pl a = pl b) : a = b := by rw [← atp_pl ha, ← atp_pl hb, h]
theorem pl_lt {V : Nat} {l : Int} (h : IsLit V l) : pl l < 2 * V := by obtain ⟨a, b, c⟩ := h; unfold pl; split <;> omega
theorem pl_neg {l : Int} (h : l ≠ 0) : pl (-l) = mir (pl l) := by unfold pl mir; split <;> split <;> split <;> omega
theorem atp_mir (n : Nat) : atp (mir n) = -atp n := by unfold atp mir; split <;> split <;> split <;> omega
theorem mir_mir (n : Nat) : mir (mir n) = n := by unfold mir; split <;> split <;> omega
theorem atp_ne (n : Nat) : atp n ≠ 0 := by unfold atp; split <;> omega
theorem atp_lit {V n : Nat} (h : n < 2 * V) : IsLit V (atp n) := by unfold IsLit atp; split <;> refine ⟨?_, ?_, ?_⟩ <;> omega
theorem IsLit.neg {V : Nat} {l : Int} (h : IsLit V l) : IsLit V (-l) := by obtain ⟨a, b, c⟩ := h; refine ⟨?_, ?_, ?_⟩ <;> omega
theorem mir_lt {V n : Nat} (h : n < 2 * V) : mir n < 2 * V := by unfold mir; split <;> omega
theorem mir_lt64 {n : Nat} (h : n < 64) : mir n < 64 := by unfold mir; split <;> omega

/-- The set of a list. -/
def maskOf : List Int → Nat
  | [] => 0
  | l :: r => 2 ^ pl l ||| maskOf r

theorem maskOf_bit (c : List Int) (n : Nat) : (maskOf c).testBit n = true ↔ ∃ l ∈ c, pl l = n := by
  induction c with
  | nil => simp [maskOf]
  | cons l r ih => simp [maskOf, Nat.testBit_or, Nat.testBit_two_pow, ih]

theorem maskOf_append (a b : List Int) : maskOf (a ++ b) = maskOf a ||| maskOf b := by
  induction a with
  | nil => simp [maskOf]
  | cons l r ih => simp [maskOf, ih, Nat.or_assoc]

theorem maskOf_lt {V : Nat} {c : List Int} (h : ∀ l ∈ c, IsLit V l) : maskOf c < 2 ^ (2 * V) := by
  apply Nat.lt_of_not_le
  intro hle
  obtain ⟨i, hi, hb⟩ := Nat.exists_ge_and_testBit_of_ge_two_pow hle
  obtain ⟨l, hl, e⟩ := (maskOf_bit c i).1 hb
  have := pl_lt (h l hl)
  omega

theorem lt64 {V s : Nat} (hV : V ≤ 20) (h : s < 2 ^ (2 * V)) : s < 18446744073709551616 := by
  have h1 : 2 ^ (2 * V) ≤ 2 ^ 64 := Nat.pow_le_pow_right (by decide) (by omega)
  have h2 : (2 : Nat) ^ 64 = 18446744073709551616 := by decide
  omega

theorem bit_lt {s k n : Nat} (h : s < 2 ^ k) (hb : s.testBit n = true) : n < k := by
  apply Nat.lt_of_not_le
  intro hle
  have : s < 2 ^ n := Nat.lt_of_lt_of_le h (Nat.pow_le_pow_right (by decide) hle)
  rw [Nat.testBit_lt_two_pow this] at hb
  exact absurd hb (by decide)

theorem lt_of_bits {s k : Nat} (h : ∀ n, s.testBit n = true → n < k) : s < 2 ^ k := by
  apply Nat.lt_of_not_le
  intro hle
  obtain ⟨i, hi, hb⟩ := Nat.exists_ge_and_testBit_of_ge_two_pow hle
  have := h i hb
  omega

theorem zero_iff_bits {s : Nat} : s = 0 ↔ ∀ n, s.testBit n = false := by
  constructor
  · rintro rfl n; simp
  · intro h; apply Nat.eq_of_testBit_eq; intro i; rw [h i]; simp

/-- a without b. -/
def dif (a b : Nat) : Nat := a &&& (18446744073709551615 - b)

theorem dif_bit {a b : Nat} (ha : a < 18446744073709551616) (hb : b < 18446744073709551616) (n : Nat) : (dif a b).testBit n = (a.testBit n && !b.testBit n) := by
  unfold dif
  rw [Nat.testBit_and, show 18446744073709551615 - b = 2 ^ 64 - (b + 1) by omega, Nat.testBit_two_pow_sub_succ (show b < 2 ^ 64 from hb)]
  by_cases h : n < 64
  · simp [h]
  · have : a.testBit n = false := by
      cases e : a.testBit n with
      | false => rfl
      | true => exact absurd (bit_lt (show a < 2 ^ 64 from ha) e) h
    simp [this]

theorem dif_lt {a b k : Nat} (h : a < 2 ^ k) : dif a b < 2 ^ k := Nat.lt_of_le_of_lt Nat.and_le_left h

/-- Is a within b? -/
def within (a b : Nat) : Bool := dif a b == 0

theorem within_iff {a b : Nat} (ha : a < 18446744073709551616) (hb : b < 18446744073709551616) : within a b = true ↔ ∀ n, a.testBit n = true → b.testBit n = true := by
  unfold within
  rw [beq_iff_eq, zero_iff_bits]
  constructor
  · intro h n hn
    have := h n
    rw [dif_bit ha hb, hn] at this
    simpa using this
  · intro h n
    rw [dif_bit ha hb]
    cases e : a.testBit n with
    | false => rfl
    | true => simp [h n e]

/-- The opposite of each. -/
def opp (s : Nat) : Nat := ((s &&& 6148914691236517205) * 2) ||| (s / 2 &&& 6148914691236517205)

theorem plain_bit : ∀ n, n < 64 → (6148914691236517205 : Nat).testBit n = decide (n % 2 = 0) := by decide

theorem plain_bit' (n : Nat) : (6148914691236517205 : Nat).testBit n = (decide (n < 64) && decide (n % 2 = 0)) := by
  by_cases h : n < 64
  · rw [plain_bit n h]; simp [h]
  · have : (6148914691236517205 : Nat).testBit n = false := Nat.testBit_lt_two_pow (Nat.lt_of_lt_of_le (show 6148914691236517205 < 2 ^ 64 by decide) (Nat.pow_le_pow_right (by decide) (by omega)))
    rw [this]; simp [h]

theorem opp_bit {s : Nat} (n : Nat) (hn : n < 64) : (opp s).testBit n = s.testBit (mir n) := by
  unfold opp
  rw [Nat.testBit_or, Nat.testBit_and, plain_bit n hn, Nat.testBit_div_two]
  have e2 : ∀ x : Nat, (x * 2).testBit n = (decide (1 ≤ n) && x.testBit (n - 1)) := fun x => by
    have := Nat.testBit_mul_two_pow x n 1
    simpa using this
  rw [e2, Nat.testBit_and, plain_bit (n - 1) (by omega)]
  unfold mir
  by_cases h : n % 2 = 0
  · by_cases h0 : n = 0
    · subst h0; simp
    · have : ¬ (n - 1) % 2 = 0 := by omega
      simp [h, this]
  · have h1 : (n - 1) % 2 = 0 := by omega
    have h2 : 1 ≤ n := by omega
    simp [h, h1, h2]

theorem opp_lt {V s : Nat} (_hV : V ≤ 20) (hs : s < 2 ^ (2 * V)) : opp s < 2 ^ (2 * V) := by
  apply lt_of_bits
  intro n hn
  have h64 : n < 64 := by
    have : opp s < 2 ^ 64 := by
      unfold opp
      have h1 : s &&& 6148914691236517205 ≤ 6148914691236517205 := Nat.and_le_right
      have h2 : s / 2 &&& 6148914691236517205 ≤ 6148914691236517205 := Nat.and_le_right
      exact Nat.or_lt_two_pow (by omega) (by omega)
    exact bit_lt this hn
  rw [opp_bit n h64] at hn
  have h3 := bit_lt hs hn
  have := mir_lt h3
  rwa [mir_mir] at this

theorem opp_bit' {V s : Nat} (hV : V ≤ 20) (hs : s < 2 ^ (2 * V)) (n : Nat) : (opp s).testBit n = s.testBit (mir n) := by
  by_cases h : n < 64
  · exact opp_bit n h
  · have h1 : (opp s).testBit n = false := by
      cases e : (opp s).testBit n with
      | false => rfl
      | true => have := bit_lt (opp_lt hV hs) e; omega
    have h2 : s.testBit (mir n) = false := by
      cases e : s.testBit (mir n) with
      | false => rfl
      | true => have := bit_lt hs e; have := mir_lt this; rw [mir_mir] at this; omega
    rw [h1, h2]

/-- Those that stand beside their opposites. -/
def clash (s : Nat) : Nat := s &&& opp s

/-- Just one? -/
def single (s : Nat) : Bool := s != 0 && (s &&& (s - 1)) == 0

theorem low_bit : ∀ (k s : Nat), s < 2 ^ k → s ≠ 0 → ∃ n, s.testBit n = true ∧ (∀ i, i < n → s.testBit i = false) ∧ ∀ i, (s &&& (s - 1)).testBit i = (s.testBit i && decide (i ≠ n))
  | 0, s, h, h0 => by simp at h; omega
  | k + 1, s, h, h0 => by
    by_cases hb : s % 2 = 1
    · refine ⟨0, by simp [Nat.testBit_zero, hb], fun i hi => absurd hi (Nat.not_lt_zero _), fun i => ?_⟩
      cases i with
      | zero => rw [Nat.testBit_and]; simp [Nat.testBit_zero, hb]; omega
      | succ i => rw [Nat.testBit_and, Nat.testBit_succ, Nat.testBit_succ, show (s - 1) / 2 = s / 2 by omega]; simp
    · have hs : s / 2 < 2 ^ k := by rw [Nat.pow_succ] at h; omega
      obtain ⟨n, h1, h2, h3⟩ := low_bit k (s / 2) hs (by omega)
      refine ⟨n + 1, by rw [Nat.testBit_succ]; exact h1, fun i hi => ?_, fun i => ?_⟩
      · cases i with
        | zero => simp [Nat.testBit_zero]; omega
        | succ i => rw [Nat.testBit_succ]; exact h2 i (by omega)
      · cases i with
        | zero => rw [Nat.testBit_and]; simp [Nat.testBit_zero]; omega
        | succ i =>
          have e := h3 i
          rw [Nat.testBit_and] at e ⊢
          rw [Nat.testBit_succ, Nat.testBit_succ, show (s - 1) / 2 = s / 2 - 1 by omega, e]
          simp

theorem single_iff {s : Nat} (hs : s < 18446744073709551616) : single s = true ↔ ∃ n, s = 2 ^ n := by
  unfold single
  constructor
  · intro h
    simp only [Bool.and_eq_true, bne_iff_ne, ne_eq, beq_iff_eq] at h
    obtain ⟨n, h1, h2, h3⟩ := low_bit 64 s hs h.1
    refine ⟨n, ?_⟩
    apply Nat.eq_of_testBit_eq
    intro i
    rw [Nat.testBit_two_pow]
    have := h3 i
    rw [h.2] at this
    by_cases e : i = n
    · subst e; rw [h1]; simp
    · cases e2 : s.testBit i with
      | false => simp; exact fun hh => e hh.symm
      | true => rw [e2] at this; simp [e] at this
  · rintro ⟨n, rfl⟩
    have h0 : (2 : Nat) ^ n ≠ 0 := Nat.pos_iff_ne_zero.1 (Nat.two_pow_pos n)
    obtain ⟨m, h1, h2, h3⟩ := low_bit (n + 1) (2 ^ n) (Nat.pow_lt_pow_right (by decide) (by omega)) h0
    have hm : n = m := by rw [Nat.testBit_two_pow] at h1; simpa using h1
    subst hm
    simp only [Bool.and_eq_true, bne_iff_ne, ne_eq, h0, not_false_eq_true, beq_iff_eq, true_and]
    rw [zero_iff_bits]
    intro i
    rw [h3 i, Nat.testBit_two_pow]
    by_cases e : n = i
    · subst e; simp
    · simp [e]

/-! What follows at once. -/

inductive Fol (C : List (List Int)) (G : Int → Prop) : Int → Prop
  | given {l : Int} : G l → Fol C G l
  | unit {c : List Int} {l : Int} : c ∈ C → l ∈ c → (∀ m ∈ c, m ≠ l → Fol C G (-m)) → Fol C G l

def Conf (C : List (List Int)) (G : Int → Prop) : Prop := (∃ l, Fol C G l ∧ Fol C G (-l)) ∨ ∃ c ∈ C, ∀ m ∈ c, Fol C G (-m)

/-- T is all that follows, without a conflict. -/
structure Shut (C : List (List Int)) (G T : Int → Prop) : Prop where
  given : ∀ l, G l → T l
  clash : ∀ l, T l → ¬ T (-l)
  left : ∀ c ∈ C, ∃ m ∈ c, ¬ T (-m)
  clause : ∀ c ∈ C, ∀ l ∈ c, (∀ m ∈ c, m ≠ l → T (-m)) → T l

theorem Shut.fol {C : List (List Int)} {G T : Int → Prop} (h : Shut C G T) {l : Int} (hl : Fol C G l) : T l := by
  induction hl with
  | given hg => exact h.given _ hg
  | unit hc hl _ ih => exact h.clause _ hc _ hl ih

theorem Shut.noconf {C : List (List Int)} {G T : Int → Prop} (h : Shut C G T) : ¬ Conf C G := by
  rintro (⟨l, h1, h2⟩ | ⟨c, hc, hm⟩)
  · exact h.clash l (h.fol h1) (h.fol h2)
  · obtain ⟨m, hm1, hm2⟩ := h.left c hc
    exact hm2 (h.fol (hm m hm1))

/-- The kept clauses stand for all. -/
structure Cover (V : Nat) (K : List Nat) (C : List (List Int)) : Prop where
  lits : ∀ c ∈ C, ∀ l ∈ c, IsLit V l
  kept : ∀ k ∈ K, ∃ c ∈ C, k = maskOf c
  all : ∀ c ∈ C, (∃ l ∈ c, -l ∈ c) ∨ ∃ k ∈ K, ∀ n, k.testBit n = true → (maskOf c).testBit n = true

theorem Cover.small {V : Nat} {K : List Nat} {C : List (List Int)} (h : Cover V K C) {k : Nat} (hk : k ∈ K) : k < 2 ^ (2 * V) := by
  obtain ⟨c, hc, rfl⟩ := h.kept k hk
  exact maskOf_lt (h.lits c hc)

theorem Cover.none (V : Nat) : Cover V [] [] := ⟨by simp, by simp, by simp⟩

/-- What Add makes of the kept ones. -/
def addTo (K : List Nat) (m : Nat) : List Nat := if clash m ≠ 0 then K else if K.any (fun k => within k m) then K else K.filter (fun k => !within m k) ++ [m]

theorem clash_mask {V : Nat} (hV : V ≤ 20) {c : List Int} (hc : ∀ l ∈ c, IsLit V l) : clash (maskOf c) ≠ 0 ↔ ∃ l ∈ c, -l ∈ c := by
  have hs := maskOf_lt hc
  constructor
  · intro h
    have : ¬ ∀ n, (clash (maskOf c)).testBit n = false := fun hh => h (zero_iff_bits.2 hh)
    obtain ⟨n, hn⟩ := Classical.not_forall.1 this
    have hn : (clash (maskOf c)).testBit n = true := by simpa using hn
    unfold clash at hn
    rw [Nat.testBit_and, opp_bit' hV hs, Bool.and_eq_true] at hn
    obtain ⟨l, hl, e1⟩ := (maskOf_bit c n).1 hn.1
    obtain ⟨l', hl', e2⟩ := (maskOf_bit c _).1 hn.2
    refine ⟨l, hl, ?_⟩
    have : -l = l' := pl_inj (by have := (hc l hl).1; omega) (hc l' hl').1 (by rw [pl_neg (hc l hl).1, e1, e2])
    rw [this]; exact hl'
  · rintro ⟨l, h1, h2⟩ h0
    have := zero_iff_bits.1 h0 (pl l)
    unfold clash at this
    rw [Nat.testBit_and, opp_bit' hV hs, (maskOf_bit c _).2 ⟨l, h1, rfl⟩, (maskOf_bit c _).2 ⟨-l, h2, pl_neg (hc l h1).1⟩] at this
    exact absurd this (by decide)

theorem Cover.add {V : Nat} (hV : V ≤ 20) {K : List Nat} {C : List (List Int)} (h : Cover V K C) {c : List Int} (hc : ∀ l ∈ c, IsLit V l) : Cover V (addTo K (maskOf c)) (C ++ [c]) := by
  have hm := lt64 hV (maskOf_lt hc)
  have hl : ∀ d ∈ C ++ [c], ∀ l ∈ d, IsLit V l := by
    intro d hd l hl
    rcases List.mem_append.1 hd with h1 | h1
    · exact h.lits d h1 l hl
    · rw [List.mem_singleton] at h1; subst h1; exact hc l hl
  unfold addTo
  split
  · rename_i hcl
    refine ⟨hl, fun k hk => ?_, fun d hd => ?_⟩
    · obtain ⟨d, h1, h2⟩ := h.kept k hk
      exact ⟨d, List.mem_append_left _ h1, h2⟩
    · rcases List.mem_append.1 hd with h1 | h1
      · exact h.all d h1
      · rw [List.mem_singleton] at h1; subst h1
        exact .inl ((clash_mask hV hc).1 hcl)
  · split
    · rename_i hany
      rw [List.any_eq_true] at hany
      obtain ⟨k, hk, hw⟩ := hany
      refine ⟨hl, fun k hk => ?_, fun d hd => ?_⟩
      · obtain ⟨d, h1, h2⟩ := h.kept k hk
        exact ⟨d, List.mem_append_left _ h1, h2⟩
      · rcases List.mem_append.1 hd with h1 | h1
        · exact h.all d h1
        · rw [List.mem_singleton] at h1; subst h1
          exact .inr ⟨k, hk, (within_iff (lt64 hV (h.small hk)) hm).1 hw⟩
    · refine ⟨hl, fun k hk => ?_, fun d hd => ?_⟩
      · rcases List.mem_append.1 hk with h1 | h1
        · obtain ⟨d, h2, h3⟩ := h.kept k (List.mem_filter.1 h1).1
          exact ⟨d, List.mem_append_left _ h2, h3⟩
        · rw [List.mem_singleton] at h1
          exact ⟨c, by simp, h1⟩
      · rcases List.mem_append.1 hd with h1 | h1
        · rcases h.all d h1 with h2 | ⟨k, hk, hw⟩
          · exact .inl h2
          · by_cases hdel : within (maskOf c) k = true
            · exact .inr ⟨maskOf c, by simp, fun n hn => hw n ((within_iff hm (lt64 hV (h.small hk))).1 hdel n hn)⟩
            · exact .inr ⟨k, List.mem_append_left _ (List.mem_filter.2 ⟨hk, by simp [hdel]⟩), hw⟩
        · rw [List.mem_singleton] at h1; subst h1
          exact .inr ⟨maskOf d, by simp, fun n hn => hn⟩

/-- The state of the search: what has come follows; nothing stands beside its opposite. -/
structure Come (V : Nat) (C : List (List Int)) (G : Int → Prop) (S : Nat) : Prop where
  small : S < 2 ^ (2 * V)
  fol : ∀ n, S.testBit n = true → Fol C G (atp n)
  given : ∀ l, G l → S.testBit (pl l) = true
  apart : ∀ n, S.testBit n = true → S.testBit (mir n) = false

theorem Come.start {V : Nat} (hV : V ≤ 20) {C : List (List Int)} {g : List Int} (hg : ∀ l ∈ g, IsLit V l) (hc : clash (maskOf g) = 0) : Come V C (fun l => l ∈ g) (maskOf g) := by
  have hs := maskOf_lt hg
  refine ⟨hs, fun n hn => ?_, fun l hl => (maskOf_bit g _).2 ⟨l, hl, rfl⟩, fun n hn => ?_⟩
  · obtain ⟨l, hl, e⟩ := (maskOf_bit g n).1 hn
    rw [← e, atp_pl (hg l hl).1]
    exact .given hl
  · have := zero_iff_bits.1 hc n
    unfold clash at this
    rw [Nat.testBit_and, opp_bit' hV hs, hn] at this
    simpa using this

theorem conf_of_given {V : Nat} (hV : V ≤ 20) {C : List (List Int)} {g : List Int} (hg : ∀ l ∈ g, IsLit V l) (hc : clash (maskOf g) ≠ 0) : Conf C (fun l => l ∈ g) := by
  obtain ⟨l, h1, h2⟩ := (clash_mask hV hg).1 hc
  exact .inl ⟨l, .given h1, .given h2⟩

/-- Which literals of a kept clause are open. -/
def openOf (k S : Nat) : Nat := dif k (opp S)

theorem openOf_bit {V : Nat} (hV : V ≤ 20) {k S : Nat} (hk : k < 2 ^ (2 * V)) (hS : S < 2 ^ (2 * V)) (n : Nat) : (openOf k S).testBit n = (k.testBit n && !S.testBit (mir n)) := by
  unfold openOf
  rw [dif_bit (lt64 hV hk) (lt64 hV (opp_lt hV hS)), opp_bit' hV hS]

theorem Come.conf {V : Nat} (hV : V ≤ 20) {K : List Nat} {C : List (List Int)} {G : Int → Prop} {S k : Nat} (h : Come V C G S) (hC : Cover V K C) (hk : k ∈ K) (h0 : openOf k S = 0) : Conf C G := by
  have hks := hC.small hk
  obtain ⟨c, hc, rfl⟩ := hC.kept k hk
  refine .inr ⟨c, hc, fun m hm => ?_⟩
  have hb := zero_iff_bits.1 h0 (pl m)
  rw [openOf_bit hV hks h.small, (maskOf_bit c _).2 ⟨m, hm, rfl⟩] at hb
  have hb : S.testBit (mir (pl m)) = true := by simpa using hb
  have := h.fol _ hb
  rwa [atp_mir, atp_pl (hC.lits c hc m hm).1] at this

theorem Come.unit {V : Nat} (hV : V ≤ 20) {K : List Nat} {C : List (List Int)} {G : Int → Prop} {S k : Nat} (h : Come V C G S) (hC : Cover V K C) (hk : k ∈ K) (h1 : single (openOf k S) = true) : Come V C G (S ||| openOf k S) := by
  have hks := hC.small hk
  have hol : openOf k S < 2 ^ (2 * V) := dif_lt hks
  obtain ⟨c, hc, ekc⟩ := hC.kept k hk
  obtain ⟨n, e⟩ := (single_iff (lt64 hV hol)).1 h1
  have hob := openOf_bit hV hks h.small
  have hn := hob n
  rw [e, Nat.testBit_two_pow] at hn
  simp only [decide_true] at hn
  have hn := hn.symm
  simp only [Bool.and_eq_true, Bool.not_eq_true'] at hn
  refine ⟨Nat.or_lt_two_pow h.small hol, fun i hi => ?_, fun l hl => ?_, fun i hi => ?_⟩
  · rw [Nat.testBit_or, Bool.or_eq_true] at hi
    rcases hi with hi | hi
    · exact h.fol i hi
    · rw [e, Nat.testBit_two_pow] at hi
      have hi : n = i := by simpa using hi
      subst hi
      rw [ekc] at hn
      obtain ⟨l, hl, el⟩ := (maskOf_bit c n).1 hn.1
      have hlit := hC.lits c hc l hl
      rw [← el, atp_pl hlit.1]
      refine .unit hc hl fun m hm hne => ?_
      have hmlit := hC.lits c hc m hm
      have hmb := hob (pl m)
      have hpm : ¬ n = pl m := fun hh => hne (pl_inj hmlit.1 hlit.1 (by rw [el, hh]))
      rw [e, Nat.testBit_two_pow, ekc, (maskOf_bit c _).2 ⟨m, hm, rfl⟩] at hmb
      have hmb : S.testBit (mir (pl m)) = true := by simpa [hpm] using hmb
      have := h.fol _ hmb
      rwa [atp_mir, atp_pl hmlit.1] at this
  · rw [Nat.testBit_or, h.given l hl]; rfl
  · rw [Nat.testBit_or, e, Nat.testBit_two_pow] at hi ⊢
    rw [Bool.or_eq_true] at hi
    rw [Bool.or_eq_false_iff]
    rcases hi with hi | hi
    · refine ⟨h.apart i hi, ?_⟩
      simp only [decide_eq_false_iff_not]
      intro hh
      have := hn.2
      rw [hh, mir_mir, hi] at this
      exact absurd this (by decide)
    · have hi : n = i := by simpa using hi
      subst hi
      refine ⟨hn.2, ?_⟩
      simp only [decide_eq_false_iff_not]
      unfold mir
      split <;> omega

theorem Come.shut {V : Nat} (hV : V ≤ 20) {K : List Nat} {C : List (List Int)} {G : Int → Prop} {S : Nat} (h : Come V C G S) (hC : Cover V K C) (hG : ∀ l, G l → IsLit V l)
    (hend : ∀ k ∈ K, openOf k S ≠ 0 ∧ (single (openOf k S) = true → within (openOf k S) S = true)) : Shut C G (fun l => IsLit V l ∧ S.testBit (pl l) = true) := by
  have key : ∀ c ∈ C, (∃ m ∈ c, ¬ S.testBit (pl (-m)) = true) ∧ ∀ l ∈ c, (∀ m ∈ c, m ≠ l → S.testBit (pl (-m)) = true) → S.testBit (pl l) = true := by
    intro c hc
    rcases hC.all c hc with ⟨l, hl, hl'⟩ | ⟨k, hk, hw⟩
    · have hlit := hC.lits c hc l hl
      have hcl := h.apart (pl l)
      rw [← pl_neg hlit.1] at hcl
      have hopen : ∃ m ∈ c, ¬ S.testBit (pl (-m)) = true := by
        cases e : S.testBit (pl l) with
        | false => exact ⟨-l, hl', by rw [Int.neg_neg, e]; decide⟩
        | true => exact ⟨l, hl, by rw [hcl e]; decide⟩
      refine ⟨hopen, fun x hx hall => ?_⟩
      -- x is l or its opposite, or both opposites have come
      by_cases e1 : x = l
      · subst e1
        have := hall (-x) hl' (by have := hlit.1; omega)
        rwa [Int.neg_neg] at this
      · have a1 := hall l hl (fun hh => e1 hh.symm)
        by_cases e2 : x = -l
        · rw [e2]; exact a1
        · have a2 := hall (-l) hl' (fun hh => e2 hh.symm)
          rw [Int.neg_neg] at a2
          rw [hcl a2] at a1
          exact absurd a1 (by decide)
    · have hks := hC.small hk
      obtain ⟨h0, h1⟩ := hend k hk
      have hob := openOf_bit hV hks h.small
      have : ¬ ∀ n, (openOf k S).testBit n = false := fun hh => h0 (zero_iff_bits.2 hh)
      obtain ⟨n, hn⟩ := Classical.not_forall.1 this
      have hn : (openOf k S).testBit n = true := by simpa using hn
      have hn' := hn
      rw [hob n, Bool.and_eq_true, Bool.not_eq_true'] at hn'
      obtain ⟨m, hm, em⟩ := (maskOf_bit c n).1 (hw n hn'.1)
      have hmlit := hC.lits c hc m hm
      refine ⟨⟨m, hm, by rw [pl_neg hmlit.1, em, hn'.2]; decide⟩, fun l hl hall => ?_⟩
      have hlit := hC.lits c hc l hl
      -- all open places are l's
      have honly : ∀ i, (openOf k S).testBit i = true → i = pl l := by
        intro i hi
        rw [hob i, Bool.and_eq_true, Bool.not_eq_true'] at hi
        obtain ⟨x, hx, ex⟩ := (maskOf_bit c i).1 (hw i hi.1)
        apply Classical.byContradiction
        intro hne
        have := hall x hx (fun hh => hne (by rw [← ex, hh]))
        rw [pl_neg (hC.lits c hc x hx).1, ex, hi.2] at this
        exact absurd this (by decide)
      have he : openOf k S = 2 ^ pl l := by
        apply Nat.eq_of_testBit_eq
        intro i
        rw [Nat.testBit_two_pow]
        by_cases e : pl l = i
        · subst e
          have := honly n hn
          subst this
          rw [hn]; simp
        · cases e2 : (openOf k S).testBit i with
          | false => simp [e]
          | true => exact absurd (honly i e2).symm e
      have hol : openOf k S < 2 ^ (2 * V) := dif_lt hks
      have hsing := (single_iff (lt64 hV hol)).2 ⟨_, he⟩
      have := (within_iff (lt64 hV hol) (lt64 hV h.small)).1 (h1 hsing) (pl l)
      rw [he, Nat.testBit_two_pow] at this
      exact this (by simp)
  refine ⟨fun l hl => ⟨hG l hl, h.given l hl⟩, fun l hl hl' => ?_, fun c hc => ?_, fun c hc l hl hall => ?_⟩
  · have := h.apart _ hl.2
    rw [← pl_neg hl.1.1, hl'.2] at this
    exact absurd this (by decide)
  · obtain ⟨m, hm, hn⟩ := (key c hc).1
    exact ⟨m, hm, fun hh => hn hh.2⟩
  · exact ⟨hC.lits c hc l hl, (key c hc).2 l hl fun m hm hne => (hall m hm hne).2⟩

/-- The list of a set. -/
def litsOf (k s : Nat) : List Int := ((List.range k).filter fun n => s.testBit n).map atp

theorem filter_range_first (k : Nat) (p : Nat → Bool) (n : Nat) (hn : n < k) (hp : p n = true) (hlow : ∀ i, i < n → p i = false) : (List.range k).filter p = n :: (List.range k).filter (fun i => p i && decide (i ≠ n)) := by
  obtain ⟨d, rfl⟩ : ∃ d, k = n + (d + 1) := ⟨k - n - 1, by omega⟩
  rw [List.range_add, List.filter_append, List.filter_append]
  have e1 : (List.range n).filter p = [] := by
    rw [List.filter_eq_nil_iff]
    intro i hi
    rw [hlow i (List.mem_range.1 hi)]; decide
  have e2 : (List.range n).filter (fun i => p i && decide (i ≠ n)) = [] := by
    rw [List.filter_eq_nil_iff]
    intro i hi
    rw [hlow i (List.mem_range.1 hi)]; simp
  rw [e1, e2, List.nil_append, List.nil_append, List.range_succ_eq_map, List.map_cons]
  rw [List.filter_cons, List.filter_cons]
  simp only [Nat.add_zero, hp, if_true, ne_eq, not_true_eq_false, decide_false, Bool.and_false]
  congr 1
  apply List.filter_congr
  intro i hi
  rw [List.mem_map] at hi
  obtain ⟨j, hj, rfl⟩ := hi
  rw [List.mem_map] at hj
  obtain ⟨x, _, rfl⟩ := hj
  simp

theorem litsOf_step {s : Nat} (hs : s < 18446744073709551616) (h0 : s ≠ 0) : litsOf 64 s = atp (Lib.ctz 64 s) :: litsOf 64 (s &&& (s - 1)) := by
  obtain ⟨n, h1, h2, h3⟩ := low_bit 64 s hs h0
  have hn := bit_lt (show s < 2 ^ 64 from hs) h1
  have e : Lib.ctz 64 s = n := by
    unfold Lib.ctz
    rw [if_neg h0]
    obtain ⟨m, hm, hk⟩ := Lib.ctzFrom_spec 64 s (by omega) hs
    generalize Lib.ctzFrom 64 s = k at hm hk
    have hb : ∀ i, s.testBit i = (decide (k ≤ i) && (2 * m + 1).testBit (i - k)) := fun i => by rw [hm, Nat.mul_comm, Nat.testBit_mul_two_pow]
    have hk1 : s.testBit k = true := by rw [hb k]; simp [Nat.testBit_zero]
    apply Nat.le_antisymm
    · apply Nat.le_of_not_lt
      intro hlt
      rw [hb n] at h1
      have : ¬ k ≤ n := by omega
      simp [this] at h1
    · apply Nat.le_of_not_lt
      intro hlt
      rw [h2 k hlt] at hk1
      exact absurd hk1 (by decide)
  rw [e]
  unfold litsOf
  rw [filter_range_first 64 _ n hn h1 h2, List.map_cons]
  congr 2
  apply List.filter_congr
  intro i _
  rw [h3 i]

theorem litsOf_zero (k : Nat) : litsOf k 0 = [] := by simp [litsOf]

theorem litsOf_short {V s : Nat} (hV : V ≤ 20) (hs : s < 2 ^ (2 * V)) : litsOf 64 s = litsOf (2 * V) s := by
  unfold litsOf
  obtain ⟨d, hd⟩ : ∃ d, 64 = 2 * V + d := ⟨64 - 2 * V, by omega⟩
  rw [hd, List.range_add, List.filter_append, List.map_append]
  have : ((List.range d).map (fun x => 2 * V + x)).filter (fun n => s.testBit n) = [] := by
    rw [List.filter_eq_nil_iff]
    intro i hi
    rw [List.mem_map] at hi
    obtain ⟨j, _, rfl⟩ := hi
    intro hb
    have := bit_lt hs hb
    omega
  rw [this]; simp

/-- The list that the document tells: by variables, v ahead of -v. -/
def tellOf (V : Nat) (T : Int → Bool) : List Int := ((List.range (2 * V)).map atp).filter T

theorem litsOf_tell {V s : Nat} (T : Int → Bool) (h : ∀ n, n < 2 * V → s.testBit n = T (atp n)) : litsOf (2 * V) s = tellOf V T := by
  unfold litsOf tellOf
  rw [List.filter_map]
  congr 1
  apply List.filter_congr
  intro n hn
  exact h n (List.mem_range.1 hn)

theorem tellOf_succ (V : Nat) (T : Int → Bool) : tellOf (V + 1) T = tellOf V T ++ ((if T ((V + 1 : Nat) : Int) then [((V + 1 : Nat) : Int)] else []) ++ if T (-((V + 1 : Nat) : Int)) then [-((V + 1 : Nat) : Int)] else []) := by
  unfold tellOf
  rw [show 2 * (V + 1) = 2 * V + 1 + 1 by omega, List.range_succ, List.range_succ]
  simp only [List.map_append, List.map_cons, List.map_nil, List.filter_append, List.append_assoc]
  congr 1
  have e1 : atp (2 * V) = ((V + 1 : Nat) : Int) := by unfold atp; split <;> omega
  have e2 : atp (2 * V + 1) = -((V + 1 : Nat) : Int) := by unfold atp; split <;> omega
  rw [e1, e2, List.filter_cons, List.filter_cons]
  simp

end Go.Proofs.YtlodenfdcckemaaDoor

/-
  What follows at once, as the document's answer goes through it (of no program).
-/

namespace Go.Proofs.YtlodenfdcckemaaDoor

/-- Where a literal stands in the document's table. -/
def rp (l : Int) : Nat := if l < 0 then (32 - l).toNat else l.toNat

theorem rp_lt {V : Nat} (hV : V ≤ 20) {l : Int} (h : IsLit V l) : rp l < 64 := by obtain ⟨a, b, c⟩ := h; unfold rp; split <;> omega
theorem rp_inj {V : Nat} (hV : V ≤ 20) {l m : Int} (h : IsLit V l) (h' : IsLit V m) (e : rp l = rp m) : l = m := by
  obtain ⟨a, b, c⟩ := h
  obtain ⟨a', b', c'⟩ := h'
  unfold rp at e
  split at e <;> split at e <;> omega

/-- Is a literal in the table? -/
def there (bs : List Bool) (l : Int) : Bool := bs.getD (rp l) false
/-- Is there a conflict? -/
def crash (bs : List Bool) : Bool := bs.getD 64 false

theorem there_set {V : Nat} (hV : V ≤ 20) {bs : List Bool} (hl : bs.length = 65) {l m : Int} (h : IsLit V l) (h' : IsLit V m) : there (bs.set (rp l) true) m = (there bs m || decide (m = l)) := by
  unfold there
  have h1 := rp_lt hV h
  have h2 := rp_lt hV h'
  by_cases e : m = l
  · subst e
    simp [List.getD_eq_getElem?_getD, hl, show rp m < 65 by omega]
  · have : ¬ rp l = rp m := fun hh => e (rp_inj hV h h' hh).symm
    simp [List.getD_eq_getElem?_getD, this, e]

theorem crash_set {V : Nat} (hV : V ≤ 20) {bs : List Bool} {l : Int} (h : IsLit V l) (b : Bool) : crash (bs.set (rp l) b) = crash bs := by
  unfold crash
  have h1 := rp_lt hV h
  have : ¬ rp l = 64 := by omega
  simp [List.getD_eq_getElem?_getD, this]

theorem there_crash {V : Nat} (hV : V ≤ 20) {bs : List Bool} {m : Int} (h : IsLit V m) (b : Bool) : there (bs.set 64 b) m = there bs m := by
  unfold there
  have h1 := rp_lt hV h
  have : ¬ 64 = rp m := by omega
  simp [List.getD_eq_getElem?_getD, this]

theorem crash_crash {bs : List Bool} (hl : bs.length = 65) (b : Bool) : crash (bs.set 64 b) = b := by
  unfold crash
  simp [List.getD_eq_getElem?_getD, hl]

/-- What the document's table holds. -/
structure RCome (V : Nat) (C : List (List Int)) (G : Int → Prop) (bs : List Bool) : Prop where
  len : bs.length = 65
  fol : ∀ l, IsLit V l → there bs l = true → Fol C G l
  conf : crash bs = true → Conf C G
  apart : crash bs = false → ∀ l, IsLit V l → there bs l = true → there bs (-l) = false

/-- The table with a literal more. -/
def addL (bs : List Bool) (l : Int) : List Bool := if there (bs.set (rp l) true) (-l) then (bs.set (rp l) true).set 64 true else bs.set (rp l) true

theorem addL_len (bs : List Bool) (l : Int) : (addL bs l).length = bs.length := by unfold addL; split <;> simp

theorem addL_there {V : Nat} (hV : V ≤ 20) {bs : List Bool} (hl : bs.length = 65) {l m : Int} (h : IsLit V l) (h' : IsLit V m) : there (addL bs l) m = (there bs m || decide (m = l)) := by
  unfold addL
  split
  · rw [there_crash hV h', there_set hV hl h h']
  · rw [there_set hV hl h h']

theorem addL_crash {V : Nat} (hV : V ≤ 20) {bs : List Bool} (hl : bs.length = 65) {l : Int} (h : IsLit V l) : crash (addL bs l) = (crash bs || there bs (-l)) := by
  unfold addL
  have e := there_set hV hl h h.neg
  have : ¬ -l = l := by have := h.1; omega
  simp only [this, decide_false, Bool.or_false] at e
  rw [e]
  split
  · rename_i h1
    rw [crash_crash (by simpa using hl), h1]; simp
  · rename_i h1
    rw [crash_set hV h]
    have h1 : there bs (-l) = false := by simpa using h1
    rw [h1]; simp

theorem RCome.add {V : Nat} (hV : V ≤ 20) {C : List (List Int)} {G : Int → Prop} {bs : List Bool} (h : RCome V C G bs) {l : Int} (hl : IsLit V l) (hf : Fol C G l) : RCome V C G (addL bs l) := by
  refine ⟨by rw [addL_len, h.len], fun m hm ht => ?_, fun hx => ?_, fun hx m hm ht => ?_⟩
  · rw [addL_there hV h.len hl hm, Bool.or_eq_true] at ht
    rcases ht with ht | ht
    · exact h.fol m hm ht
    · have : m = l := by simpa using ht
      rw [this]; exact hf
  · rw [addL_crash hV h.len hl, Bool.or_eq_true] at hx
    rcases hx with hx | hx
    · exact h.conf hx
    · exact .inl ⟨l, hf, h.fol _ hl.neg hx⟩
  · rw [addL_crash hV h.len hl, Bool.or_eq_false_iff] at hx
    rw [addL_there hV h.len hl hm, Bool.or_eq_true] at ht
    rw [addL_there hV h.len hl hm.neg, Bool.or_eq_false_iff]
    rcases ht with ht | ht
    · refine ⟨h.apart hx.1 m hm ht, ?_⟩
      simp only [decide_eq_false_iff_not]
      intro e
      have : m = -l := by omega
      rw [this, hx.2] at ht
      exact absurd ht (by decide)
    · have e : m = l := by simpa using ht
      subst e
      refine ⟨hx.2, ?_⟩
      have := hl.1
      simp only [decide_eq_false_iff_not]
      omega

theorem RCome.crashed {V : Nat} (hV : V ≤ 20) {C : List (List Int)} {G : Int → Prop} {bs : List Bool} (h : RCome V C G bs) (hc : Conf C G) : RCome V C G (bs.set 64 true) := by
  refine ⟨by simpa using h.len, fun m hm ht => ?_, fun _ => hc, fun hx => ?_⟩
  · rw [there_crash hV hm] at ht
    exact h.fol m hm ht
  · rw [crash_crash h.len] at hx
    exact absurd hx (by decide)

theorem RCome.start (V : Nat) (C : List (List Int)) (G : Int → Prop) : RCome V C G (List.replicate 65 false) := by
  have e : ∀ i, (List.replicate 65 false).getD i false = false := fun i => by
    rw [List.getD_eq_getElem?_getD, List.getElem?_replicate]
    split <;> rfl
  refine ⟨by simp, fun m _ ht => ?_, fun hx => ?_, fun _ m _ ht => ?_⟩
  · unfold there at ht; rw [e] at ht; exact absurd ht (by decide)
  · unfold crash at hx; rw [e] at hx; exact absurd hx (by decide)
  · unfold there at ht; rw [e] at ht; exact absurd ht (by decide)

/-- What 'left' tells of a clause. -/
def LeftSpec (bs : List Bool) (c : List Int) (one : Int) (n : Nat) : Prop :=
  (n = 0 ∧ ∀ m ∈ c, there bs (-m) = true) ∨ (n = 1 ∧ one ∈ c ∧ there bs (-one) = false ∧ ∀ m ∈ c, there bs (-m) = false → m = one) ∨ (n = 2 ∧ ∃ a ∈ c, ∃ b ∈ c, a ≠ b ∧ there bs (-a) = false ∧ there bs (-b) = false)

/-- A clause that brings nothing. -/
def Dull (bs : List Bool) (c : List Int) : Prop := (∃ m ∈ c, there bs (-m) = false) ∧ ∀ l ∈ c, (∀ m ∈ c, m ≠ l → there bs (-m) = true) → there bs l = true

theorem LeftSpec.dull1 {bs : List Bool} {c : List Int} {one : Int} (h : LeftSpec bs c one 1) (ht : there bs one = true) : Dull bs c := by
  rcases h with ⟨h, _⟩ | ⟨_, h1, h2, h3⟩ | ⟨h, _⟩
  · omega
  · refine ⟨⟨one, h1, h2⟩, fun l hl hall => ?_⟩
    by_cases e : one = l
    · subst e; exact ht
    · have := hall one h1 e
      rw [h2] at this
      exact absurd this (by decide)
  · omega

theorem LeftSpec.dull2 {bs : List Bool} {c : List Int} {one : Int} (h : LeftSpec bs c one 2) : Dull bs c := by
  rcases h with ⟨h, _⟩ | ⟨h, _⟩ | ⟨_, a, ha, b, hb, hne, h1, h2⟩
  · omega
  · omega
  · refine ⟨⟨a, ha, h1⟩, fun l hl hall => ?_⟩
    by_cases e : a = l
    · have := hall b hb (fun hh => hne (by rw [e, hh]))
      rw [h2] at this
      exact absurd this (by decide)
    · have := hall a ha e
      rw [h1] at this
      exact absurd this (by decide)

theorem RCome.conf0 {V : Nat} {C : List (List Int)} {G : Int → Prop} {bs : List Bool} (h : RCome V C G bs) {c : List Int} (hc : c ∈ C) (hlit : ∀ l ∈ c, IsLit V l) {one : Int} (hs : LeftSpec bs c one 0) : Conf C G := by
  rcases hs with ⟨_, h1⟩ | ⟨h1, _⟩ | ⟨h1, _⟩
  · exact .inr ⟨c, hc, fun m hm => h.fol _ (hlit m hm).neg (h1 m hm)⟩
  · omega
  · omega

theorem RCome.fol1 {V : Nat} {C : List (List Int)} {G : Int → Prop} {bs : List Bool} (h : RCome V C G bs) {c : List Int} (hc : c ∈ C) (hlit : ∀ l ∈ c, IsLit V l) {one : Int} (hs : LeftSpec bs c one 1) : IsLit V one ∧ Fol C G one := by
  rcases hs with ⟨h1, _⟩ | ⟨_, h1, h2, h3⟩ | ⟨h1, _⟩
  · omega
  · refine ⟨hlit one h1, .unit hc h1 fun m hm hne => ?_⟩
    apply h.fol _ (hlit m hm).neg
    cases e : there bs (-m) with
    | true => rfl
    | false => exact absurd (h3 m hm e) hne
  · omega

theorem RCome.shut {V : Nat} {C : List (List Int)} {G : Int → Prop} {bs : List Bool} (h : RCome V C G bs) (hx : crash bs = false) (hC : ∀ c ∈ C, ∀ l ∈ c, IsLit V l) (hG : ∀ l, G l → IsLit V l ∧ there bs l = true) (hd : ∀ c ∈ C, Dull bs c) :
    Shut C G (fun l => IsLit V l ∧ there bs l = true) := by
  refine ⟨hG, fun l hl hl' => ?_, fun c hc => ?_, fun c hc l hl hall => ⟨hC c hc l hl, (hd c hc).2 l hl fun m hm hne => (hall m hm hne).2⟩⟩
  · have := h.apart hx l hl.1 hl.2
    rw [this] at hl'
    exact absurd hl'.2 (by decide)
  · obtain ⟨m, hm, hn⟩ := (hd c hc).1
    exact ⟨m, hm, fun hh => by rw [hn] at hh; exact absurd hh.2 (by decide)⟩

/-- How many places of the table are still free. -/
def room (bs : List Bool) : Nat := 65 - bs.count true

theorem room_set {bs : List Bool} {i : Nat} (hl : bs.length = 65) (hi : i < 65) (h : bs.getD i false = false) : room (bs.set i true) < room bs := by
  unfold room
  have hi' : i < bs.length := by omega
  have h1 : bs[i] = false := by simpa [List.getD_eq_getElem?_getD, hi'] using h
  have h2 : (bs.set i true).count true ≤ (bs.set i true).length := List.count_le_length
  rw [List.length_set, hl] at h2
  rw [List.count_set hi'] at h2 ⊢
  simp [h1] at h2 ⊢
  omega

theorem room_set_le {bs : List Bool} {i : Nat} (hi : i < bs.length) : room (bs.set i true) ≤ room bs := by
  unfold room
  rw [List.count_set hi]
  cases e : bs[i] with
  | false => simp; omega
  | true =>
    have : 0 < bs.count true := List.count_pos_iff.2 (by rw [← e]; exact List.getElem_mem hi)
    simp; omega

theorem room_addL {V : Nat} (hV : V ≤ 20) {bs : List Bool} (hl : bs.length = 65) {l : Int} (h : IsLit V l) (ht : there bs l = false) : room (addL bs l) < room bs := by
  have h1 := rp_lt hV h
  have h2 := room_set hl (by omega : rp l < 65) ht
  unfold addL
  split
  · have := room_set_le (bs := bs.set (rp l) true) (i := 64) (by simp [hl])
    omega
  · exact h2

theorem room_crash {bs : List Bool} (hl : bs.length = 65) : room (bs.set 64 true) ≤ room bs := room_set_le (by omega)

/-! The answer to what follows. -/

/-- The document's answer, and the program's: whether there is a conflict, or what follows. -/
theorem tell_same {V : Nat} (hV : V ≤ 20) {C : List (List Int)} {g : List Int} {S : Nat} {bs : List Bool} (hS : Come V C (fun l => l ∈ g) S) (h1 : Shut C (fun l => l ∈ g) (fun l => IsLit V l ∧ S.testBit (pl l) = true)) (hb : RCome V C (fun l => l ∈ g) bs)
    (h2 : Shut C (fun l => l ∈ g) (fun l => IsLit V l ∧ there bs l = true)) : litsOf 64 S = tellOf V (there bs) := by
  rw [litsOf_short hV hS.small]
  apply litsOf_tell
  intro n hn
  have hlit := atp_lit hn
  cases e : there bs (atp n) with
  | true =>
    have := (h1.fol (hb.fol _ hlit e)).2
    rwa [pl_atp] at this
  | false =>
    cases e2 : S.testBit n with
    | false => rfl
    | true =>
      have := (h2.fol (hS.fol n e2)).2
      rw [e] at this
      exact absurd this (by decide)

end Go.Proofs.YtlodenfdcckemaaDoor
