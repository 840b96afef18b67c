/-
  Several texts, one behind the other.
-/
import Derived.Lib.TrailingZeros
/-
  Literals as places, sets of them as numbers, and what follows at once (of no program).
-/

namespace Go.Proofs.YtlodenfdcckemaaDoor

/-- The place of a literal in the row 1, -1, 2, -2, .. -/
def pl (l : Int) : Nat := if l < 0 then (2 * (-l - 1) + 1).toNat else (2 * (l - 1)).toNat
/-- The literal at a place. -/
def atp (n : Nat) : Int := if n % 2 = 1 then -((n / 2 + 1 : Nat) : Int) else ((n / 2 + 1 : Nat) : Int)
/-- The place of the opposite. -/
def mir (n : Nat) : Nat := if n % 2 = 0 then n + 1 else n - 1

/-- A literal of V variables. -/
def IsLit (V : Nat) (l : Int) : Prop := l ≠ 0 ∧ l ≤ V ∧ -(V : Int) ≤ l

theorem pl_atp (n : Nat) : pl (atp n) = n := by unfold pl atp; split <;> split <;> omega
theorem atp_pl {l : Int} (h : l ≠ 0) : atp (pl l) = l := by unfold pl atp; split <;> split <;> omega
theorem pl_inj {a b : Int} (ha : a ≠ 0) (hb : b ≠ 0) (h : pl a = pl b) : a = b := by rw [← atp_pl ha, ← atp_pl hb, h]
theorem pl_lt {V : Nat} {l : Int} (h : IsLit V l) : pl l < 2 * V := by obtain ⟨a, b, c⟩ := h; unfold pl; split <;> omega
theorem pl_neg {l : Int} (h : l ≠ 0) : pl (-l) = mir (pl l) := by unfold pl mir; split <;> split <;> split <;> omega
theorem atp_mir (n : Nat) : atp (mir n) = -atp n := by unfold atp mir; split <;> split <;> split <;> omega
theorem mir_mir (n : Nat) : mir (mir n) = n := by unfold mir; split <;> split <;> omega
theorem atp_ne (n : Nat) : atp n ≠ 0 := by unfold atp; split <;> omega
theorem atp_lit {V n : Nat} (h : n < 2 * V) : IsLit V (atp n) := by unfold IsLit atp; split <;> refine ⟨?_, ?_, ?_⟩ <;> omega
theorem IsLit.neg {V : Nat} {l : Int} (h : IsLit V l) : IsLit V (-l) := by obtain ⟨a, b, c⟩ := h; refine ⟨?_, ?_, ?_⟩ <;> omega
theorem mir_lt {V n : Nat} (h : n < 2 * V) : mir n < 2 * V := by unfold mir; split <;> omega
theorem mir_lt64 {n : Nat} (h : n < 64) : mir n < 64 := by unfold mir; split <;> omega

/-- The set of a list. -/
def maskOf : List Int → Nat
  | [] => 0
  | l :: r => 2 ^ pl l ||| maskOf r

theorem maskOf_bit (c : List Int) (n : Nat) : (maskOf c).testBit n = true ↔ ∃ l ∈ c, pl l = n := by
  induction c with
  | nil => simp [maskOf]
  | cons l r ih => simp [maskOf, Nat.testBit_or, Nat.testBit_two_pow, ih]

theorem maskOf_append (a b : List Int) : maskOf (a ++ b) = maskOf a ||| maskOf b := by
  induction a with
  | nil => simp [maskOf]
  | cons l r ih => simp [maskOf, ih, Nat.or_assoc]

theorem maskOf_lt {V : Nat} {c : List Int} (h : ∀ l ∈ c, IsLit V l) : maskOf c < 2 ^ (2 * V) := by
  apply Nat.lt_of_not_le
  intro hle
  obtain ⟨i, hi, hb⟩ := Nat.exists_ge_and_testBit_of_ge_two_pow hle
  obtain ⟨l, hl, e⟩ := (maskOf_bit c i).1 hb
  have := pl_lt (h l hl)
  omega

theorem lt64 {V s : Nat} (hV : V ≤ 20) (h : s < 2 ^ (2 * V)) : s < 18446744073709551616 := by
  have h1 : 2 ^ (2 * V) ≤ 2 ^ 64 := Nat.pow_le_pow_right (by decide) (by omega)
  have h2 : (2 : Nat) ^ 64 = 18446744073709551616 := by decide
  omega

theorem bit_lt {s k n : Nat} (h : s < 2 ^ k) (hb : s.testBit n = true) : n < k := by
  apply Nat.lt_of_not_le
  intro hle
  have : s < 2 ^ n := Nat.lt_of_lt_of_le h (Nat.pow_le_pow_right (by decide) hle)
  rw [Nat.testBit_lt_two_pow this] at hb
  exact absurd hb (by decide)

theorem lt_of_bits {s k : Nat} (h : ∀ n, s.testBit n = true → n < k) : s < 2 ^ k := by
  apply Nat.lt_of_not_le
  intro hle
  obtain ⟨i, hi, hb⟩ := Nat.exists_ge_and_testBit_of_ge_two_pow hle
  have := h i hb
  omega

theorem zero_iff_bits {s : Nat} : s = 0 ↔ ∀ n, s.testBit n = false := by
  constructor
  · rintro rfl n; simp
  · intro h; apply Nat.eq_of_testBit_eq; intro i; rw [h i]; simp

/-- a without b. -/
def dif (a b : Nat) : Nat := a &&& (18446744073709551615 - b)

theorem dif_bit {a b : Nat} (ha : a < 18446744073709551616) (hb : b < 18446744073709551616) (n : Nat) : (dif a b).testBit n = (a.testBit n && !b.testBit n) := by
  unfold dif
  rw [Nat.testBit_and, show 18446744073709551615 - b = 2 ^ 64 - (b + 1) by omega, Nat.testBit_two_pow_sub_succ (show b < 2 ^ 64 from hb)]
  by_cases h : n < 64
  · simp [h]
  · have : a.testBit n = false := by
      cases e : a.testBit n with
      | false => rfl
      | true => exact absurd (bit_lt (show a < 2 ^ 64 from ha) e) h
    simp [this]

theorem dif_lt {a b k : Nat} (h : a < 2 ^ k) : dif a b < 2 ^ k := Nat.lt_of_le_of_lt Nat.and_le_left h

/-- Is a within b? -/
def within (a b : Nat) : Bool := dif a b == 0

theorem within_iff {a b : Nat} (ha : a < 18446744073709551616) (hb : b < 18446744073709551616) : within a b = true ↔ ∀ n, a.testBit n = true → b.testBit n = true := by
  unfold within
  rw [beq_iff_eq, zero_iff_bits]
  constructor
  · intro h n hn
    have := h n
    rw [dif_bit ha hb, hn] at this
    simpa using this
  · intro h n
    rw [dif_bit ha hb]
    cases e : a.testBit n with
    | false => rfl
    | true => simp [h n e]

/-- The opposite of each. -/
def opp (s : Nat) : Nat := ((s &&& 6148914691236517205) * 2) ||| (s / 2 &&& 6148914691236517205)

theorem plain_bit : ∀ n, n < 64 → (6148914691236517205 : Nat).testBit n = decide (n % 2 = 0) := by decide

theorem plain_bit' (n : Nat) : (6148914691236517205 : Nat).testBit n = (decide (n < 64) && decide (n % 2 = 0)) := by
  by_cases h : n < 64
  · rw [plain_bit n h]; simp [h]
  · have : (6148914691236517205 : Nat).testBit n = false := Nat.testBit_lt_two_pow (Nat.lt_of_lt_of_le (show 6148914691236517205 < 2 ^ 64 by decide) (Nat.pow_le_pow_right (by decide) (by omega)))
    rw [this]; simp [h]

theorem opp_bit {s : Nat} (n : Nat) (hn : n < 64) : (opp s).testBit n = s.testBit (mir n) := by
  unfold opp
  rw [Nat.testBit_or, Nat.testBit_and, plain_bit n hn, Nat.testBit_div_two]
  have e2 : ∀ x : Nat, (x * 2).testBit n = (decide (1 ≤ n) && x.testBit (n - 1)) := fun x => by
    have := Nat.testBit_mul_two_pow x n 1
    simpa using this
  rw [e2, Nat.testBit_and, plain_bit (n - 1) (by omega)]
  unfold mir
  by_cases h : n % 2 = 0
  · by_cases h0 : n = 0
    · subst h0; simp
    · have : ¬ (n - 1) % 2 = 0 := by omega
      simp [h, this]
  · have h1 : (n - 1) % 2 = 0 := by omega
    have h2 : 1 ≤ n := by omega
    simp [h, h1, h2]

theorem opp_lt {V s : Nat} (_hV : V ≤ 20) (hs : s < 2 ^ (2 * V)) : opp s < 2 ^ (2 * V) := by
  apply lt_of_bits
  intro n hn
  have h64 : n < 64 := by
    have : opp s < 2 ^ 64 := by
      unfold opp
      have h1 : s &&& 6148914691236517205 ≤ 6148914691236517205 := Nat.and_le_right
      have h2 : s / 2 &&& 6148914691236517205 ≤ 6148914691236517205 := Nat.and_le_right
      exact Nat.or_lt_two_pow (by omega) (by omega)
    exact bit_lt this hn
  rw [opp_bit n h64] at hn
  have h3 := bit_lt hs hn
  have := mir_lt h3
  rwa [mir_mir] at this

theorem opp_bit' {V s : Nat} (hV : V ≤ 20) (hs : s < 2 ^ (2 * V)) (n : Nat) : (opp s).testBit n = s.testBit (mir n) := by
  by_cases h : n < 64
  · exact opp_bit n h
  · have h1 : (opp s).testBit n = false := by
      cases e : (opp s).testBit n with
      | false => rfl
      | true => have := bit_lt (opp_lt hV hs) e; omega
    have h2 : s.testBit (mir n) = false := by
      cases e : s.testBit (mir n) with
      | false => rfl
      | true => have := bit_lt hs e; have := mir_lt this; rw [mir_mir] at this; omega
    rw [h1, h2]

/-- Those that stand beside their opposites. -/
def clash (s : Nat) : Nat := s &&& opp s

/-- Just one? -/
def single (s : Nat) : Bool := s != 0 && (s &&& (s - 1)) == 0

theorem low_bit : ∀ (k s : Nat), s < 2 ^ k → s ≠ 0 → ∃ n, s.testBit n = true ∧ (∀ i, i < n → s.testBit i = false) ∧ ∀ i, (s &&& (s - 1)).testBit i = (s.testBit i && decide (i ≠ n))
  | 0, s, h, h0 => by simp at h; omega
  | k + 1, s, h, h0 => by
    by_cases hb : s % 2 = 1
    · refine ⟨0, by simp [Nat.testBit_zero, hb], fun i hi => absurd hi (Nat.not_lt_zero _), fun i => ?_⟩
      cases i with
      | zero => rw [Nat.testBit_and]; simp [Nat.testBit_zero, hb]; omega
      | succ i => rw [Nat.testBit_and, Nat.testBit_succ, Nat.testBit_succ, show (s - 1) / 2 = s / 2 by omega]; simp
    · have hs : s / 2 < 2 ^ k := by rw [Nat.pow_succ] at h; omega
      obtain ⟨n, h1, h2, h3⟩ := low_bit k (s / 2) hs (by omega)
      refine ⟨n + 1, by rw [Nat.testBit_succ]; exact h1, fun i hi => ?_, fun i => ?_⟩
      · cases i with
        | zero => simp [Nat.testBit_zero]; omega
        | succ i => rw [Nat.testBit_succ]; exact h2 i (by omega)
      · cases i with
        | zero => rw [Nat.testBit_and]; simp [Nat.testBit_zero]; omega
        | succ i =>
          have e := h3 i
          rw [Nat.testBit_and] at e ⊢
          rw [Nat.testBit_succ, Nat.testBit_succ, show (s - 1) / 2 = s / 2 - 1 by omega, e]
          simp

theorem single_iff {s : Nat} (hs : s < 18446744073709551616) : single s = true ↔ ∃ n, s = 2 ^ n := by
  unfold single
  constructor
  · intro h
    simp only [Bool.and_eq_true, bne_iff_ne, ne_eq, beq_iff_eq] at h
    obtain ⟨n, h1, h2, h3⟩ := low_bit 64 s hs h.1
    refine ⟨n, ?_⟩
    apply Nat.eq_of_testBit_eq
    intro i
    rw [Nat.testBit_two_pow]
    have := h3 i
    rw [h.2] at this
    by_cases e : i = n
    · subst e; rw [h1]; simp
    · cases e2 : s.testBit i with
      | false => simp; exact fun hh => e hh.symm
      | true => rw [e2] at this; simp [e] at this
  · rintro ⟨n, rfl⟩
    have h0 : (2 : Nat) ^ n ≠ 0 := Nat.pos_iff_ne_zero.1 (Nat.two_pow_pos n)
    obtain ⟨m, h1, h2, h3⟩ := low_bit (n + 1) (2 ^ n) (Nat.pow_lt_pow_right (by decide) (by omega)) h0
    have hm : n = m := by rw [Nat.testBit_two_pow] at h1; simpa using h1
    subst hm
    simp only [Bool.and_eq_true, bne_iff_ne, ne_eq, h0, not_false_eq_true, beq_iff_eq, true_and]
    rw [zero_iff_bits]
    intro i
    rw [h3 i, Nat.testBit_two_pow]
    by_cases e : n = i
    · subst e; simp
    · simp [e]

/-! What follows at once. -/

inductive Fol (C : List (List Int)) (G : Int → Prop) : Int → Prop
  | given {l : Int} : G l → Fol C G l
  | unit {c : List Int} {l : Int} : c ∈ C → l ∈ c → (∀ m ∈ c, m ≠ l → Fol C G (-m)) → Fol C G l

def Conf (C : List (List Int)) (G : Int → Prop) : Prop := (∃ l, Fol C G l ∧ Fol C G (-l)) ∨ ∃ c ∈ C, ∀ m ∈ c, Fol C G (-m)

/-- T is all that follows, without a conflict. -/
structure Shut (C : List (List Int)) (G T : Int → Prop) : Prop where
  given : ∀ l, G l → T l
  clash : ∀ l, T l → ¬ T (-l)
  left : ∀ c ∈ C, ∃ m ∈ c, ¬ T (-m)
  clause : ∀ c ∈ C, ∀ l ∈ c, (∀ m ∈ c, m ≠ l → T (-m)) → T l

theorem Shut.fol {C : List (List Int)} {G T : Int → Prop} (h : Shut C G T) {l : Int} (hl : Fol C G l) : T l := by
  induction hl with
  | given hg => exact h.given _ hg
  | unit hc hl _ ih => exact h.clause _ hc _ hl ih

theorem Shut.noconf {C : List (List Int)} {G T : Int → Prop} (h : Shut C G T) : ¬ Conf C G := by
  rintro (⟨l, h1, h2⟩ | ⟨c, hc, hm⟩)
  · exact h.clash l (h.fol h1) (h.fol h2)
  · obtain ⟨m, hm1, hm2⟩ := h.left c hc
    exact hm2 (h.fol (hm m hm1))

/-- The kept clauses stand for all. -/
structure Cover (V : Nat) (K : List Nat) (C : List (List Int)) : Prop where
  lits : ∀ c ∈ C, ∀ l ∈ c, IsLit V l
  kept : ∀ k ∈ K, ∃ c ∈ C, k = maskOf c
  all : ∀ c ∈ C, (∃ l ∈ c, -l ∈ c) ∨ ∃ k ∈ K, ∀ n, k.testBit n = true → (maskOf c).testBit n = true

theorem Cover.small {V : Nat} {K : List Nat} {C : List (List Int)} (h : Cover V K C) {k : Nat} (hk : k ∈ K) : k < 2 ^ (2 * V) := by
  obtain ⟨c, hc, rfl⟩ := h.kept k hk
  exact maskOf_lt (h.lits c hc)

theorem Cover.none (V : Nat) : Cover V [] [] := ⟨by simp, by simp, by simp⟩

/-- What Add makes of the kept ones. -/
def addTo (K : List Nat) (m : Nat) : List Nat := if clash m ≠ 0 then K else if K.any (fun k => within k m) then K else K.filter (fun k => !within m k) ++ [m]

theorem clash_mask {V : Nat} (hV : V ≤ 20) {c : List Int} (hc : ∀ l ∈ c, IsLit V l) : clash (maskOf c) ≠ 0 ↔ ∃ l ∈ c, -l ∈ c := by
  have hs := maskOf_lt hc
  constructor
  · intro h
    have : ¬ ∀ n, (clash (maskOf c)).testBit n = false := fun hh => h (zero_iff_bits.2 hh)
    obtain ⟨n, hn⟩ := Classical.not_forall.1 this
    have hn : (clash (maskOf c)).testBit n = true := by simpa using hn
    unfold clash at hn
    rw [Nat.testBit_and, opp_bit' hV hs, Bool.and_eq_true] at hn
    obtain ⟨l, hl, e1⟩ := (maskOf_bit c n).1 hn.1
    obtain ⟨l', hl', e2⟩ := (maskOf_bit c _).1 hn.2
    refine ⟨l, hl, ?_⟩
    have : -l = l' := pl_inj (by have := (hc l hl).1; omega) (hc l' hl').1 (by rw [pl_neg (hc l hl).1, e1, e2])
    rw [this]; exact hl'
  · rintro ⟨l, h1, h2⟩ h0
    have := zero_iff_bits.1 h0 (pl l)
    unfold clash at this
    rw [Nat.testBit_and, opp_bit' hV hs, (maskOf_bit c _).2 ⟨l, h1, rfl⟩, (maskOf_bit c _).2 ⟨-l, h2, pl_neg (hc l h1).1⟩] at this
    exact absurd this (by decide)

theorem Cover.add {V : Nat} (hV : V ≤ 20) {K : List Nat} {C : List (List Int)} (h : Cover V K C) {c : List Int} (hc : ∀ l ∈ c, IsLit V l) : Cover V (addTo K (maskOf c)) (C ++ [c]) := by
  have hm := lt64 hV (maskOf_lt hc)
  have hl : ∀ d ∈ C ++ [c], ∀ l ∈ d, IsLit V l := by
    intro d hd l hl
    rcases List.mem_append.1 hd with h1 | h1
    · exact h.lits d h1 l hl
    · rw [List.mem_singleton] at h1; subst h1; exact hc l hl
  unfold addTo
  split
  · rename_i hcl
    refine ⟨hl, fun k hk => ?_, fun d hd => ?_⟩
    · obtain ⟨d, h1, h2⟩ := h.kept k hk
      exact ⟨d, List.mem_append_left _ h1, h2⟩
    · rcases List.mem_append.1 hd with h1 | h1
      · exact h.all d h1
      · rw [List.mem_singleton] at h1; subst h1
        exact .inl ((clash_mask hV hc).1 hcl)
  · split
    · rename_i hany
      rw [List.any_eq_true] at hany
      obtain ⟨k, hk, hw⟩ := hany
      refine ⟨hl, fun k hk => ?_, fun d hd => ?_⟩
      · obtain ⟨d, h1, h2⟩ := h.kept k hk
        exact ⟨d, List.mem_append_left _ h1, h2⟩
      · rcases List.mem_append.1 hd with h1 | h1
        · exact h.all d h1
        · rw [List.mem_singleton] at h1; subst h1
          exact .inr ⟨k, hk, (within_iff (lt64 hV (h.small hk)) hm).1 hw⟩
    · refine ⟨hl, fun k hk => ?_, fun d hd => ?_⟩
      · rcases List.mem_append.1 hk with h1 | h1
        · obtain ⟨d, h2, h3⟩ := h.kept k (List.mem_filter.1 h1).1
          exact ⟨d, List.mem_append_left _ h2, h3⟩
        · rw [List.mem_singleton] at h1
          exact ⟨c, by simp, h1⟩
      · rcases List.mem_append.1 hd with h1 | h1
        · rcases h.all d h1 with h2 | ⟨k, hk, hw⟩
          · exact .inl h2
          · by_cases hdel : within (maskOf c) k = true
            · exact .inr ⟨maskOf c, by simp, fun n hn => hw n ((within_iff hm (lt64 hV (h.small hk))).1 hdel n hn)⟩
            · exact .inr ⟨k, List.mem_append_left _ (List.mem_filter.2 ⟨hk, by simp [hdel]⟩), hw⟩
        · rw [List.mem_singleton] at h1; subst h1
          exact .inr ⟨maskOf d, by simp, fun n hn => hn⟩

/-- The state of the search: what has come follows; nothing stands beside its opposite. -/
structure Come (V : Nat) (C : List (List Int)) (G : Int → Prop) (S : Nat) : Prop where
  small : S < 2 ^ (2 * V)
  fol : ∀ n, S.testBit n = true → Fol C G (atp n)
  given : ∀ l, G l → S.testBit (pl l) = true
  apart : ∀ n, S.testBit n = true → S.testBit (mir n) = false

theorem Come.start {V : Nat} (hV : V ≤ 20) {C : List (List Int)} {g : List Int} (hg : ∀ l ∈ g, IsLit V l) (hc : clash (maskOf g) = 0) : Come V C (fun l => l ∈ g) (maskOf g) := by
  have hs := maskOf_lt hg
  refine ⟨hs, fun n hn => ?_, fun l hl => (maskOf_bit g _).2 ⟨l, hl, rfl⟩, fun n hn => ?_⟩
  · obtain ⟨l, hl, e⟩ := (maskOf_bit g n).1 hn
    rw [← e, atp_pl (hg l hl).1]
    exact .given hl
  · have := zero_iff_bits.1 hc n
    unfold clash at this
    rw [Nat.testBit_and, opp_bit' hV hs, hn] at this
    simpa using this

theorem conf_of_given {V : Nat} (hV : V ≤ 20) {C : List (List Int)} {g : List Int} (hg : ∀ l ∈ g, IsLit V l) (hc : clash (maskOf g) ≠ 0) : Conf C (fun l => l ∈ g) := by
  obtain ⟨l, h1, h2⟩ := (clash_mask hV hg).1 hc
  exact .inl ⟨l, .given h1, .given h2⟩

/-- Which literals of a kept clause are open. -/
def openOf (k S : Nat) : Nat := dif k (opp S)

theorem openOf_bit {V : Nat} (hV : V ≤ 20) {k S : Nat} (hk : k < 2 ^ (2 * V)) (hS : S < 2 ^ (2 * V)) (n : Nat) : (openOf k S).testBit n = (k.testBit n && !S.testBit (mir n)) := by
  unfold openOf
  rw [dif_bit (lt64 hV hk) (lt64 hV (opp_lt hV hS)), opp_bit' hV hS]

theorem Come.conf {V : Nat} (hV : V ≤ 20) {K : List Nat} {C : List (List Int)} {G : Int → Prop} {S k : Nat} (h : Come V C G S) (hC : Cover V K C) (hk : k ∈ K) (h0 : openOf k S = 0) : Conf C G := by
  have hks := hC.small hk
  obtain ⟨c, hc, rfl⟩ := hC.kept k hk
  refine .inr ⟨c, hc, fun m hm => ?_⟩
  have hb := zero_iff_bits.1 h0 (pl m)
  rw [openOf_bit hV hks h.small, (maskOf_bit c _).2 ⟨m, hm, rfl⟩] at hb
  have hb : S.testBit (mir (pl m)) = true := by simpa using hb
  have := h.fol _ hb
  rwa [atp_mir, atp_pl (hC.lits c hc m hm).1] at this

theorem Come.unit {V : Nat} (hV : V ≤ 20) {K : List Nat} {C : List (List Int)} {G : Int → Prop} {S k : Nat} (h : Come V C G S) (hC : Cover V K C) (hk : k ∈ K) (h1 : single (openOf k S) = true) : Come V C G (S ||| openOf k S) := by
  have hks := hC.small hk
  have hol : openOf k S < 2 ^ (2 * V) := dif_lt hks
  obtain ⟨c, hc, ekc⟩ := hC.kept k hk
  obtain ⟨n, e⟩ := (single_iff (lt64 hV hol)).1 h1
  have hob := openOf_bit hV hks h.small
  have hn := hob n
  rw [e, Nat.testBit_two_pow] at hn
  simp only [decide_true] at hn
  have hn := hn.symm
  simp only [Bool.and_eq_true, Bool.not_eq_true'] at hn
  refine ⟨Nat.or_lt_two_pow h.small hol, fun i hi => ?_, fun l hl => ?_, fun i hi => ?_⟩
  · rw [Nat.testBit_or, Bool.or_eq_true] at hi
    rcases hi with hi | hi
    · exact h.fol i hi
    · rw [e, Nat.testBit_two_pow] at hi
      have hi : n = i := by simpa using hi
      subst hi
      rw [ekc] at hn
      obtain ⟨l, hl, el⟩ := (maskOf_bit c n).1 hn.1
      have hlit := hC.lits c hc l hl
      rw [← el, atp_pl hlit.1]
      refine .unit hc hl fun m hm hne => ?_
      have hmlit := hC.lits c hc m hm
      have hmb := hob (pl m)
      have hpm : ¬ n = pl m := fun hh => hne (pl_inj hmlit.1 hlit.1 (by rw [el, hh]))
      rw [e, Nat.testBit_two_pow, ekc, (maskOf_bit c _).2 ⟨m, hm, rfl⟩] at hmb
      have hmb : S.testBit (mir (pl m)) = true := by simpa [hpm] using hmb
      have := h.fol _ hmb
      rwa [atp_mir, atp_pl hmlit.1] at this
  · rw [Nat.testBit_or, h.given l hl]; rfl
  · rw [Nat.testBit_or, e, Nat.testBit_two_pow] at hi ⊢
    rw [Bool.or_eq_true] at hi
    rw [Bool.or_eq_false_iff]
    rcases hi with hi | hi
    · refine ⟨h.apart i hi, ?_⟩
      simp only [decide_eq_false_iff_not]
      intro hh
      have := hn.2
      rw [hh, mir_mir, hi] at this
      exact absurd this (by decide)
    · have hi : n = i := by simpa using hi
      subst hi
      refine ⟨hn.2, ?_⟩
      simp only [decide_eq_false_iff_not]
      unfold mir
      split <;> omega

theorem Come.shut {V : Nat} (hV : V ≤ 20) {K : List Nat} {C : List (List Int)} {G : Int → Prop} {S : Nat} (h : Come V C G S) (hC : Cover V K C) (hG : ∀ l, G l → IsLit V l)
    (hend : ∀ k ∈ K, openOf k S ≠ 0 ∧ (single (openOf k S) = true → within (openOf k S) S = true)) : Shut C G (fun l => IsLit V l ∧ S.testBit (pl l) = true) := by
  have key : ∀ c ∈ C, (∃ m ∈ c, ¬ S.testBit (pl (-m)) = true) ∧ ∀ l ∈ c, (∀ m ∈ c, m ≠ l → S.testBit (pl (-m)) = true) → S.testBit (pl l) = true := by
    intro c hc
    rcases hC.all c hc with ⟨l, hl, hl'⟩ | ⟨k, hk, hw⟩
    · have hlit := hC.lits c hc l hl
      have hcl := h.apart (pl l)
      rw [← pl_neg hlit.1] at hcl
      have hopen : ∃ m ∈ c, ¬ S.testBit (pl (-m)) = true := by
        cases e : S.testBit (pl l) with
        | false => exact ⟨-l, hl', by rw [Int.neg_neg, e]; decide⟩
        | true => exact ⟨l, hl, by rw [hcl e]; decide⟩
      refine ⟨hopen, fun x hx hall => ?_⟩
      -- x is l or its opposite, or both opposites have come
      by_cases e1 : x = l
      · subst e1
        have := hall (-x) hl' (by have := hlit.1; omega)
        rwa [Int.neg_neg] at this
      · have a1 := hall l hl (fun hh => e1 hh.symm)
        by_cases e2 : x = -l
        · rw [e2]; exact a1
        · have a2 := hall (-l) hl' (fun hh => e2 hh.symm)
          rw [Int.neg_neg] at a2
          rw [hcl a2] at a1
          exact absurd a1 (by decide)
    · have hks := hC.small hk
      obtain ⟨h0, h1⟩ := hend k hk
      have hob := openOf_bit hV hks h.small
      have : ¬ ∀ n, (openOf k S).testBit n = false := fun hh => h0 (zero_iff_bits.2 hh)
      obtain ⟨n, hn⟩ := Classical.not_forall.1 this
      have hn : (openOf k S).testBit n = true := by simpa using hn
      have hn' := hn
      rw [hob n, Bool.and_eq_true, Bool.not_eq_true'] at hn'
      obtain ⟨m, hm, em⟩ := (maskOf_bit c n).1 (hw n hn'.1)
      have hmlit := hC.lits c hc m hm
      refine ⟨⟨m, hm, by rw [pl_neg hmlit.1, em, hn'.2]; decide⟩, fun l hl hall => ?_⟩
      have hlit := hC.lits c hc l hl
      -- all open places are l's
      have honly : ∀ i, (openOf k S).testBit i = true → i = pl l := by
        intro i hi
        rw [hob i, Bool.and_eq_true, Bool.not_eq_true'] at hi
        obtain ⟨x, hx, ex⟩ := (maskOf_bit c i).1 (hw i hi.1)
        apply Classical.byContradiction
        intro hne
        have := hall x hx (fun hh => hne (by rw [← ex, hh]))
        rw [pl_neg (hC.lits c hc x hx).1, ex, hi.2] at this
        exact absurd this (by decide)
      have he : openOf k S = 2 ^ pl l := by
        apply Nat.eq_of_testBit_eq
        intro i
        rw [Nat.testBit_two_pow]
        by_cases e : pl l = i
        · subst e
          have := honly n hn
          subst this
          rw [hn]; simp
        · cases e2 : (openOf k S).testBit i with
          | false => simp [e]
          | true => exact absurd (honly i e2).symm e
      have hol : openOf k S < 2 ^ (2 * V) := dif_lt hks
      have hsing := (single_iff (lt64 hV hol)).2 ⟨_, he⟩
      have := (within_iff (lt64 hV hol) (lt64 hV h.small)).1 (h1 hsing) (pl l)
      rw [he, Nat.testBit_two_pow] at this
      exact this (by simp)
  refine ⟨fun l hl => ⟨hG l hl, h.given l hl⟩, fun l hl hl' => ?_, fun c hc => ?_, fun c hc l hl hall => ?_⟩
  · have := h.apart _ hl.2
    rw [← pl_neg hl.1.1, hl'.2] at this
    exact absurd this (by decide)
  · obtain ⟨m, hm, hn⟩ := (key c hc).1
    exact ⟨m, hm, fun hh => hn hh.2⟩
  · exact ⟨hC.lits c hc l hl, (key c hc).2 l hl fun m hm hne => (hall m hm hne).2⟩

/-- The list of a set. -/
def litsOf (k s : Nat) : List Int := ((List.range k).filter fun n => s.testBit n).map atp

theorem filter_range_first (k : Nat) (p : Nat → Bool) (n : Nat) (hn : n < k) (hp : p n = true) (hlow : ∀ i, i < n → p i = false) : (List.range k).filter p = n :: (List.range k).filter (fun i => p i && decide (i ≠ n)) := by
  obtain ⟨d, rfl⟩ : ∃ d, k = n + (d + 1) := ⟨k - n - 1, by omega⟩
  rw [List.range_add, List.filter_append, List.filter_append]
  have e1 : (List.range n).filter p = [] := by
    rw [List.filter_eq_nil_iff]
    intro i hi
    rw [hlow i (List.mem_range.1 hi)]; decide
  have e2 : (List.range n).filter (fun i => p i && decide (i ≠ n)) = [] := by
    rw [List.filter_eq_nil_iff]
    intro i hi
    rw [hlow i (List.mem_range.1 hi)]; simp
  rw [e1, e2, List.nil_append, List.nil_append, List.range_succ_eq_map, List.map_cons]
  rw [List.filter_cons, List.filter_cons]
  simp only [Nat.add_zero, hp, if_true, ne_eq, not_true_eq_false, decide_false, Bool.and_false]
  congr 1
  apply List.filter_congr
  intro i hi
  rw [List.mem_map] at hi
  obtain ⟨j, hj, rfl⟩ := hi
  rw [List.mem_map] at hj
  obtain ⟨x, _, rfl⟩ := hj
  simp

theorem litsOf_step {s : Nat} (hs : s < 18446744073709551616) (h0 : s ≠ 0) : litsOf 64 s = atp (Lib.ctz 64 s) :: litsOf 64 (s &&& (s - 1)) := by
  obtain ⟨n, h1, h2, h3⟩ := low_bit 64 s hs h0
  have hn := bit_lt (show s < 2 ^ 64 from hs) h1
  have e : Lib.ctz 64 s = n := by
    unfold Lib.ctz
    rw [if_neg h0]
    obtain ⟨m, hm, hk⟩ := Lib.ctzFrom_spec 64 s (by omega) hs
    generalize Lib.ctzFrom 64 s = k at hm hk
    have hb : ∀ i, s.testBit i = (decide (k ≤ i) && (2 * m + 1).testBit (i - k)) := fun i => by rw [hm, Nat.mul_comm, Nat.testBit_mul_two_pow]
    have hk1 : s.testBit k = true := by rw [hb k]; simp [Nat.testBit_zero]
    apply Nat.le_antisymm
    · apply Nat.le_of_not_lt
      intro hlt
      rw [hb n] at h1
      have : ¬ k ≤ n := by omega
      simp [this] at h1
    · apply Nat.le_of_not_lt
      intro hlt
      rw [h2 k hlt] at hk1
      exact absurd hk1 (by decide)
  rw [e]
  unfold litsOf
  rw [filter_range_first 64 _ n hn h1 h2, List.map_cons]
  congr 2
  apply List.filter_congr
  intro i _
  rw [h3 i]

theorem litsOf_zero (k : Nat) : litsOf k 0 = [] := by simp [litsOf]

theorem litsOf_short {V s : Nat} (hV : V ≤ 20) (hs : s < 2 ^ (2 * V)) : litsOf 64 s = litsOf (2 * V) s := by
  unfold litsOf
  obtain ⟨d, hd⟩ : ∃ d, 64 = 2 * V + d := ⟨64 - 2 * V, by omega⟩
  rw [hd, List.range_add, List.filter_append, List.map_append]
  have : ((List.range d).map (fun x => 2 * V + x)).filter (fun n => s.testBit n) = [] := by
    rw [List.filter_eq_nil_iff]
    intro i hi
    rw [List.mem_map] at hi
    obtain ⟨j, _, rfl⟩ := hi
    intro hb
    have := bit_lt hs hb
    omega
  rw [this]; simp

/-- The list that the document tells: by variables, v ahead of -v. -/
def tellOf (V : Nat) (T : Int → Bool) : List Int := ((List.range (2 * V)).map atp).filter T

theorem litsOf_tell {V s : Nat} (T : Int → Bool) (h : ∀ n, n < 2 * V → s.testBit n = T (atp n)) : litsOf (2 * V) s = tellOf V T := by
  unfold litsOf tellOf
  rw [List.filter_map]
  congr 1
  apply List.filter_congr
  intro n hn
  exact h n (List.mem_range.1 hn)

theorem tellOf_succ (V : Nat) (T : Int → Bool) : tellOf (V + 1) T = tellOf V T ++ ((if T ((V + 1 : Nat) : Int) then [((V + 1 : Nat) : Int)] else []) ++ if T (-((V + 1 : Nat) : Int)) then [-((V + 1 : Nat) : Int)] else []) := by
  unfold tellOf
  rw [show 2 * (V + 1) = 2 * V + 1 + 1 by omega, List.range_succ, List.range_succ]
  simp only [List.map_append, List.map_cons, List.map_nil, List.filter_append, List.append_assoc]
  congr 1
  have e1 : atp (2 * V) = ((V + 1 : Nat) : Int) := by unfold atp; split <;> omega
  have e2 : atp (2 * V + 1) = -((V + 1 : Nat) : Int) := by unfold atp; split <;> omega
  rw [e1, e2, List.filter_cons, List.filter_cons]
  simp

end Go.Proofs.YtlodenfdcckemaaDoor

/-
  The search, of no program: picks, levels, and the lemma of a conflict.
-/

namespace Go.Proofs.YtlodenfdcckemaaDoor

/-- A literal that was made true: by a clause, or (0) by choice; at a level. -/
structure Pk where
  lit : Nat
  cl : Nat
  lev : Nat

/-- The literals of picks, the newest first. -/
def truthOf : List Pk → Nat
  | [] => 0
  | p :: P => truthOf P ||| p.lit

/-- How many were chosen (what was given lies at the level 0). -/
def lv : List Pk → Nat
  | [] => 0
  | p :: P => if p.cl = 0 ∧ p.lev ≠ 0 then lv P + 1 else lv P

/-- Each literal is new; a clause of D has brought it, or it was chosen. -/
def Trail (V : Nat) (D : Nat → Prop) : List Pk → Prop
  | [] => True
  | p :: P => Trail V D P ∧ p.lev = lv (p :: P) ∧ ∃ n, n < 2 * V ∧ p.lit = 2 ^ n ∧ (truthOf P).testBit n = false ∧ (truthOf P).testBit (mir n) = false ∧
      (p.cl = 0 ∨ (D p.cl ∧ p.cl < 2 ^ (2 * V) ∧ p.cl.testBit n = true ∧ ∀ m, p.cl.testBit m = true → m ≠ n → (truthOf P).testBit (mir m) = true))

/-- A clause brings nothing more. -/
def Quiet (k S : Nat) : Prop := openOf k S ≠ 0 ∧ (single (openOf k S) = true → within (openOf k S) S = true)

/-- Ahead of each choice nothing more was brought. -/
def Rest (K : List Nat) (P : List Pk) : Prop := ∀ A c Q, P = A ++ c :: Q → c.cl = 0 → c.lev ≠ 0 → ∀ k ∈ K, Quiet k (truthOf Q)

theorem two_pow_bit (n m : Nat) : (2 ^ n).testBit m = true ↔ n = m := by rw [Nat.testBit_two_pow]; simp
theorem two_pow_lt {V n : Nat} (h : n < 2 * V) : 2 ^ n < 2 ^ (2 * V) := Nat.pow_lt_pow_right (by decide) h
theorem mir_ne (n : Nat) : mir n ≠ n := by unfold mir; split <;> omega
theorem mir_eq {a b : Nat} : mir a = b ↔ a = mir b := ⟨fun h => by rw [← h, mir_mir], fun h => by rw [h, mir_mir]⟩
theorem opp_pow_bit {V : Nat} (hV : V ≤ 20) {n : Nat} (hn : n < 2 * V) (m : Nat) : (opp (2 ^ n)).testBit m = true ↔ m = mir n := by
  rw [opp_bit' hV (two_pow_lt hn), two_pow_bit]
  exact ⟨fun h => by rw [h, mir_mir], fun h => by rw [h, mir_mir]⟩
theorem within_opp {V : Nat} (hV : V ≤ 20) {n : Nat} (hn : n < 2 * V) {c : Nat} (hc : c < 2 ^ (2 * V)) : within (opp (2 ^ n)) c = true ↔ c.testBit (mir n) = true := by
  rw [within_iff (lt64 hV (opp_lt hV (two_pow_lt hn))) (lt64 hV hc)]
  constructor
  · intro h; exact h _ ((opp_pow_bit hV hn _).2 rfl)
  · intro h m hm; rw [(opp_pow_bit hV hn m).1 hm]; exact h
theorem within_pow {V : Nat} (hV : V ≤ 20) {n : Nat} (hn : n < 2 * V) {c : Nat} (hc : c < 2 ^ (2 * V)) : within (2 ^ n) c = true ↔ c.testBit n = true := by
  rw [within_iff (lt64 hV (two_pow_lt hn)) (lt64 hV hc)]
  constructor
  · intro h; exact h _ ((two_pow_bit n n).2 rfl)
  · intro h m hm; rw [← (two_pow_bit n m).1 hm]; exact h

theorem bool_false {b : Bool} (h : ¬ b = true) : b = false := by cases b <;> simp_all

/-! Picks. -/

theorem truthOf_append (A P : List Pk) : truthOf (A ++ P) = truthOf P ||| truthOf A := by
  induction A with
  | nil => simp [truthOf]
  | cons p A ih => simp only [List.cons_append, truthOf, ih, Nat.or_assoc]

theorem truthOf_bit (P : List Pk) (n : Nat) : (truthOf P).testBit n = true ↔ ∃ p ∈ P, p.lit.testBit n = true := by
  induction P with
  | nil => simp [truthOf]
  | cons p P ih => simp only [truthOf, Nat.testBit_or, Bool.or_eq_true, ih, List.mem_cons, exists_eq_or_imp]; exact Or.comm

theorem lv_append (A P : List Pk) : lv P ≤ lv (A ++ P) := by
  induction A with
  | nil => exact Nat.le_refl _
  | cons p A ih => rw [List.cons_append, lv]; split <;> omega

theorem Trail.drop {V : Nat} {D : Nat → Prop} : ∀ {A P : List Pk}, Trail V D (A ++ P) → Trail V D P
  | [], _, h => h
  | _ :: A, _, h => Trail.drop (A := A) h.1

theorem Trail.mono {V : Nat} {D D' : Nat → Prop} (hD : ∀ k, D k → D' k) : ∀ {P : List Pk}, Trail V D P → Trail V D' P
  | [], _ => trivial
  | _ :: P, h => by
    obtain ⟨h1, h2, n, h3, h4, h5, h6, h7⟩ := h
    refine ⟨Trail.mono hD h1, h2, n, h3, h4, h5, h6, ?_⟩
    rcases h7 with h7 | ⟨a, b⟩
    · exact .inl h7
    · exact .inr ⟨hD _ a, b⟩

theorem Trail.lit {V : Nat} {D : Nat → Prop} {P : List Pk} (h : Trail V D P) {p : Pk} (hp : p ∈ P) : ∃ n, n < 2 * V ∧ p.lit = 2 ^ n := by
  induction P with
  | nil => cases hp
  | cons q P ih =>
    obtain ⟨h1, h2, n, h3, h4, -⟩ := h
    rcases List.mem_cons.1 hp with rfl | hp
    · exact ⟨n, h3, h4⟩
    · exact ih h1 hp

theorem Trail.small {V : Nat} {D : Nat → Prop} {P : List Pk} (h : Trail V D P) : truthOf P < 2 ^ (2 * V) := by
  induction P with
  | nil => exact Nat.two_pow_pos _
  | cons q P ih =>
    obtain ⟨h1, h2, n, h3, h4, -⟩ := h
    rw [truthOf, h4]
    exact Nat.or_lt_two_pow (ih h1) (two_pow_lt h3)

theorem Trail.apart {V : Nat} {D : Nat → Prop} {P : List Pk} (h : Trail V D P) : ∀ n, (truthOf P).testBit n = true → (truthOf P).testBit (mir n) = false := by
  induction P with
  | nil => intro n hn; simp [truthOf] at hn
  | cons q P ih =>
    obtain ⟨h1, h2, n, h3, h4, h5, h6, -⟩ := h
    intro m hm
    rw [truthOf, h4, Nat.testBit_or, Bool.or_eq_true, two_pow_bit] at hm
    rw [truthOf, h4, Nat.testBit_or, Bool.or_eq_false_iff]
    rcases hm with hm | rfl
    · refine ⟨ih h1 m hm, bool_false fun h => ?_⟩
      rw [two_pow_bit] at h
      rw [h, mir_mir, hm] at h6
      cases h6
    · refine ⟨h6, bool_false fun h => ?_⟩
      rw [two_pow_bit] at h
      exact mir_ne n h.symm

theorem Trail.level {V : Nat} {D : Nat → Prop} {P : List Pk} (h : Trail V D P) {p : Pk} (hp : p ∈ P) : p.lev ≤ lv P := by
  induction P with
  | nil => cases hp
  | cons q P ih =>
    rcases List.mem_cons.1 hp with rfl | hp
    · rw [h.2.1]; exact Nat.le_refl _
    · exact Nat.le_trans (ih h.1 hp) (lv_append [q] P)

/-- What was picked later is new. -/
theorem Trail.new {V : Nat} {D : Nat → Prop} : ∀ {A P : List Pk}, Trail V D (A ++ P) → ∀ {q : Pk} {k : Nat}, q ∈ A → q.lit = 2 ^ k → (truthOf P).testBit k = false
  | [], _, _, _, _, hq, _ => by cases hq
  | a :: A, P, h, q, k, hq, hk => by
    rcases List.mem_cons.1 hq with rfl | hq
    · obtain ⟨h1, h2, n, h3, h4, h5, -⟩ := h
      have : n = k := (two_pow_bit n k).1 (by rw [← h4, hk]; exact (two_pow_bit k k).2 rfl)
      subst this
      refine bool_false fun hb => ?_
      have h5 : (truthOf (A ++ P)).testBit n = false := h5
      rw [truthOf_append, Nat.testBit_or, hb] at h5
      cases h5
    · exact Trail.new (A := A) h.1 hq hk

theorem Trail.same {V : Nat} {D : Nat → Prop} {P : List Pk} (h : Trail V D P) {p q : Pk} (hp : p ∈ P) (hq : q ∈ P) (e : p.lit = q.lit) : p = q := by
  induction P with
  | nil => cases hp
  | cons a P ih =>
    have key : ∀ {x : Pk}, x ∈ P → a.lit = x.lit → False := fun {x} hx ex => by
      obtain ⟨n, hn, e1⟩ := Trail.lit h List.mem_cons_self
      have := Trail.new (A := [a]) (P := P) h List.mem_cons_self e1
      have hb : (truthOf P).testBit n = true := (truthOf_bit P n).2 ⟨x, hx, by rw [← ex, e1]; exact (two_pow_bit n n).2 rfl⟩
      rw [this] at hb; cases hb
    rcases List.mem_cons.1 hp with rfl | hp' <;> rcases List.mem_cons.1 hq with rfl | hq'
    · rfl
    · exact (key hq' e).elim
    · exact (key hp' e.symm).elim
    · exact ih h.1 hp' hq'

theorem Trail.pick {V : Nat} {D : Nat → Prop} {P : List Pk} (h : Trail V D P) {n : Nat} (hn : (truthOf P).testBit n = true) : ∃ p ∈ P, p.lit = 2 ^ n := by
  obtain ⟨p, hp, hb⟩ := (truthOf_bit P n).1 hn
  obtain ⟨m, hm, e⟩ := h.lit hp
  rw [e, two_pow_bit] at hb
  subst hb
  exact ⟨p, hp, e⟩

theorem pick_bit {P : List Pk} {p : Pk} {n : Nat} (hp : p ∈ P) (e : p.lit = 2 ^ n) : (truthOf P).testBit n = true := (truthOf_bit P n).2 ⟨p, hp, by rw [e]; exact (two_pow_bit n n).2 rfl⟩

/-- The last choice. -/
theorem last_choice {V : Nat} {D : Nat → Prop} : ∀ {P : List Pk}, Trail V D P → 0 < lv P → ∃ A c Q, P = A ++ c :: Q ∧ (c.cl = 0 ∧ c.lev ≠ 0) ∧ lv Q + 1 = lv P ∧ ∀ q ∈ A ++ [c], q.lev = lv P
  | [], _, h => by simp [lv] at h
  | p :: P, h, h0 => by
    by_cases e : p.cl = 0 ∧ p.lev ≠ 0
    · refine ⟨[], p, P, rfl, e, by rw [lv, if_pos e], fun q hq => ?_⟩
      simp only [List.nil_append, List.mem_singleton] at hq
      subst hq
      exact h.2.1
    · have hl : lv (p :: P) = lv P := by rw [lv, if_neg e]
      obtain ⟨A, c, Q, h1, h2, h3, h4⟩ := last_choice h.1 (by omega)
      refine ⟨p :: A, c, Q, by rw [h1]; rfl, h2, by omega, fun q hq => ?_⟩
      rw [List.cons_append] at hq
      rcases List.mem_cons.1 hq with rfl | hq
      · exact h.2.1
      · rw [hl]; exact h4 q hq

/-! The lemma. -/

/-- Opposites of what was picked at a level. -/
def falseAt (L : Nat) : List Pk → Nat → Nat
  | [], a => a
  | p :: P, a => falseAt L P (if p.lev = L then a ||| opp p.lit else a)

/-- A literal is replaced by the others of its clause. -/
def repl (last L : Nat) (p : Pk) (c : Nat) : Nat := if (p.lev = 0 ∨ (p.lev = L ∧ single (c &&& last) = false)) ∧ p.cl ≠ 0 ∧ within (opp p.lit) c = true then dif c (opp p.lit) ||| dif p.cl p.lit else c

def lemOf (last L : Nat) : List Pk → Nat → Nat
  | [], c => c
  | p :: P, c => lemOf last L P (repl last L p c)

theorem falseAt_bit {V : Nat} (hV : V ≤ 20) (L : Nat) : ∀ {P : List Pk}, (∀ p ∈ P, ∃ n, n < 2 * V ∧ p.lit = 2 ^ n) → ∀ (a m : Nat), (falseAt L P a).testBit m = true ↔ a.testBit m = true ∨ ∃ p ∈ P, p.lev = L ∧ p.lit = 2 ^ mir m
  | [], _, a, m => by simp [falseAt]
  | p :: P, h, a, m => by
    rw [falseAt, falseAt_bit hV L (fun q hq => h q (List.mem_cons_of_mem _ hq))]
    obtain ⟨n, hn, e⟩ := h p List.mem_cons_self
    simp only [List.mem_cons, exists_eq_or_imp]
    have he : p.lit = 2 ^ mir m ↔ m = mir n := by
      rw [e]
      constructor
      · intro h; have := (two_pow_bit n (mir m)).1 (by rw [h]; exact (two_pow_bit _ _).2 rfl); exact (mir_eq.1 this.symm)
      · intro h; rw [h, mir_mir]
    split
    · rename_i hl
      rw [Nat.testBit_or, Bool.or_eq_true, e, opp_pow_bit hV hn, ← e, he]
      simp only [hl, true_and, or_assoc]
    · rename_i hl
      simp only [hl, false_and, false_or]

/-- What is given against a set follows at once to a conflict. -/
def Rup (C : List (List Int)) (c : Nat) : Prop := Conf C fun l => l ≠ 0 ∧ c.testBit (mir (pl l)) = true

theorem Fol.trans {C : List (List Int)} {G G' : Int → Prop} (h : ∀ l, G l → Fol C G' l) {l : Int} (hl : Fol C G l) : Fol C G' l := by
  induction hl with
  | given hg => exact h _ hg
  | unit hc hl _ ih => exact .unit hc hl ih

theorem Conf.trans {C : List (List Int)} {G G' : Int → Prop} (h : ∀ l, G l → Fol C G' l) (hc : Conf C G) : Conf C G' := by
  rcases hc with ⟨l, h1, h2⟩ | ⟨c, hc, hm⟩
  · exact .inl ⟨l, h1.trans h, h2.trans h⟩
  · exact .inr ⟨c, hc, fun m hmc => (hm m hmc).trans h⟩

theorem Fol.more {C C' : List (List Int)} (hC : ∀ c ∈ C, c ∈ C') {G : Int → Prop} {l : Int} (hl : Fol C G l) : Fol C' G l := by
  induction hl with
  | given hg => exact .given hg
  | unit hc hl _ ih => exact .unit (hC _ hc) hl ih

/-- Of the clauses one, as a set. -/
def Known (V : Nat) (C : List (List Int)) (k : Nat) : Prop := ∃ d ∈ C, (∀ l ∈ d, IsLit V l) ∧ maskOf d = k

/-- A false clause starts. -/
theorem Rup.start {V : Nat} {C : List (List Int)} {k : Nat} (hk : Known V C k) : Rup C k := by
  obtain ⟨d, hd, hl, rfl⟩ := hk
  refine .inr ⟨d, hd, fun m hm => .given ⟨by have := (hl m hm).1; omega, ?_⟩⟩
  rw [← pl_neg (by have := (hl m hm).1; omega), Int.neg_neg]
  exact (maskOf_bit d _).2 ⟨m, hm, rfl⟩

theorem Rup.step {V : Nat} {C : List (List Int)} {k n c c' : Nat} (hk : Known V C k) (hn : k.testBit n = true) (hc : ∀ m, c.testBit m = true → m ≠ mir n → c'.testBit m = true) (hk' : ∀ m, k.testBit m = true → m ≠ n → c'.testBit m = true) (h : Rup C c) : Rup C c' := by
  obtain ⟨d, hd, hl, rfl⟩ := hk
  obtain ⟨x, hx, ex⟩ := (maskOf_bit d n).1 hn
  have hx0 := (hl x hx).1
  have key : Fol C (fun l => l ≠ 0 ∧ c'.testBit (mir (pl l)) = true) x := by
    refine .unit hd hx fun m hm hne => .given ⟨by have := (hl m hm).1; omega, ?_⟩
    rw [← pl_neg (by have := (hl m hm).1; omega), Int.neg_neg]
    exact hk' _ ((maskOf_bit d _).2 ⟨m, hm, rfl⟩) (fun e => hne (pl_inj (hl m hm).1 hx0 (by rw [e, ex])))
  refine Conf.trans (fun l hl' => ?_) h
  by_cases e : mir (pl l) = mir n
  · have : pl l = pl x := by rw [ex, ← mir_mir (pl l), e, mir_mir]
    rw [pl_inj hl'.1 hx0 this]
    exact key
  · exact .given ⟨hl'.1, hc _ hl'.2 e⟩

end Go.Proofs.YtlodenfdcckemaaDoor

/-
  The lemma of a conflict, of no program.
-/

namespace Go.Proofs.YtlodenfdcckemaaDoor

theorem single_two {V : Nat} (hV : V ≤ 20) {s : Nat} (hs : s < 2 ^ (2 * V)) (h0 : s ≠ 0) (h : single s = false) : ∀ n, ∃ m, m ≠ n ∧ s.testBit m = true := by
  intro n
  apply Classical.byContradiction
  intro hno
  have hall : ∀ m, s.testBit m = true → m = n := fun m hm => Classical.byContradiction fun hne => hno ⟨m, hne, hm⟩
  have : s = 2 ^ n := by
    have : ∃ m, s.testBit m = true := Classical.byContradiction fun hx => h0 (zero_iff_bits.2 fun i => bool_false fun hb => hx ⟨i, hb⟩)
    obtain ⟨m, hm⟩ := this
    apply Nat.eq_of_testBit_eq
    intro i
    rw [Bool.eq_iff_iff, two_pow_bit]
    constructor
    · intro hi; exact (hall i hi).symm
    · rintro rfl; rw [← hall m hm]; exact hm
  rw [(single_iff (lt64 hV hs)).2 ⟨n, this⟩] at h
  cases h

theorem single_one {s : Nat} (hs : s < 18446744073709551616) (h : single s = true) {n m : Nat} (hn : s.testBit n = true) (hm : s.testBit m = true) : n = m := by
  obtain ⟨k, rfl⟩ := (single_iff hs).1 h
  rw [two_pow_bit] at hn hm
  omega

theorem single_of {V : Nat} (hV : V ≤ 20) {s n : Nat} (hs : s < 2 ^ (2 * V)) (hn : s.testBit n = true) (h : ∀ m, s.testBit m = true → m = n) : single s = true := by
  refine Classical.byContradiction fun hx => ?_
  obtain ⟨m, h1, h2⟩ := single_two hV hs (fun h0 => by rw [h0] at hn; simp at hn) (bool_false hx) n
  exact h1 (h m h2)

/-- How far the lemma has come: A has been walked, P has not. -/
structure Half (V : Nat) (C : List (List Int)) (L last : Nat) (A P : List Pk) (c : Nat) : Prop where
  small : c < 2 ^ (2 * V)
  opps : ∀ m, c.testBit m = true → (truthOf (A ++ P)).testBit (mir m) = true
  zero : ∀ p ∈ A, p.lev = 0 → p.cl ≠ 0 → ∀ n, p.lit = 2 ^ n → c.testBit (mir n) = false
  some : 0 < L → ∃ m, c.testBit m = true ∧ last.testBit m = true
  one : 0 < L → single (c &&& last) = true ∨ ∀ p ∈ A, p.lev = L → ∀ n, p.lit = 2 ^ n → c.testBit (mir n) = false
  rup : Rup C c

theorem Half.step {V : Nat} (hV : V ≤ 20) {C : List (List Int)} {L last : Nat} {A P : List Pk} {p : Pk} {c : Nat} (hT : Trail V (Known V C) (A ++ p :: P))
    (hlast : ∀ m, last.testBit m = true ↔ ∃ q ∈ A ++ p :: P, q.lev = L ∧ q.lit = 2 ^ mir m)
    (h : Half V C L last A (p :: P) c) : Half V C L last (A ++ [p]) P (repl last L p c) := by
  have eL : A ++ p :: P = (A ++ [p]) ++ P := by simp
  have hTp : Trail V (Known V C) (p :: P) := hT.drop
  have hTP : Trail V (Known V C) P := hTp.1
  obtain ⟨-, hlevp, n, hn, elit, hnew, hnewm, hreason⟩ := hTp
  have hw := within_opp hV hn h.small
  have hcl : c &&& last < 2 ^ (2 * V) := Nat.lt_of_le_of_lt Nat.and_le_left h.small
  have hpm : p ∈ A ++ p :: P := by simp
  have hTu := hT
  rw [eL] at hTu
  -- what was walked is not picked below
  have hbelow : ∀ q ∈ A ++ [p], ∀ k, q.lit = 2 ^ k → (truthOf P).testBit k = false := fun q hq k hk => hTu.new hq hk
  -- one that was chosen is the last of its level
  have hchosen : p.cl = 0 → p.lev = L → 0 < L → (∀ q ∈ A, q.lev = L → ∀ k, q.lit = 2 ^ k → c.testBit (mir k) = false) → single (c &&& last) = true := by
    intro e hr hL h1
    have hl1 : p.lev = lv P + 1 := by rw [hlevp, lv, if_pos ⟨e, by omega⟩]
    have hone : ∀ m, (c &&& last).testBit m = true → m = mir n := by
      intro m hm
      rw [Nat.testBit_and, Bool.and_eq_true] at hm
      obtain ⟨q, hq, hql, hqe⟩ := (hlast m).1 hm.2
      rcases List.mem_append.1 hq with hq | hq
      · have := h1 q hq hql _ hqe
        rw [mir_mir, hm.1] at this
        cases this
      · rcases List.mem_cons.1 hq with rfl | hq
        · rw [elit] at hqe
          have := (two_pow_bit n (mir m)).1 (by rw [hqe]; exact (two_pow_bit _ _).2 rfl)
          exact mir_eq.1 this.symm
        · have := hTP.level hq
          omega
    obtain ⟨m, hm1, hm2⟩ := h.some hL
    have hmn := hone m (by rw [Nat.testBit_and, hm1, hm2]; rfl)
    exact single_of hV hcl (n := mir n) (by rw [Nat.testBit_and, ← hmn, hm1, hm2]; rfl) hone
  unfold repl
  rw [elit]
  by_cases hrep : (p.lev = 0 ∨ (p.lev = L ∧ single (c &&& last) = false)) ∧ p.cl ≠ 0 ∧ within (opp (2 ^ n)) c = true
  · rw [if_pos hrep]
    obtain ⟨hr, hncl, hin⟩ := hrep
    rw [hw] at hin
    rcases hreason with hreason | ⟨hD, hsm, hself, hothers⟩
    · exact absurd hreason hncl
    have h64 := lt64 hV h.small
    have ho64 := lt64 hV (opp_lt hV (two_pow_lt hn))
    have hk64 := lt64 hV hsm
    have hl64 := lt64 hV (two_pow_lt hn)
    have hbit : ∀ m, (dif c (opp (2 ^ n)) ||| dif p.cl (2 ^ n)).testBit m = true ↔ (c.testBit m = true ∧ m ≠ mir n) ∨ (p.cl.testBit m = true ∧ m ≠ n) := by
      intro m
      rw [Nat.testBit_or, Bool.or_eq_true, dif_bit h64 ho64, dif_bit hk64 hl64]
      simp only [Bool.and_eq_true, Bool.not_eq_true']
      have e1 : (opp (2 ^ n)).testBit m = false ↔ m ≠ mir n := by
        exact ⟨fun h hh => (by rw [(opp_pow_bit hV hn m).2 hh] at h; cases h), fun h => bool_false fun hh => h ((opp_pow_bit hV hn m).1 hh)⟩
      have e2 : (2 ^ n).testBit m = false ↔ m ≠ n := by
        constructor
        · intro h hh; rw [hh, (two_pow_bit n n).2 rfl] at h; cases h
        · intro h; exact bool_false fun hh => h ((two_pow_bit n m).1 hh).symm
      rw [e1, e2]
    have hreas : ∀ m, p.cl.testBit m = true → m ≠ n → ∀ q ∈ A ++ [p], ∀ k, q.lit = 2 ^ k → m ≠ mir k := by
      intro m hm hne q hq k hk e
      have := hothers m hm hne
      rw [e, mir_mir, hbelow q hq k hk] at this
      cases this
    refine ⟨Nat.or_lt_two_pow (dif_lt h.small) (dif_lt hsm), fun m hm => ?_, fun q hq hq0 hqc k hk => bool_false fun hb => ?_, fun hL => ?_, fun hL => ?_, ?_⟩
    · rw [← eL]
      rcases (hbit m).1 hm with ⟨h1, h2⟩ | ⟨h1, h2⟩
      · exact h.opps m h1
      · rw [truthOf_append, Nat.testBit_or]
        have : (truthOf (p :: P)).testBit (mir m) = true := by rw [truthOf, Nat.testBit_or, hothers m h1 h2]; rfl
        rw [this]; rfl
    · rcases (hbit _).1 hb with ⟨h1, h2⟩ | ⟨h1, h2⟩
      · rcases List.mem_append.1 hq with hq' | hq'
        · rw [h.zero q hq' hq0 hqc k hk] at h1; cases h1
        · rw [List.mem_singleton] at hq'
          subst hq'
          have : n = k := (two_pow_bit n k).1 (by rw [← elit, hk]; exact (two_pow_bit k k).2 rfl)
          exact h2 (by rw [this])
      · exact hreas _ h1 h2 q hq k hk rfl
    · rcases hr with hr | ⟨hr, hsing⟩
      · obtain ⟨m, h1, h2⟩ := h.some hL
        refine ⟨m, (hbit m).2 (.inl ⟨h1, fun e => ?_⟩), h2⟩
        obtain ⟨q, hq, hql, hqe⟩ := (hlast m).1 h2
        rw [e, mir_mir, ← elit] at hqe
        have := hT.same hq hpm hqe
        rw [this] at hql
        omega
      · obtain ⟨m0, h01, h02⟩ := h.some hL
        obtain ⟨m, h1, h2⟩ := single_two hV hcl (fun e => by have := zero_iff_bits.1 e m0; rw [Nat.testBit_and, h01, h02] at this; cases this) hsing (mir n)
        rw [Nat.testBit_and, Bool.and_eq_true] at h2
        exact ⟨m, (hbit m).2 (.inl ⟨h2.1, h1⟩), h2.2⟩
    · cases hs : single (c &&& last) with
      | true =>
        left
        have hr0 : p.lev = 0 := by
          rcases hr with hr | ⟨-, hr⟩
          · exact hr
          · rw [hs] at hr; cases hr
        obtain ⟨u, hu1, hu2⟩ := h.some hL
        have hnl : last.testBit (mir n) = false := bool_false fun hb => by
          obtain ⟨q, hq, hql, hqe⟩ := (hlast _).1 hb
          rw [mir_mir, ← elit] at hqe
          have := hT.same hq hpm hqe
          rw [this] at hql
          omega
        have hune : u ≠ mir n := fun e => by rw [e, hnl] at hu2; cases hu2
        refine single_of hV (n := u) (Nat.lt_of_le_of_lt Nat.and_le_left (Nat.or_lt_two_pow (dif_lt h.small) (dif_lt hsm))) (by rw [Nat.testBit_and, (hbit u).2 (.inl ⟨hu1, hune⟩), hu2]; rfl) fun m hm => ?_
        rw [Nat.testBit_and, Bool.and_eq_true] at hm
        rcases (hbit m).1 hm.1 with ⟨h1, -⟩ | ⟨h1, h2⟩
        · exact single_one (lt64 hV hcl) hs (by rw [Nat.testBit_and, h1, hm.2]; rfl) (by rw [Nat.testBit_and, hu1, hu2]; rfl)
        · obtain ⟨q, hq, hql, hqe⟩ := (hlast m).1 hm.2
          have hqP := hothers m h1 h2
          obtain ⟨q', hq', hqe'⟩ := hTP.pick hqP
          have : q = q' := hT.same hq (by simp [hq']) (by rw [hqe, hqe'])
          have h3 := hTP.level hq'
          have h4 : lv P ≤ p.lev := by rw [hlevp]; exact lv_append [p] P
          rw [this] at hql
          omega
      | false =>
        right
        intro q hq hql k hk
        refine bool_false fun hb => ?_
        rcases (hbit _).1 hb with ⟨h1, h2⟩ | ⟨h1, h2⟩
        · rcases List.mem_append.1 hq with hq' | hq'
          · rcases h.one hL with h3 | h3
            · rw [hs] at h3; cases h3
            · rw [h3 q hq' hql k hk] at h1; cases h1
          · rw [List.mem_singleton] at hq'
            subst hq'
            have : n = k := (two_pow_bit n k).1 (by rw [← elit, hk]; exact (two_pow_bit k k).2 rfl)
            exact h2 (by rw [this])
        · exact hreas _ h1 h2 q hq k hk rfl
    · exact Rup.step hD hself (fun m h1 h2 => (hbit m).2 (.inl ⟨h1, h2⟩)) (fun m h1 h2 => (hbit m).2 (.inr ⟨h1, h2⟩)) h.rup
  · rw [if_neg hrep]
    refine ⟨h.small, by rw [← eL]; exact h.opps, fun q hq hq0 hqc k hk => ?_, h.some, fun hL => ?_, h.rup⟩
    · rcases List.mem_append.1 hq with hq' | hq'
      · exact h.zero q hq' hq0 hqc k hk
      · rw [List.mem_singleton] at hq'
        subst hq'
        have : n = k := (two_pow_bit n k).1 (by rw [← elit, hk]; exact (two_pow_bit k k).2 rfl)
        subst this
        exact bool_false fun hb => hrep ⟨.inl hq0, hqc, hw.2 hb⟩
    · rcases h.one hL with h1 | h1
      · exact .inl h1
      · cases hs : single (c &&& last) with
        | true => exact .inl rfl
        | false =>
          right
          intro q hq hql k hk
          rcases List.mem_append.1 hq with hq' | hq'
          · exact h1 q hq' hql k hk
          · rw [List.mem_singleton] at hq'
            subst hq'
            have : n = k := (two_pow_bit n k).1 (by rw [← elit, hk]; exact (two_pow_bit k k).2 rfl)
            subst this
            by_cases hqc : q.cl = 0
            · rw [hchosen hqc hql hL h1] at hs; cases hs
            · exact bool_false fun hb => hrep ⟨.inr ⟨hql, hs⟩, hqc, hw.2 hb⟩

theorem Half.all {V : Nat} (hV : V ≤ 20) {C : List (List Int)} {L last : Nat} : ∀ {P A : List Pk} {c : Nat}, Trail V (Known V C) (A ++ P) → (∀ m, last.testBit m = true ↔ ∃ q ∈ A ++ P, q.lev = L ∧ q.lit = 2 ^ mir m) → Half V C L last A P c → Half V C L last (A ++ P) [] (lemOf last L P c)
  | [], A, c, _, _, h => by rw [List.append_nil]; exact h
  | p :: P, A, c, hT, hlast, h => by
    have e : A ++ p :: P = (A ++ [p]) ++ P := by simp
    have hs := h.step hV hT hlast
    rw [e] at hT hlast ⊢
    exact Half.all hV hT hlast hs

/-- What the lemma of a conflict is. -/
structure Lem (V : Nat) (C : List (List Int)) (K : List Nat) (P : List Pk) (c : Nat) : Prop where
  small : c < 2 ^ (2 * V)
  rup : Rup C c
  opps : ∀ m, c.testBit m = true → ∃ p ∈ P, p.lit = 2 ^ mir m ∧ (0 < p.lev ∨ p.cl = 0)
  last : 0 < lv P → ∃ u, c.testBit u = true ∧ (∃ p ∈ P, p.lit = 2 ^ mir u ∧ p.lev = lv P) ∧ ∀ m, c.testBit m = true → m ≠ u → ∃ p ∈ P, p.lit = 2 ^ mir m ∧ p.lev < lv P
  fresh : 0 < lv P → ∀ k ∈ K, within k c = false

theorem lem_made {V : Nat} (hV : V ≤ 20) {C : List (List Int)} {K : List Nat} {P : List Pk} {k : Nat} (hT : Trail V (Known V C) P) (hR : Rest K P) (hKs : ∀ k ∈ K, k < 2 ^ (2 * V)) (hk : k ∈ K) (hD : Known V C k) (h0 : openOf k (truthOf P) = 0) :
    Lem V C K P (lemOf (falseAt (lv P) P 0) (lv P) P k) := by
  have hlast : ∀ m, (falseAt (lv P) P 0).testBit m = true ↔ ∃ q ∈ P, q.lev = lv P ∧ q.lit = 2 ^ mir m := fun m => by
    rw [falseAt_bit hV (lv P) (fun p hp => hT.lit hp)]; simp
  have hopp : ∀ m, k.testBit m = true → (truthOf P).testBit (mir m) = true := fun m hm => by
    have := zero_iff_bits.1 h0 m
    rw [openOf_bit hV (hKs k hk) hT.small, hm] at this
    simpa using this
  -- below the last choice
  have hdec : 0 < lv P → ∃ Q, (∀ k ∈ K, Quiet k (truthOf Q)) ∧ Trail V (Known V C) Q ∧ (∀ p ∈ P, p.lev < lv P → p ∈ Q) ∧ (∀ n, (truthOf Q).testBit n = true → (truthOf P).testBit n = true) ∧ ∀ p ∈ Q, p ∈ P ∧ p.lev < lv P := fun hL => by
    obtain ⟨A, c, Q, e1, e2, e3, e4⟩ := last_choice hT hL
    have eQ : P = (A ++ [c]) ++ Q := by rw [e1]; simp
    have hTQ : Trail V (Known V C) Q := by rw [eQ] at hT; exact hT.drop
    refine ⟨Q, hR A c Q e1 e2.1 e2.2, hTQ, fun p hp hl => ?_, fun n hn => ?_, fun p hp => ⟨by rw [e1]; simp [hp], ?_⟩⟩
    · rw [eQ] at hp
      rcases List.mem_append.1 hp with hp | hp
      · have := e4 p hp; omega
      · exact hp
    · rw [e1, truthOf_append, Nat.testBit_or, truthOf, Nat.testBit_or, hn]; rfl
    · have := hTQ.level hp; omega
  have hstart : Half V C (lv P) (falseAt (lv P) P 0) [] P k := by
    refine ⟨hKs k hk, hopp, fun p hp => (by cases hp), fun hL => ?_, fun _ => Or.inr fun p hp => (by cases hp), Rup.start hD⟩
    apply Classical.byContradiction
    intro hno
    obtain ⟨Q, hq, hTQ, hin, -, -⟩ := hdec hL
    refine (hq k hk).1 (zero_iff_bits.2 fun m => bool_false fun hb => ?_)
    rw [openOf_bit hV (hKs k hk) hTQ.small, Bool.and_eq_true, Bool.not_eq_true'] at hb
    obtain ⟨p, hp, ep⟩ := hT.pick (hopp m hb.1)
    have hne : p.lev ≠ lv P := fun e => hno ⟨m, hb.1, (hlast m).2 ⟨p, hp, e, ep⟩⟩
    have hle := hT.level hp
    have := pick_bit (hin p hp (by omega)) ep
    rw [hb.2] at this
    cases this
  have hend := Half.all hV (A := []) (P := P) hT hlast hstart
  rw [List.nil_append] at hend
  generalize hc : lemOf (falseAt (lv P) P 0) (lv P) P k = c at hend
  have hpick : ∀ m, c.testBit m = true → ∃ p ∈ P, p.lit = 2 ^ mir m ∧ (0 < p.lev ∨ p.cl = 0) := fun m hm => by
    have h1 := hend.opps m hm
    rw [List.append_nil] at h1
    obtain ⟨p, hp, ep⟩ := hT.pick h1
    refine ⟨p, hp, ep, Classical.byContradiction fun hno => ?_⟩
    have := hend.zero p hp (Nat.eq_zero_of_not_pos fun e => hno (.inl e)) (fun e => hno (.inr e)) _ ep
    rw [mir_mir, hm] at this
    cases this
  have hlastu : 0 < lv P → ∃ u, c.testBit u = true ∧ (∃ p ∈ P, p.lit = 2 ^ mir u ∧ p.lev = lv P) ∧ ∀ m, c.testBit m = true → m ≠ u → ∃ p ∈ P, p.lit = 2 ^ mir m ∧ p.lev < lv P := fun hL => by
    obtain ⟨u, hu1, hu2⟩ := hend.some hL
    obtain ⟨q, hq, hql, hqe⟩ := (hlast u).1 hu2
    refine ⟨u, hu1, ⟨q, hq, hqe, hql⟩, fun m hm hne => ?_⟩
    obtain ⟨p, hp, ep, -⟩ := hpick m hm
    refine ⟨p, hp, ep, Nat.lt_of_le_of_ne (hT.level hp) fun e => ?_⟩
    have hml := (hlast m).2 ⟨p, hp, e, ep⟩
    rcases hend.one hL with h1 | h1
    · exact hne (single_one (lt64 hV (Nat.lt_of_le_of_lt Nat.and_le_left hend.small)) h1 (by rw [Nat.testBit_and, hm, hml]; rfl) (by rw [Nat.testBit_and, hu1, hu2]; rfl))
    · have := h1 p hp e _ ep
      rw [mir_mir, hm] at this
      cases this
  refine ⟨hend.small, hend.rup, hpick, hlastu, fun hL j hj => bool_false fun hw => ?_⟩
  obtain ⟨Q, hq, hTQ, hin, hup, hdown⟩ := hdec hL
  obtain ⟨u, hu, ⟨pu, hpu, epu, hlu⟩, hoth⟩ := hlastu hL
  have hsub := (within_iff (lt64 hV (hKs j hj)) (lt64 hV hend.small)).1 hw
  have hjs := hKs j hj
  have honly : ∀ m, (openOf j (truthOf Q)).testBit m = true → m = u := fun m hm => by
    rw [openOf_bit hV hjs hTQ.small, Bool.and_eq_true, Bool.not_eq_true'] at hm
    apply Classical.byContradiction
    intro hne
    obtain ⟨p, hp, ep, hl⟩ := hoth m (hsub m hm.1) hne
    have := pick_bit (hin p hp hl) ep
    rw [hm.2] at this
    cases this
  obtain ⟨hz, hs⟩ := hq j hj
  have hex : ∃ m, (openOf j (truthOf Q)).testBit m = true := Classical.byContradiction fun hx => hz (zero_iff_bits.2 fun i => bool_false fun hb => hx ⟨i, hb⟩)
  obtain ⟨m, hm⟩ := hex
  have hmu := honly m hm
  rw [hmu] at hm
  have hos : openOf j (truthOf Q) < 2 ^ (2 * V) := dif_lt hjs
  have hin' := (within_iff (lt64 hV hos) (lt64 hV hTQ.small)).1 (hs (single_of hV hos hm honly)) u hm
  have := hT.apart u (hup u hin')
  rw [pick_bit hpu epu] at this
  cases this

end Go.Proofs.YtlodenfdcckemaaDoor

/-
  The search's steps, of no program: back, choose, what an end says.
-/

namespace Go.Proofs.YtlodenfdcckemaaDoor

/-- The level to go back to. -/
def backLev (L c : Nat) : List Pk → Nat
  | [] => 0
  | p :: P => if p.lev < L ∧ within (opp p.lit) c = true then p.lev else backLev L c P

def popTo (to : Nat) : List Pk → List Pk
  | [] => []
  | p :: P => if to < lv (p :: P) then popTo to P else p :: P

theorem popTo_split (to : Nat) : ∀ P : List Pk, ∃ A, P = A ++ popTo to P
  | [] => ⟨[], rfl⟩
  | p :: P => by
    rw [popTo]
    split
    · obtain ⟨A, h⟩ := popTo_split to P
      exact ⟨p :: A, by rw [List.cons_append, ← h]⟩
    · exact ⟨[], rfl⟩

theorem popTo_lv (to : Nat) : ∀ P : List Pk, lv (popTo to P) ≤ to
  | [] => Nat.zero_le _
  | p :: P => by
    rw [popTo]
    split
    · exact popTo_lv to P
    · omega

theorem popTo_zero {V : Nat} {D : Nat → Prop} (to : Nat) : ∀ {P : List Pk}, Trail V D P → ∀ p ∈ P, p.lev = 0 → p ∈ popTo to P
  | [], _, _, hp, _ => hp
  | q :: P, hT, p, hp, h0 => by
    rw [popTo]
    split
    · rename_i hl
      rcases List.mem_cons.1 hp with rfl | hp
      · rw [← hT.2.1, h0] at hl
        omega
      · exact popTo_zero to hT.1 p hp h0
    · exact hp

theorem backLev_some {V : Nat} (hV : V ≤ 20) {D : Nat → Prop} (L c : Nat) (hc : c < 2 ^ (2 * V)) : ∀ {P : List Pk}, Trail V D P → 0 < backLev L c P → ∃ p ∈ P, p.lev = backLev L c P ∧ p.lev < L ∧ ∃ n, p.lit = 2 ^ n ∧ c.testBit (mir n) = true
  | [], _, h => by simp [backLev] at h
  | p :: P, hT, h => by
    rw [backLev] at h ⊢
    split
    · rename_i hp
      obtain ⟨n, hn, e⟩ := hT.lit List.mem_cons_self
      rw [e] at hp
      exact ⟨p, List.mem_cons_self, rfl, hp.1, n, e, (within_opp hV hn hc).1 hp.2⟩
    · rename_i hp
      rw [if_neg hp] at h
      obtain ⟨q, hq, h1⟩ := backLev_some hV L c hc hT.1 h
      exact ⟨q, List.mem_cons_of_mem _ hq, h1⟩

theorem Rest.drop {K : List Nat} {A P : List Pk} (h : Rest K (A ++ P)) : Rest K P := fun B c Q e => h (A ++ B) c Q (by rw [e, List.append_assoc])

/-- Back behind a lemma: ahead of each choice that is left the lemma brings nothing. -/
theorem Lem.rest {V : Nat} (hV : V ≤ 20) {C : List (List Int)} {K : List Nat} {P : List Pk} {c : Nat} (hT : Trail V (Known V C) P) (hR : Rest K P) (h : Lem V C K P c) (hL : 0 < lv P) : Rest (addTo K c) (popTo (backLev (lv P) c P) P) := by
  obtain ⟨A, eA⟩ := popTo_split (backLev (lv P) c P) P
  have hlv := popTo_lv (backLev (lv P) c P) P
  generalize eto : backLev (lv P) c P = to at *
  generalize popTo to P = P1 at *
  have hR1 : Rest K P1 := by rw [eA] at hR; exact hR.drop
  intro B ch Q eB hch hch2 k hk
  have hin : k ∈ K ∨ k = c := by
    unfold addTo at hk
    split at hk
    · exact .inl hk
    · split at hk
      · exact .inl hk
      · rcases List.mem_append.1 hk with hk | hk
        · exact .inl (List.mem_filter.1 hk).1
        · exact .inr (List.mem_singleton.1 hk)
  rcases hin with hin | rfl
  · exact hR1 B ch Q eB hch hch2 k hin
  · have eQ : P = (A ++ B ++ [ch]) ++ Q := by rw [eA, eB]; simp
    have hTQ : Trail V (Known V C) Q := by rw [eQ] at hT; exact hT.drop
    have hlq : lv Q + 1 ≤ to := by
      have : lv (ch :: Q) = lv Q + 1 := by rw [lv, if_pos ⟨hch, hch2⟩]
      have h2 := lv_append B (ch :: Q)
      rw [← eB] at h2
      omega
    obtain ⟨p, hp, hpl, hplt, n, epn, hcn⟩ := backLev_some hV (lv P) k h.small hT (by omega)
    rw [eto] at hpl
    obtain ⟨u, hu, ⟨pu, hpu, epu, hlu⟩, -⟩ := h.last hL
    have hopen : ∀ q ∈ P, ∀ j, q.lit = 2 ^ j → lv Q < q.lev → k.testBit (mir j) = true → (openOf k (truthOf Q)).testBit (mir j) = true := fun q hq j ej hl hb => by
      rw [openOf_bit hV h.small hTQ.small, hb, mir_mir]
      simp only [Bool.true_and, Bool.not_eq_true']
      refine bool_false fun hx => ?_
      obtain ⟨q', hq', e'⟩ := hTQ.pick hx
      have : q = q' := hT.same hq (by rw [eQ]; simp [hq']) (by rw [ej, e'])
      have h2 := hTQ.level hq'
      rw [this] at hl
      omega
    have o1 := hopen p hp n epn (by omega) hcn
    have o2 := hopen pu hpu (mir u) epu (by omega) (by rw [mir_mir]; exact hu)
    rw [mir_mir] at o2
    refine ⟨fun e => by rw [e] at o1; simp at o1, fun hs => ?_⟩
    have := single_one (lt64 hV (dif_lt h.small)) hs o1 o2
    have hpp : p.lit = pu.lit := by rw [epn, epu, ← this, mir_mir]
    have := hT.same hp hpu hpp
    rw [this] at hplt
    omega

/-- Sets without opposites, numbered: of each variable none, the one, or the other. -/
def dec : Nat → Nat → Nat
  | 0, _ => 0
  | V + 1, n => dec V (n % 3 ^ V) ||| (if n / 3 ^ V = 0 then 0 else if n / 3 ^ V = 1 then 2 ^ (2 * V) else 2 ^ (2 * V + 1))

theorem dec_lt : ∀ (V n : Nat), dec V n < 2 ^ (2 * V)
  | 0, _ => by simp [dec]
  | V + 1, n => by
    rw [dec]
    have h1 := dec_lt V (n % 3 ^ V)
    have h2 : 2 ^ (2 * V) < 2 ^ (2 * (V + 1)) := Nat.pow_lt_pow_right (by decide) (by omega)
    refine Nat.or_lt_two_pow (Nat.lt_trans h1 h2) ?_
    split
    · exact Nat.two_pow_pos _
    · split
      · exact h2
      · exact Nat.pow_lt_pow_right (by decide) (by omega)

theorem dec_all : ∀ (V c : Nat), c < 2 ^ (2 * V) → (∀ n, c.testBit n = true → c.testBit (mir n) = false) → ∃ n, n < 3 ^ V ∧ dec V n = c
  | 0, c, h, _ => ⟨0, by simp, by simp at h; simp [dec, h]⟩
  | V + 1, c, h, ha => by
    have hlow : c % 2 ^ (2 * V) < 2 ^ (2 * V) := Nat.mod_lt _ (Nat.two_pow_pos _)
    have hbit : ∀ n, (c % 2 ^ (2 * V)).testBit n = (decide (n < 2 * V) && c.testBit n) := fun n => Nat.testBit_mod_two_pow c (2 * V) n
    obtain ⟨m, hm, em⟩ := dec_all V (c % 2 ^ (2 * V)) hlow (fun n hn => by
      rw [hbit] at hn ⊢
      rw [Bool.and_eq_true] at hn
      rw [ha n hn.2]; simp)
    have hhi : ∀ n, c.testBit n = true → n < 2 * V ∨ n = 2 * V ∨ n = 2 * V + 1 := fun n hn => by
      have := bit_lt h hn
      omega
    have hno : ¬ (c.testBit (2 * V) = true ∧ c.testBit (2 * V + 1) = true) := fun ⟨h1, h2⟩ => by
      have := ha _ h1
      unfold mir at this
      rw [if_pos (by omega), h2] at this
      cases this
    have build : ∀ d : Nat, d < 3 → (c = (c % 2 ^ (2 * V)) ||| (if d = 0 then 0 else if d = 1 then 2 ^ (2 * V) else 2 ^ (2 * V + 1))) → ∃ n, n < 3 ^ (V + 1) ∧ dec (V + 1) n = c := fun d hd e => by
      refine ⟨d * 3 ^ V + m, ?_, ?_⟩
      · rw [Nat.pow_succ]
        have : d * 3 ^ V ≤ 2 * 3 ^ V := Nat.mul_le_mul_right _ (by omega)
        omega
      · have h0 : 0 < 3 ^ V := Nat.pow_pos (by decide)
        have e1 : (d * 3 ^ V + m) % 3 ^ V = m := by rw [Nat.mul_comm, Nat.mul_add_mod, Nat.mod_eq_of_lt hm]
        have e2 : (d * 3 ^ V + m) / 3 ^ V = d := by rw [Nat.mul_comm, Nat.mul_add_div h0, Nat.div_eq_of_lt hm, Nat.add_zero]
        rw [dec, e1, e2, em]
        exact e.symm
    have eqs : ∀ x : Nat, (∀ n, n < 2 * V → x.testBit n = false) → (∀ n, 2 * V ≤ n → c.testBit n = x.testBit n) → c = (c % 2 ^ (2 * V)) ||| x := fun x h1 h2 => by
      apply Nat.eq_of_testBit_eq
      intro n
      rw [Nat.testBit_or, hbit]
      by_cases hn : n < 2 * V
      · rw [h1 n hn]; simp [hn]
      · rw [h2 n (by omega)]; simp [hn]
    cases e1 : c.testBit (2 * V) with
    | true =>
      refine build 1 (by omega) (eqs _ (fun n hn => bool_false fun hb => ?_) (fun n hn => ?_))
      · simp only [Nat.one_ne_zero, if_false, if_true] at hb
        rw [two_pow_bit] at hb; omega
      · simp only [Nat.one_ne_zero, if_false, if_true]
        rw [Bool.eq_iff_iff, two_pow_bit]
        constructor
        · intro hb
          rcases hhi n hb with h3 | h3 | h3
          · omega
          · exact h3.symm
          · rw [h3] at hb; exact absurd ⟨e1, hb⟩ hno
        · rintro rfl; exact e1
    | false =>
      cases e2 : c.testBit (2 * V + 1) with
      | true =>
        refine build 2 (by omega) (eqs _ (fun n hn => bool_false fun hb => ?_) (fun n hn => ?_))
        · simp only [show ¬ (2 : Nat) = 0 by decide, show ¬ (2 : Nat) = 1 by decide, if_false] at hb
          rw [two_pow_bit] at hb; omega
        · simp only [show ¬ (2 : Nat) = 0 by decide, show ¬ (2 : Nat) = 1 by decide, if_false]
          rw [Bool.eq_iff_iff, two_pow_bit]
          constructor
          · intro hb
            rcases hhi n hb with h3 | h3 | h3
            · omega
            · rw [h3, e1] at hb; cases hb
            · exact h3.symm
          · rintro rfl; exact e2
      | false =>
        refine build 0 (by omega) ?_
        rw [if_pos rfl]
        refine eqs 0 (fun n _ => by simp) (fun n hn => ?_)
        rw [Nat.zero_testBit]
        refine bool_false fun hb => ?_
        rcases hhi n hb with h3 | h3 | h3
        · omega
        · rw [h3, e1] at hb; cases hb
        · rw [h3, e2] at hb; cases hb

/-- How many sets hold all of a kept one. -/
def cov (V : Nat) (K : List Nat) : Nat := (List.range (3 ^ V)).countP fun m => K.any fun k => within k (dec V m)

theorem cov_le (V : Nat) (K : List Nat) : cov V K ≤ 3 ^ V := by
  have := List.countP_le_length (p := fun m => K.any fun k => within k (dec V m)) (l := List.range (3 ^ V))
  rwa [List.length_range] at this

theorem countP_less {p q : Nat → Bool} : ∀ (l : List Nat), (∀ x ∈ l, q x = true → p x = true) → (∃ x ∈ l, p x = true ∧ q x = false) → l.countP q < l.countP p
  | [], _, h => by obtain ⟨x, hx, _⟩ := h; cases hx
  | y :: l, hle, h => by
    have hle' : ∀ x ∈ l, q x = true → p x = true := fun x hx => hle x (List.mem_cons_of_mem _ hx)
    have hm : l.countP q ≤ l.countP p := List.countP_mono_left hle'
    rw [List.countP_cons, List.countP_cons]
    obtain ⟨x, hx, h1, h2⟩ := h
    rcases List.mem_cons.1 hx with rfl | hx
    · simp only [h1, h2, if_true]; simp; omega
    · have := countP_less l hle' ⟨x, hx, h1, h2⟩
      have hy := hle y List.mem_cons_self
      cases hq : q y <;> cases hp : p y
      · simp; omega
      · simp; omega
      · rw [hy hq] at hp; cases hp
      · simp; omega

theorem within_self (c : Nat) (h : c < 18446744073709551616) : within c c = true := (within_iff h h).2 fun _ h => h

theorem cov_add {V : Nat} (hV : V ≤ 20) {K : List Nat} {c : Nat} (hKs : ∀ k ∈ K, k < 2 ^ (2 * V)) (hc : c < 2 ^ (2 * V)) (ha : ∀ n, c.testBit n = true → c.testBit (mir n) = false) (hcl : clash c = 0) (hf : ∀ k ∈ K, within k c = false) : cov V K < cov V (addTo K c) := by
  have hany : (K.any fun k => within k c) = false := by
    rw [List.any_eq_false]
    intro k hk; rw [hf k hk]; decide
  have e : addTo K c = K.filter (fun k => !within c k) ++ [c] := by
    unfold addTo
    rw [if_neg (by rw [hcl]; simp), if_neg (by rw [hany]; simp)]
  obtain ⟨n, hn, en⟩ := dec_all V c hc ha
  unfold cov
  refine countP_less _ (fun m _ hq => ?_) ⟨n, List.mem_range.2 hn, ?_, by rw [en]; exact hany⟩
  · rw [List.any_eq_true] at hq ⊢
    obtain ⟨k, hk, hw⟩ := hq
    have hm64 := lt64 hV (dec_lt V m)
    rw [e]
    by_cases hd : within c k = true
    · refine ⟨c, by simp, (within_iff (lt64 hV hc) hm64).2 fun n hn => ?_⟩
      exact (within_iff (lt64 hV (hKs k hk)) hm64).1 hw n ((within_iff (lt64 hV hc) (lt64 hV (hKs k hk))).1 hd n hn)
    · exact ⟨k, List.mem_append_left _ (List.mem_filter.2 ⟨hk, by simp [hd]⟩), hw⟩
  · rw [List.any_eq_true]
    exact ⟨c, by rw [e]; simp, by rw [en]; exact within_self c (lt64 hV hc)⟩

/-! Sets as lists. -/

theorem mask_list {s : Nat} (hs : s < 18446744073709551616) : maskOf (litsOf 64 s) = s := by
  apply Nat.eq_of_testBit_eq
  intro n
  rw [Bool.eq_iff_iff, maskOf_bit]
  unfold litsOf
  constructor
  · rintro ⟨l, hl, e⟩
    rw [List.mem_map] at hl
    obtain ⟨i, hi, rfl⟩ := hl
    rw [pl_atp] at e
    subst e
    exact (List.mem_filter.1 hi).2
  · intro hn
    exact ⟨atp n, List.mem_map.2 ⟨n, List.mem_filter.2 ⟨List.mem_range.2 (bit_lt (show s < 2 ^ 64 from hs) hn), hn⟩, rfl⟩, pl_atp n⟩

theorem list_lit {V s : Nat} (hs : s < 2 ^ (2 * V)) : ∀ l ∈ litsOf 64 s, IsLit V l := by
  intro l hl
  unfold litsOf at hl
  rw [List.mem_map] at hl
  obtain ⟨i, hi, rfl⟩ := hl
  exact atp_lit (bit_lt hs (List.mem_filter.1 hi).2)

theorem litsOf_two (V s : Nat) : litsOf (2 * (V + 1)) s = litsOf (2 * V) s ++ ((if s.testBit (2 * V) then [((V + 1 : Nat) : Int)] else []) ++ if s.testBit (2 * V + 1) then [-((V + 1 : Nat) : Int)] else []) := by
  unfold litsOf
  rw [show 2 * (V + 1) = 2 * V + 1 + 1 by omega, List.range_succ, List.range_succ]
  simp only [List.filter_append, List.map_append, List.append_assoc]
  congr 1
  have e1 : atp (2 * V) = ((V + 1 : Nat) : Int) := by unfold atp; split <;> omega
  have e2 : atp (2 * V + 1) = -((V + 1 : Nat) : Int) := by unfold atp; split <;> omega
  rw [List.filter_cons, List.filter_cons, List.filter_nil]
  cases s.testBit (2 * V) <;> cases s.testBit (2 * V + 1) <;> simp [e1, e2]

theorem litsOf_half (s : Nat) (h : ∀ n, s.testBit n = true → s.testBit (mir n) = false) : ∀ V, (litsOf (2 * V) s).length ≤ V
  | 0 => by simp [litsOf]
  | V + 1 => by
    rw [litsOf_two, List.length_append, List.length_append]
    have := litsOf_half s h V
    have hm : s.testBit (2 * V) = true → s.testBit (2 * V + 1) = false := fun hb => by
      have := h _ hb
      unfold mir at this
      rwa [if_pos (by omega)] at this
    cases e1 : s.testBit (2 * V) with
    | false => cases s.testBit (2 * V + 1) <;> simp <;> omega
    | true => rw [hm e1]; simp; omega

/-- An assignment as it is told. -/
def modelOf (V s : Nat) : List Int := (List.range V).map fun v => if s.testBit (2 * v) then ((v + 1 : Nat) : Int) else -((v + 1 : Nat) : Int)

theorem litsOf_model (s : Nat) : ∀ V, (∀ v, v < V → s.testBit (2 * v + 1) = !s.testBit (2 * v)) → litsOf (2 * V) s = modelOf V s
  | 0, _ => by simp [litsOf, modelOf]
  | V + 1, h => by
    rw [litsOf_two, litsOf_model s V (fun v hv => h v (by omega)), h V (by omega)]
    unfold modelOf
    rw [List.range_succ, List.map_append]
    congr 1
    cases e : s.testBit (2 * V) <;> simp [e]

end Go.Proofs.YtlodenfdcckemaaDoor

/-
  The search as steps, of no program: what holds at each, and what an end says.
-/

namespace Go.Proofs.YtlodenfdcckemaaDoor

/-- What follows, going through the kept clauses again and again: what a pass has left, what has come, whether anything was new; and how it ends: with all that has come, or at a clause. -/
inductive Goes (K : List Nat) : List Nat → Bool → List Pk → List Pk × Option Nat → Prop
  | conf {k r b P} : openOf k (truthOf P) = 0 → Goes K (k :: r) b P (P, some k)
  | unit {k r b P R} : openOf k (truthOf P) ≠ 0 → single (openOf k (truthOf P)) = true → within (openOf k (truthOf P)) (truthOf P) = false → Goes K r true (⟨openOf k (truthOf P), k, lv P⟩ :: P) R → Goes K (k :: r) b P R
  | skip {k r b P R} : openOf k (truthOf P) ≠ 0 → (single (openOf k (truthOf P)) = true → within (openOf k (truthOf P)) (truthOf P) = true) → Goes K r b P R → Goes K (k :: r) b P R
  | again {P R} : Goes K K false P R → Goes K [] true P R
  | done {P} : Goes K [] false P (P, none)

theorem Goes.det {K r : List Nat} {b : Bool} {P : List Pk} {R R' : List Pk × Option Nat} (h : Goes K r b P R) (h' : Goes K r b P R') : R = R' := by
  induction h with
  | conf h0 =>
    cases h' with
    | conf => rfl
    | unit h1 => exact absurd h0 h1
    | skip h1 => exact absurd h0 h1
  | unit h1 h2 h3 _ ih =>
    cases h' with
    | conf h0 => exact absurd h0 h1
    | unit _ _ _ h4 => exact ih h4
    | skip _ h5 => rw [h5 h2] at h3; cases h3
  | skip h1 h2 _ ih =>
    cases h' with
    | conf h0 => exact absurd h0 h1
    | unit _ h4 h5 => rw [h2 h4] at h5; cases h5
    | skip _ _ h3 => exact ih h3
  | again _ ih => cases h' with | again h => exact ih h
  | done => cases h'; rfl

/-- The literal to choose. -/
def chooseOf (ch : List Nat) (S : Nat) : Option Nat := ch.find? fun l => !within l (S ||| opp S)

/-- A state: the kept clauses, the picks, the lemmas found. -/
structure Cf where
  K : List Nat
  P : List Pk
  F : List Nat

/-- How a search ends: an assignment's set, or the lemmas. -/
inductive End
  | sat (S : Nat)
  | unsat (F : List Nat)

inductive Turn (G : Nat) (ch : List Nat) : Cf → Cf ⊕ End → Prop
  | learn {K P F P' k c} : Goes K [] true P (P', some k) → c = lemOf (falseAt (lv P') P' 0) (lv P') P' k → within c (opp G) = false → Turn G ch ⟨K, P, F⟩ (.inl ⟨addTo K c, popTo (backLev (lv P') c P') P', F ++ [c]⟩)
  | ended {K P F P' k c} : Goes K [] true P (P', some k) → c = lemOf (falseAt (lv P') P' 0) (lv P') P' k → within c (opp G) = true → Turn G ch ⟨K, P, F⟩ (.inr (.unsat (F ++ [c])))
  | chose {K P F P' l} : Goes K [] true P (P', none) → chooseOf ch (truthOf P') = some l → Turn G ch ⟨K, P, F⟩ (.inl ⟨K, ⟨l, 0, lv P' + 1⟩ :: P', F⟩)
  | found {K P F P'} : Goes K [] true P (P', none) → chooseOf ch (truthOf P') = none → Turn G ch ⟨K, P, F⟩ (.inr (.sat (truthOf P')))

theorem Turn.det {G : Nat} {ch : List Nat} {a : Cf} {r r' : Cf ⊕ End} (h : Turn G ch a r) (h' : Turn G ch a r') : r = r' := by
  cases h with
  | learn g1 e1 n1 =>
    cases h' with
    | learn g2 e2 n2 =>
      have := g1.det g2
      simp only [Prod.mk.injEq, Option.some.injEq] at this
      obtain ⟨rfl, rfl⟩ := this
      subst e1; subst e2; rfl
    | ended g2 e2 n2 =>
      have := g1.det g2
      simp only [Prod.mk.injEq, Option.some.injEq] at this
      obtain ⟨rfl, rfl⟩ := this
      rw [e1] at n1; rw [e2, n1] at n2; cases n2
    | chose g2 _ => have := g1.det g2; simp at this
    | found g2 _ => have := g1.det g2; simp at this
  | ended g1 e1 n1 =>
    cases h' with
    | learn g2 e2 n2 =>
      have := g1.det g2
      simp only [Prod.mk.injEq, Option.some.injEq] at this
      obtain ⟨rfl, rfl⟩ := this
      rw [e1] at n1; rw [e2, n1] at n2; cases n2
    | ended g2 e2 _ =>
      have := g1.det g2
      simp only [Prod.mk.injEq, Option.some.injEq] at this
      obtain ⟨rfl, rfl⟩ := this
      subst e1; subst e2; rfl
    | chose g2 _ => have := g1.det g2; simp at this
    | found g2 _ => have := g1.det g2; simp at this
  | chose g1 e1 =>
    cases h' with
    | learn g2 _ _ => have := g1.det g2; simp at this
    | ended g2 _ => have := g1.det g2; simp at this
    | chose g2 e2 =>
      have := g1.det g2
      simp only [Prod.mk.injEq, and_true] at this
      subst this
      rw [e1] at e2
      simp only [Option.some.injEq] at e2
      subst e2; rfl
    | found g2 e2 =>
      have := g1.det g2
      simp only [Prod.mk.injEq, and_true] at this
      subst this
      rw [e1] at e2; cases e2
  | found g1 e1 =>
    cases h' with
    | learn g2 _ _ => have := g1.det g2; simp at this
    | ended g2 _ => have := g1.det g2; simp at this
    | chose g2 e2 =>
      have := g1.det g2
      simp only [Prod.mk.injEq, and_true] at this
      subst this
      rw [e1] at e2; cases e2
    | found g2 e2 =>
      have := g1.det g2
      simp only [Prod.mk.injEq, and_true] at this
      subst this; rfl

/-- From a state to an end. -/
inductive Ends (G : Nat) (ch : List Nat) : Cf → End → Prop
  | last {a e} : Turn G ch a (.inr e) → Ends G ch a e
  | step {a b e} : Turn G ch a (.inl b) → Ends G ch b e → Ends G ch a e

theorem Ends.det {G : Nat} {ch : List Nat} {a : Cf} {e e' : End} (h : Ends G ch a e) (h' : Ends G ch a e') : e = e' := by
  induction h with
  | last h1 =>
    cases h' with
    | last h2 => have := h1.det h2; simpa using this
    | step h2 _ => have := h1.det h2; simp at this
  | step h1 _ ih =>
    cases h' with
    | last h2 => have := h1.det h2; simp at this
    | step h2 h3 =>
      have := h1.det h2
      simp only [Sum.inl.injEq] at this
      subst this
      exact ih h3

/-! What holds at each state. -/

/-- The clauses, and the lemmas behind them. -/
def withF (cs : List (List Int)) (F : List Nat) : List (List Int) := cs ++ F.map (litsOf 64)

/-- A lemma as a step of a proof. -/
structure GoodLem (V : Nat) (C : List (List Int)) (c : Nat) : Prop where
  small : c < 2 ^ (2 * V)
  some : c ≠ 0
  half : ∀ n, c.testBit n = true → c.testBit (mir n) = false
  rup : Rup C c

/-- What was given lies at the level 0, and nothing else that no clause has brought. -/
structure Giv (G : Nat) (P : List Pk) : Prop where
  only : ∀ p ∈ P, p.cl = 0 → p.lev = 0 → ∀ n, p.lit = 2 ^ n → G.testBit n = true
  all : ∀ n, G.testBit n = true → ∃ p ∈ P, p.lit = 2 ^ n ∧ p.lev = 0

structure SInv (V G : Nat) (cs : List (List Int)) (a : Cf) : Prop where
  cover : Cover V a.K (withF cs a.F)
  trail : Trail V (Known V (withF cs a.F)) a.P
  rest : Rest a.K a.P
  lems : ∀ i c, a.F[i]? = some c → GoodLem V (withF cs (a.F.take i)) c
  cnt : a.F.length ≤ cov V a.K
  len : a.K.length ≤ cs.length + a.F.length
  giv : Giv G a.P
  gs : G < 2 ^ (2 * V)

theorem Cover.known {V : Nat} {K : List Nat} {C : List (List Int)} (h : Cover V K C) {k : Nat} (hk : k ∈ K) : Known V C k := by
  obtain ⟨c, hc, e⟩ := h.kept k hk
  exact ⟨c, hc, h.lits c hc, e.symm⟩

/-- A unit clause's pick. -/
theorem Trail.unit {V : Nat} (hV : V ≤ 20) {D : Nat → Prop} {P : List Pk} (h : Trail V D P) {k : Nat} (hk : k < 2 ^ (2 * V)) (hD : D k) (h1 : single (openOf k (truthOf P)) = true) (h2 : within (openOf k (truthOf P)) (truthOf P) = false) : Trail V D (⟨openOf k (truthOf P), k, lv P⟩ :: P) := by
  have hos : openOf k (truthOf P) < 2 ^ (2 * V) := dif_lt hk
  obtain ⟨n, e⟩ := (single_iff (lt64 hV hos)).1 h1
  have hob := openOf_bit hV hk h.small
  have hn := hob n
  rw [e, (two_pow_bit n n).2 rfl] at hn
  have hn := hn.symm
  simp only [Bool.and_eq_true, Bool.not_eq_true'] at hn
  have hnV := bit_lt hk hn.1
  have hk0 : k ≠ 0 := fun h0 => by rw [h0] at hn; simp at hn
  refine ⟨h, by simp only [lv, hk0, false_and, if_false], n, hnV, e, bool_false fun hb => ?_, hn.2, .inr ⟨hD, hk, hn.1, fun m hm hne => ?_⟩⟩
  · rw [e, (within_pow hV hnV h.small).2 hb] at h2; cases h2
  · have := hob m
    rw [hm, e] at this
    have hne' : (2 ^ n).testBit m = false := bool_false fun hh => hne ((two_pow_bit n m).1 hh).symm
    rw [hne'] at this
    simpa using this.symm

/-- How a walk through the kept clauses ends. -/
def StopOk (K : List Nat) (P : List Pk) : Option Nat → Prop
  | some k => k ∈ K ∧ openOf k (truthOf P) = 0
  | none => ∀ k ∈ K, Quiet k (truthOf P)

/-- What a walk through the kept clauses leaves. -/
theorem Goes.spec {V : Nat} (hV : V ≤ 20) {D : Nat → Prop} {K : List Nat} (hKs : ∀ k ∈ K, k < 2 ^ (2 * V)) (hD : ∀ k ∈ K, D k) {r : List Nat} {b : Bool} {P : List Pk} {R : List Pk × Option Nat} (h : Goes K r b P R) :
    (∃ B, K = B ++ r ∧ (b = false → ∀ k ∈ B, Quiet k (truthOf P))) → Trail V D P → Rest K P →
      Trail V D R.1 ∧ Rest K R.1 ∧ lv R.1 = lv P ∧ StopOk K R.1 R.2 := by
  induction h with
  | conf h0 => rintro ⟨B, e, -⟩ hT hR; exact ⟨hT, hR, rfl, by rw [e]; simp, h0⟩
  | @unit k r b P R h1 h2 h3 _ ih =>
    rintro ⟨B, e, -⟩ hT hR
    have hk : k ∈ K := by rw [e]; simp
    have hT' := hT.unit hV (hKs k hk) (hD k hk) h2 h3
    have hk0 : k ≠ 0 := fun h0 => h1 (by rw [h0]; unfold openOf dif; simp)
    have hR' : Rest K (⟨openOf k (truthOf P), k, lv P⟩ :: P) := by
      intro A c Q eA hc hc2
      cases A with
      | nil =>
        simp only [List.nil_append, List.cons.injEq] at eA
        rw [← eA.1] at hc
        exact absurd hc hk0
      | cons a A =>
        simp only [List.cons_append, List.cons.injEq] at eA
        exact hR A c Q eA.2 hc hc2
    obtain ⟨a1, a2, a3, a4⟩ := ih ⟨B ++ [k], by rw [e]; simp, fun h => by cases h⟩ hT' hR'
    refine ⟨a1, a2, ?_, a4⟩
    rw [a3, lv, if_neg (fun h => hk0 h.1)]
  | @skip k r b P R h1 h2 _ ih =>
    rintro ⟨B, e, hB⟩ hT hR
    refine ih ⟨B ++ [k], by rw [e]; simp, fun hb x hx => ?_⟩ hT hR
    rcases List.mem_append.1 hx with hx | hx
    · exact hB hb x hx
    · rw [List.mem_singleton] at hx; subst hx; exact ⟨h1, h2⟩
  | again _ ih =>
    rintro - hT hR
    exact ih ⟨[], rfl, fun _ k hk => by cases hk⟩ hT hR
  | done =>
    rintro ⟨B, e, hB⟩ hT hR
    rw [List.append_nil] at e
    exact ⟨hT, hR, rfl, by rw [e]; exact hB rfl⟩

theorem withF_snoc (cs : List (List Int)) (F : List Nat) (c : Nat) : withF cs (F ++ [c]) = withF cs F ++ [litsOf 64 c] := by unfold withF; simp

theorem Known.more {V : Nat} {C C' : List (List Int)} (h : ∀ c ∈ C, c ∈ C') {k : Nat} (hk : Known V C k) : Known V C' k := by
  obtain ⟨d, hd, r⟩ := hk
  exact ⟨d, h d hd, r⟩

/-- Literals to choose: of each variable one. -/
structure Chs (V : Nat) (ch : List Nat) : Prop where
  lit : ∀ l ∈ ch, ∃ n, n < 2 * V ∧ l = 2 ^ n
  all : ∀ v, v < V → ∃ l ∈ ch, l = 2 ^ (2 * v) ∨ l = 2 ^ (2 * v + 1)

/-- How many places are not in a set. -/
def vac (S : Nat) : Nat := (List.range 64).countP fun n => !S.testBit n

theorem vac_lt {S T n : Nat} (hn : n < 64) (h : ∀ m, S.testBit m = true → T.testBit m = true) (h1 : S.testBit n = false) (h2 : T.testBit n = true) : vac T < vac S := by
  refine countP_less _ (fun x _ hx => ?_) ⟨n, List.mem_range.2 hn, by simp [h1], by simp [h2]⟩
  cases e : S.testBit x with
  | false => rfl
  | true => rw [h x e] at hx; cases hx

theorem vac_le (S : Nat) : vac S ≤ 64 := by
  have := List.countP_le_length (p := fun n => !S.testBit n) (l := List.range 64)
  rwa [List.length_range] at this

theorem Goes.grow {K r : List Nat} {b : Bool} {P : List Pk} {R : List Pk × Option Nat} (h : Goes K r b P R) : ∀ m, (truthOf P).testBit m = true → (truthOf R.1).testBit m = true := by
  induction h with
  | conf _ => exact fun m h => h
  | unit _ _ _ _ ih => exact fun m h => ih m (by rw [truthOf, Nat.testBit_or, h]; rfl)
  | skip _ _ _ ih => exact ih
  | again _ ih => exact ih
  | done => exact fun m h => h

/-- What was picked stays, what comes was brought. -/
theorem Goes.old {K r : List Nat} {b : Bool} {P : List Pk} {R : List Pk × Option Nat} (h : Goes K r b P R) : (∀ p ∈ P, p ∈ R.1) ∧ ∀ p ∈ R.1, p ∈ P ∨ p.cl ≠ 0 := by
  induction h with
  | conf _ => exact ⟨fun _ h => h, fun _ h => .inl h⟩
  | @unit k r b P R h1 _ _ _ ih =>
    refine ⟨fun p hp => ih.1 p (List.mem_cons_of_mem _ hp), fun p hp => ?_⟩
    rcases ih.2 p hp with h | h
    · rcases List.mem_cons.1 h with rfl | h
      · exact .inr fun h0 => h1 (by rw [show k = 0 from h0]; unfold openOf dif; simp)
      · exact .inl h
    · exact .inr h
  | skip _ _ _ ih => exact ih
  | again _ ih => exact ih
  | done => exact ⟨fun _ h => h, fun _ h => .inl h⟩

theorem Giv.goes {G : Nat} {K r : List Nat} {b : Bool} {P : List Pk} {R : List Pk × Option Nat} (hG : Giv G P) (h : Goes K r b P R) : Giv G R.1 := by
  obtain ⟨h1, h2⟩ := h.old
  refine ⟨fun p hp hc hl n hn => ?_, fun n hn => ?_⟩
  · rcases h2 p hp with h | h
    · exact hG.only p h hc hl n hn
    · exact absurd hc h
  · obtain ⟨p, hp, e, l⟩ := hG.all n hn
    exact ⟨p, h1 p hp, e, l⟩

/-- What falls at each turn. -/
def smeas (V : Nat) (a : Cf) : Nat := (3 ^ V - cov V a.K) * 65 + vac (truthOf a.P)

theorem SInv.goes {V G : Nat} (hV : V ≤ 20) {cs : List (List Int)} {a : Cf} (h : SInv V G cs a) {P : List Pk} {o : Option Nat} (hg : Goes a.K [] true a.P (P, o)) : Trail V (Known V (withF cs a.F)) P ∧ Rest a.K P ∧ StopOk a.K P o := by
  obtain ⟨h1, h2, -, h4⟩ := hg.spec hV (fun k hk => h.cover.small hk) (fun k hk => h.cover.known hk) ⟨a.K, by simp, fun h => by cases h⟩ h.trail h.rest
  exact ⟨h1, h2, h4⟩

theorem SInv.lem {V G : Nat} (hV : V ≤ 20) {cs : List (List Int)} {a : Cf} (h : SInv V G cs a) {P : List Pk} {k : Nat} (hg : Goes a.K [] true a.P (P, some k)) : Lem V (withF cs a.F) a.K P (lemOf (falseAt (lv P) P 0) (lv P) P k) := by
  obtain ⟨h1, h2, h3, h4⟩ := h.goes hV hg
  exact lem_made hV h1 h2 (fun k hk => h.cover.small hk) h3 (h.cover.known h3) h4

theorem Lem.good {V : Nat} {C : List (List Int)} {K : List Nat} {P : List Pk} {c : Nat} (hT : Trail V (Known V C) P) (h : Lem V C K P c) (h0 : c ≠ 0) : GoodLem V C c := by
  refine ⟨h.small, h0, fun n hn => bool_false fun hm => ?_, h.rup⟩
  obtain ⟨p, hp, ep, -⟩ := h.opps n hn
  obtain ⟨q, hq, eq, -⟩ := h.opps _ hm
  rw [mir_mir] at eq
  have := hT.apart n (pick_bit hq eq)
  rw [pick_bit hp ep] at this
  cases this

theorem GoodLem.clash {V : Nat} (hV : V ≤ 20) {C : List (List Int)} {c : Nat} (h : GoodLem V C c) : clash c = 0 := by
  rw [zero_iff_bits]
  intro n
  unfold Go.Proofs.YtlodenfdcckemaaDoor.clash
  rw [Nat.testBit_and, opp_bit' hV h.small]
  cases e : c.testBit n with
  | false => rfl
  | true => rw [h.half n e]; rfl

theorem addTo_length (K : List Nat) (m : Nat) : (addTo K m).length ≤ K.length + 1 := by
  unfold addTo
  split
  · omega
  · split
    · omega
    · simp only [List.length_append, List.length_singleton]
      have := List.length_filter_le (fun k => !within m k) K
      omega

theorem opp_within {V : Nat} (hV : V ≤ 20) {G c : Nat} (hG : G < 2 ^ (2 * V)) (hc : c < 2 ^ (2 * V)) : within c (opp G) = true ↔ ∀ m, c.testBit m = true → G.testBit (mir m) = true := by
  rw [within_iff (lt64 hV hc) (lt64 hV (opp_lt hV hG))]
  constructor
  · intro h m hm; have := h m hm; rwa [opp_bit' hV hG] at this
  · intro h m hm; rw [opp_bit' hV hG]; exact h m hm

theorem Lem.below {V : Nat} (hV : V ≤ 20) {C : List (List Int)} {K : List Nat} {P : List Pk} {c G : Nat} (hT : Trail V (Known V C) P) (h : Lem V C K P c) (hG : Giv G P) (hGs : G < 2 ^ (2 * V)) (h0 : within c (opp G) = false) : 0 < lv P := by
  refine Nat.pos_of_ne_zero fun hz => ?_
  rw [(opp_within hV hGs h.small).2 fun m hm => ?_] at h0
  · cases h0
  · obtain ⟨p, hp, e, hl⟩ := h.opps m hm
    have hle := hT.level hp
    have hl0 : p.lev = 0 := by omega
    rcases hl with hl | hl
    · omega
    · exact hG.only p hp hl hl0 _ e

theorem within_some {c G : Nat} (h0 : within c G = false) : c ≠ 0 := fun e => by
  rw [e] at h0
  unfold within dif at h0
  simp at h0

theorem Turn.inv {V G : Nat} (hV : V ≤ 20) {cs : List (List Int)} {ch : List Nat} (hch : Chs V ch) {a b : Cf} (h : SInv V G cs a) (ht : Turn G ch a (.inl b)) : SInv V G cs b ∧ smeas V b < smeas V a := by
  cases ht with
  | @learn K P F P' k c hg e hne =>
    have hl := h.lem hV hg
    obtain ⟨hT, hR, -, -⟩ := h.goes hV hg
    rw [← e] at hl
    have hGP := h.giv.goes hg
    have hL := hl.below hV hT hGP h.gs hne
    have hgood := hl.good hT (within_some hne)
    have hcov : cov V K < cov V (addTo K c) := cov_add hV (fun k hk => h.cover.small hk) hl.small hgood.half (hgood.clash hV) (hl.fresh hL)
    have hm : maskOf (litsOf 64 c) = c := mask_list (lt64 hV hl.small)
    have hcover := h.cover.add hV (c := litsOf 64 c) (list_lit hl.small)
    rw [hm, ← withF_snoc] at hcover
    obtain ⟨A, eA⟩ := popTo_split (backLev (lv P') c P') P'
    refine ⟨⟨hcover, ?_, hl.rest hV hT hR hL, fun i d hd => ?_, ?_, ?_, ⟨fun p hp => hGP.only p (by simp only at hp ⊢; rw [eA]; exact List.mem_append_right _ hp), fun n hn => ?_⟩, h.gs⟩, ?_⟩
    · have hT2 := hT
      rw [eA] at hT2
      refine hT2.drop.mono fun k hk => hk.more fun c hc => ?_
      rw [withF_snoc]
      exact List.mem_append_left _ hc
    · simp only at hd ⊢
      rcases Nat.lt_trichotomy i F.length with hi | hi | hi
      · rw [List.getElem?_append_left hi] at hd
        rw [List.take_append_of_le_length (by omega)]
        exact h.lems i d hd
      · subst hi
        simp only [List.getElem?_concat_length, Option.some.injEq] at hd
        subst hd
        rw [List.take_left]
        exact hgood
      · rw [List.getElem?_eq_none (by simp; omega)] at hd
        cases hd
    · have := h.cnt
      simp only [List.length_append, List.length_singleton] at this ⊢
      omega
    · have := h.len
      have h2 := addTo_length K c
      simp only [List.length_append, List.length_singleton] at this ⊢
      omega
    · obtain ⟨p, hp, e1, e2⟩ := hGP.all n hn
      exact ⟨p, popTo_zero _ hT p hp e2, e1, e2⟩
    · unfold smeas
      simp only at hcov ⊢
      have h1 := vac_le (truthOf (popTo (backLev (lv P') c P') P'))
      have h2 := cov_le V (addTo K c)
      omega
  | @chose K P F P' l hg e =>
    obtain ⟨hT, hR, hq⟩ := h.goes hV hg
    have hfind := List.find?_some e
    obtain ⟨n, hn, rfl⟩ := hch.lit l (List.mem_of_find?_eq_some e)
    have hS := hT.small
    have hso : truthOf P' ||| opp (truthOf P') < 2 ^ (2 * V) := Nat.or_lt_two_pow hS (opp_lt hV hS)
    have hnot : (truthOf P' ||| opp (truthOf P')).testBit n = false := bool_false fun hb => by
      rw [(within_pow hV hn hso).2 hb] at hfind; cases hfind
    rw [Nat.testBit_or, Bool.or_eq_false_iff, opp_bit' hV hS] at hnot
    refine ⟨⟨h.cover, ⟨hT, by simp [lv], n, hn, rfl, hnot.1, hnot.2, .inl rfl⟩, ?_, h.lems, h.cnt, h.len, ⟨fun p hp hc hl m hm => ?_, fun m hm => ?_⟩, h.gs⟩, ?_⟩
    · intro A c Q eA hc hc2
      cases A with
      | nil =>
        simp only [List.nil_append, List.cons.injEq] at eA
        rw [← eA.2]
        exact hq
      | cons a A =>
        simp only [List.cons_append, List.cons.injEq] at eA
        exact hR A c Q eA.2 hc hc2
    · rcases List.mem_cons.1 hp with rfl | hp
      · simp at hl
      · exact (h.giv.goes hg).only p hp hc hl m hm
    · obtain ⟨p, hp, e1, e2⟩ := (h.giv.goes hg).all m hm
      exact ⟨p, List.mem_cons_of_mem _ hp, e1, e2⟩
    · unfold smeas
      simp only
      have hgrow := hg.grow
      have : vac (truthOf (⟨2 ^ n, 0, lv P' + 1⟩ :: P')) < vac (truthOf P) := by
        refine vac_lt (n := n) (by omega) (fun m hm => ?_) (bool_false fun hb => ?_) ?_
        · rw [truthOf, Nat.testBit_or, hgrow m hm]; rfl
        · have := hgrow n hb
          simp only at this
          rw [hnot.1] at this; cases this
        · rw [truthOf, Nat.testBit_or]
          simp
      omega

/-- What an end says. -/
def EndOk (V : Nat) (cs : List (List Int)) : End → Prop
  | .sat S => S < 2 ^ (2 * V) ∧ (∀ v, v < V → S.testBit (2 * v + 1) = !S.testBit (2 * v)) ∧ ∀ c ∈ cs, ∃ l ∈ c, IsLit V l ∧ S.testBit (pl l) = true
  | .unsat F => ∃ F0, F = F0 ++ [0] ∧ (∀ i c, F0[i]? = some c → GoodLem V (withF cs (F0.take i)) c) ∧ Rup (withF cs F0) 0 ∧ F0.length ≤ 3 ^ V

/-- The same where some literals were given: an assignment that has them; lemmas, the last of which forbids them. -/
def EndG (V G : Nat) (cs : List (List Int)) : End → Prop
  | .sat S => S < 2 ^ (2 * V) ∧ (∀ v, v < V → S.testBit (2 * v + 1) = !S.testBit (2 * v)) ∧ (∀ c ∈ cs, ∃ l ∈ c, IsLit V l ∧ S.testBit (pl l) = true) ∧ ∀ n, G.testBit n = true → S.testBit n = true
  | .unsat F => ∃ F0 c, F = F0 ++ [c] ∧ (∀ i c, F0[i]? = some c → GoodLem V (withF cs (F0.take i)) c) ∧ Rup (withF cs F0) c ∧ F0.length ≤ 3 ^ V ∧ c < 2 ^ (2 * V) ∧ (∀ n, c.testBit n = true → G.testBit (mir n) = true) ∧ ∀ n, c.testBit n = true → c.testBit (mir n) = false

theorem EndG.ok {V : Nat} {cs : List (List Int)} {e : End} (h : EndG V 0 cs e) : EndOk V cs e := by
  cases e with
  | sat S => exact ⟨h.1, h.2.1, h.2.2.1⟩
  | unsat F =>
    obtain ⟨F0, c, e, h1, h2, h3, h4, h5, -⟩ := h
    have : c = 0 := zero_iff_bits.2 fun n => bool_false fun hb => by have := h5 n hb; simp at this
    subst this
    exact ⟨F0, e, h1, h2, h3⟩

theorem Turn.ok {V G : Nat} (hV : V ≤ 20) {cs : List (List Int)} {ch : List Nat} (hch : Chs V ch) {a : Cf} {e : End} (h : SInv V G cs a) (ht : Turn G ch a (.inr e)) : EndG V G cs e := by
  cases ht with
  | @ended K P F P' k c hg e0 hw =>
    have hl := h.lem hV hg
    obtain ⟨hT, -, -, -⟩ := h.goes hV hg
    simp only at hl
    rw [← e0] at hl
    refine ⟨F, c, rfl, h.lems, hl.rup, Nat.le_trans h.cnt (cov_le V _), hl.small, (opp_within hV h.gs hl.small).1 hw, fun n hn => ?_⟩
    by_cases hc0 : c = 0
    · rw [hc0] at hn; simp at hn
    · exact (hl.good hT hc0).half n hn
  | @found K P F P' hg e0 =>
    obtain ⟨hT, hR, hq⟩ := h.goes hV hg
    have hS := hT.small
    have hso : truthOf P' ||| opp (truthOf P') < 2 ^ (2 * V) := Nat.or_lt_two_pow hS (opp_lt hV hS)
    have hall : ∀ n, n < 2 * V → (truthOf P').testBit (mir n) = !(truthOf P').testBit n := by
      intro n hn
      have hv : n / 2 < V := by omega
      obtain ⟨l, hl, hl2⟩ := hch.all (n / 2) hv
      have hin : within l (truthOf P' ||| opp (truthOf P')) = true := by
        have := List.find?_eq_none.1 e0 l hl
        simpa using this
      have hor : (truthOf P').testBit n = true ∨ (truthOf P').testBit (mir n) = true := by
        have hx : ∀ i, i < 2 * V → l = 2 ^ i → (truthOf P').testBit i = true ∨ (truthOf P').testBit (mir i) = true := fun i hi e => by
          rw [e, within_pow hV hi hso, Nat.testBit_or, Bool.or_eq_true, opp_bit' hV hS] at hin
          exact hin
        have hn2 : n = 2 * (n / 2) ∨ n = 2 * (n / 2) + 1 := by omega
        have hm1 : mir (2 * (n / 2)) = 2 * (n / 2) + 1 := by unfold mir; rw [if_pos (by omega)]
        have hm2 : mir (2 * (n / 2) + 1) = 2 * (n / 2) := by unfold mir; rw [if_neg (by omega)]; omega
        rcases hl2 with hl2 | hl2
        · have := hx _ (by omega) hl2
          rw [hm1] at this
          rcases hn2 with e | e
          · rw [e, hm1]; exact this
          · rw [e, hm2]; exact this.symm
        · have := hx _ (by omega) hl2
          rw [hm2] at this
          rcases hn2 with e | e
          · rw [e, hm1]; exact this.symm
          · rw [e, hm2]; exact this
      cases e1 : (truthOf P').testBit n with
      | true => rw [hT.apart n e1]; rfl
      | false =>
        rcases hor with h1 | h1
        · rw [e1] at h1; cases h1
        · rw [h1]; rfl
    refine ⟨hS, fun v hv => ?_, fun c hc => ?_, fun n hn => ?_⟩
    · have := hall (2 * v) (by omega)
      unfold mir at this
      rwa [if_pos (by omega)] at this
    · have hcin : c ∈ withF cs F := List.mem_append_left _ hc
      have hlits := h.cover.lits c hcin
      rcases h.cover.all c hcin with ⟨l, hl, hl'⟩ | ⟨k, hk, hw⟩
      · have hlit := hlits l hl
        have := hall (pl l) (pl_lt hlit)
        rw [← pl_neg hlit.1] at this
        cases e1 : (truthOf P').testBit (pl l) with
        | true => exact ⟨l, hl, hlit, e1⟩
        | false => rw [e1] at this; exact ⟨-l, hl', hlit.neg, this⟩
      · have hks := h.cover.small hk
        have hz := (hq k hk).1
        have : ∃ m, (openOf k (truthOf P')).testBit m = true := Classical.byContradiction fun hx => hz (zero_iff_bits.2 fun i => bool_false fun hb => hx ⟨i, hb⟩)
        obtain ⟨m, hm⟩ := this
        rw [openOf_bit hV hks hS, Bool.and_eq_true, Bool.not_eq_true'] at hm
        obtain ⟨l, hl, el⟩ := (maskOf_bit c m).1 (hw m hm.1)
        have := hall m (bit_lt hks hm.1)
        rw [hm.2] at this
        refine ⟨l, hl, hlits l hl, ?_⟩
        rw [el]
        cases e1 : (truthOf P').testBit m with
        | true => rfl
        | false => rw [e1] at this; cases this
    · obtain ⟨p, hp, e1, -⟩ := (h.giv.goes hg).all n hn
      exact pick_bit hp e1

theorem Ends.ok {V G : Nat} (hV : V ≤ 20) {cs : List (List Int)} {ch : List Nat} (hch : Chs V ch) {a : Cf} {e : End} (h : SInv V G cs a) (he : Ends G ch a e) : EndG V G cs e := by
  induction he with
  | last ht => exact ht.ok hV hch h
  | step ht _ ih => exact ih (ht.inv hV hch h).1

/-- What was given, as picks: the newest first. -/
def givP (l : List Nat) : List Pk := (l.map fun n => ⟨2 ^ n, 0, 0⟩).reverse

theorem givP_snoc (l : List Nat) (n : Nat) : givP (l ++ [n]) = ⟨2 ^ n, 0, 0⟩ :: givP l := by unfold givP; simp

theorem givP_mem {l : List Nat} {p : Pk} : p ∈ givP l ↔ ∃ n ∈ l, p = ⟨2 ^ n, 0, 0⟩ := by
  unfold givP
  simp only [List.mem_reverse, List.mem_map]
  exact ⟨fun ⟨n, h1, h2⟩ => ⟨n, h1, h2.symm⟩, fun ⟨n, h1, h2⟩ => ⟨n, h1, h2.symm⟩⟩

theorem givP_bit (l : List Nat) (n : Nat) : (truthOf (givP l)).testBit n = true ↔ n ∈ l := by
  rw [truthOf_bit]
  constructor
  · rintro ⟨p, hp, hb⟩
    obtain ⟨m, hm, rfl⟩ := givP_mem.1 hp
    rw [two_pow_bit] at hb
    exact hb ▸ hm
  · intro h
    exact ⟨⟨2 ^ n, 0, 0⟩, givP_mem.2 ⟨n, h, rfl⟩, (two_pow_bit n n).2 rfl⟩

theorem lv_zero : ∀ {P : List Pk}, (∀ p ∈ P, p.lev = 0) → lv P = 0
  | [], _ => rfl
  | p :: P, h => by
    rw [lv, if_neg (fun hh => hh.2 (h p List.mem_cons_self))]
    exact lv_zero fun q hq => h q (List.mem_cons_of_mem _ hq)

theorem givP_lv (l : List Nat) : lv (givP l) = 0 := lv_zero fun p hp => by
  obtain ⟨n, -, rfl⟩ := givP_mem.1 hp
  rfl

theorem givP_trail {V : Nat} (D : Nat → Prop) : ∀ (r l : List Nat), Trail V D (givP l) → (∀ n ∈ r, n < 2 * V) → (∀ n ∈ l ++ r, mir n ∉ l ++ r) → (l ++ r).Nodup → Trail V D (givP (l ++ r))
  | [], l, h, _, _, _ => by rw [List.append_nil]; exact h
  | n :: r, l, h, hs, hm, hd => by
    have e : l ++ n :: r = (l ++ [n]) ++ r := by simp
    rw [e] at hm hd ⊢
    refine givP_trail D r (l ++ [n]) ?_ (fun m hm => hs m (List.mem_cons_of_mem _ hm)) hm hd
    rw [givP_snoc]
    refine ⟨h, ?_, n, hs n List.mem_cons_self, rfl, bool_false fun hb => ?_, bool_false fun hb => ?_, .inl rfl⟩
    · rw [lv, if_neg (by simp), givP_lv]
    · rw [givP_bit] at hb
      rw [List.append_assoc, List.nodup_append] at hd
      exact hd.2.2 n hb n (by simp) rfl
    · rw [givP_bit] at hb
      exact hm n (by simp) (by simp [hb])

/-- The places of a set, rising. -/
def placesOf (G : Nat) : List Nat := (List.range 64).filter fun n => G.testBit n

theorem mem_places {V G : Nat} (hV : V ≤ 20) (hG : G < 2 ^ (2 * V)) (n : Nat) : n ∈ placesOf G ↔ G.testBit n = true := by
  unfold placesOf
  rw [List.mem_filter, List.mem_range]
  exact ⟨fun h => h.2, fun h => ⟨by have := bit_lt hG h; omega, h⟩⟩

theorem places_zero : placesOf 0 = [] := by unfold placesOf; simp

theorem SInv.start {V G : Nat} (hV : V ≤ 20) {cs : List (List Int)} {K : List Nat} (hC : Cover V K cs) (hl : K.length ≤ cs.length) (hG : G < 2 ^ (2 * V)) (hh : ∀ n, G.testBit n = true → G.testBit (mir n) = false) : SInv V G cs ⟨K, givP (placesOf G), []⟩ := by
  refine ⟨by unfold withF; simpa using hC, ?_, fun A c Q e hc hl => ?_, fun i c h => ?_, Nat.zero_le _, by simpa using hl, ⟨fun p hp _ _ n hn => ?_, fun n hn => ?_⟩, hG⟩
  · have := givP_trail (V := V) (Known V (withF cs [])) (placesOf G) [] trivial (fun n hn => bit_lt hG ((mem_places hV hG n).1 hn)) (fun n hn hm => ?_) (by rw [List.nil_append]; exact (List.nodup_range).filter _)
    · rwa [List.nil_append] at this
    · rw [List.nil_append] at hn hm
      have := hh n ((mem_places hV hG n).1 hn)
      rw [(mem_places hV hG _).1 hm] at this
      cases this
  · have : c ∈ givP (placesOf G) := by simp only at e; rw [e]; simp
    obtain ⟨n, -, rfl⟩ := givP_mem.1 this
    exact absurd rfl hl
  · simp at h
  · obtain ⟨m, hm, rfl⟩ := givP_mem.1 hp
    have : m = n := (two_pow_bit m n).1 (by rw [show 2 ^ m = 2 ^ n from hn]; exact (two_pow_bit n n).2 rfl)
    exact this ▸ (mem_places hV hG m).1 hm
  · exact ⟨_, givP_mem.2 ⟨n, (mem_places hV hG n).2 hn, rfl⟩, rfl, rfl⟩

end Go.Proofs.YtlodenfdcckemaaDoor

/-
  What follows at once, as the document's answer goes through it (of no program).
-/

namespace Go.Proofs.YtlodenfdcckemaaDoor

/-- Where a literal stands in the document's table. -/
def rp (l : Int) : Nat := if l < 0 then (32 - l).toNat else l.toNat

theorem rp_lt {V : Nat} (hV : V ≤ 20) {l : Int} (h : IsLit V l) : rp l < 64 := by obtain ⟨a, b, c⟩ := h; unfold rp; split <;> omega
theorem rp_inj {V : Nat} (hV : V ≤ 20) {l m : Int} (h : IsLit V l) (h' : IsLit V m) (e : rp l = rp m) : l = m := by
  obtain ⟨a, b, c⟩ := h
  obtain ⟨a', b', c'⟩ := h'
  unfold rp at e
  split at e <;> split at e <;> omega

/-- Is a literal in the table? -/
def there (bs : List Bool) (l : Int) : Bool := bs.getD (rp l) false
/-- Is there a conflict? -/
def crash (bs : List Bool) : Bool := bs.getD 64 false

theorem there_set {V : Nat} (hV : V ≤ 20) {bs : List Bool} (hl : bs.length = 65) {l m : Int} (h : IsLit V l) (h' : IsLit V m) : there (bs.set (rp l) true) m = (there bs m || decide (m = l)) := by
  unfold there
  have h1 := rp_lt hV h
  have h2 := rp_lt hV h'
  by_cases e : m = l
  · subst e
    simp [List.getD_eq_getElem?_getD, hl, show rp m < 65 by omega]
  · have : ¬ rp l = rp m := fun hh => e (rp_inj hV h h' hh).symm
    simp [List.getD_eq_getElem?_getD, this, e]

theorem crash_set {V : Nat} (hV : V ≤ 20) {bs : List Bool} {l : Int} (h : IsLit V l) (b : Bool) : crash (bs.set (rp l) b) = crash bs := by
  unfold crash
  have h1 := rp_lt hV h
  have : ¬ rp l = 64 := by omega
  simp [List.getD_eq_getElem?_getD, this]

theorem there_crash {V : Nat} (hV : V ≤ 20) {bs : List Bool} {m : Int} (h : IsLit V m) (b : Bool) : there (bs.set 64 b) m = there bs m := by
  unfold there
  have h1 := rp_lt hV h
  have : ¬ 64 = rp m := by omega
  simp [List.getD_eq_getElem?_getD, this]

theorem crash_crash {bs : List Bool} (hl : bs.length = 65) (b : Bool) : crash (bs.set 64 b) = b := by
  unfold crash
  simp [List.getD_eq_getElem?_getD, hl]

/-- What the document's table holds. -/
structure RCome (V : Nat) (C : List (List Int)) (G : Int → Prop) (bs : List Bool) : Prop where
  len : bs.length = 65
  fol : ∀ l, IsLit V l → there bs l = true → Fol C G l
  conf : crash bs = true → Conf C G
  apart : crash bs = false → ∀ l, IsLit V l → there bs l = true → there bs (-l) = false

/-- The table with a literal more. -/
def addL (bs : List Bool) (l : Int) : List Bool := if there (bs.set (rp l) true) (-l) then (bs.set (rp l) true).set 64 true else bs.set (rp l) true

theorem addL_len (bs : List Bool) (l : Int) : (addL bs l).length = bs.length := by unfold addL; split <;> simp

theorem addL_there {V : Nat} (hV : V ≤ 20) {bs : List Bool} (hl : bs.length = 65) {l m : Int} (h : IsLit V l) (h' : IsLit V m) : there (addL bs l) m = (there bs m || decide (m = l)) := by
  unfold addL
  split
  · rw [there_crash hV h', there_set hV hl h h']
  · rw [there_set hV hl h h']

theorem addL_crash {V : Nat} (hV : V ≤ 20) {bs : List Bool} (hl : bs.length = 65) {l : Int} (h : IsLit V l) : crash (addL bs l) = (crash bs || there bs (-l)) := by
  unfold addL
  have e := there_set hV hl h h.neg
  have : ¬ -l = l := by have := h.1; omega
  simp only [this, decide_false, Bool.or_false] at e
  rw [e]
  split
  · rename_i h1
    rw [crash_crash (by simpa using hl), h1]; simp
  · rename_i h1
    rw [crash_set hV h]
    have h1 : there bs (-l) = false := by simpa using h1
    rw [h1]; simp

theorem RCome.add {V : Nat} (hV : V ≤ 20) {C : List (List Int)} {G : Int → Prop} {bs : List Bool} (h : RCome V C G bs) {l : Int} (hl : IsLit V l) (hf : Fol C G l) : RCome V C G (addL bs l) := by
  refine ⟨by rw [addL_len, h.len], fun m hm ht => ?_, fun hx => ?_, fun hx m hm ht => ?_⟩
  · rw [addL_there hV h.len hl hm, Bool.or_eq_true] at ht
    rcases ht with ht | ht
    · exact h.fol m hm ht
    · have : m = l := by simpa using ht
      rw [this]; exact hf
  · rw [addL_crash hV h.len hl, Bool.or_eq_true] at hx
    rcases hx with hx | hx
    · exact h.conf hx
    · exact .inl ⟨l, hf, h.fol _ hl.neg hx⟩
  · rw [addL_crash hV h.len hl, Bool.or_eq_false_iff] at hx
    rw [addL_there hV h.len hl hm, Bool.or_eq_true] at ht
    rw [addL_there hV h.len hl hm.neg, Bool.or_eq_false_iff]
    rcases ht with ht | ht
    · refine ⟨h.apart hx.1 m hm ht, ?_⟩
      simp only [decide_eq_false_iff_not]
      intro e
      have : m = -l := by omega
      rw [this, hx.2] at ht
      exact absurd ht (by decide)
    · have e : m = l := by simpa using ht
      subst e
      refine ⟨hx.2, ?_⟩
      have := hl.1
      simp only [decide_eq_false_iff_not]
      omega

theorem RCome.crashed {V : Nat} (hV : V ≤ 20) {C : List (List Int)} {G : Int → Prop} {bs : List Bool} (h : RCome V C G bs) (hc : Conf C G) : RCome V C G (bs.set 64 true) := by
  refine ⟨by simpa using h.len, fun m hm ht => ?_, fun _ => hc, fun hx => ?_⟩
  · rw [there_crash hV hm] at ht
    exact h.fol m hm ht
  · rw [crash_crash h.len] at hx
    exact absurd hx (by decide)

theorem RCome.start (V : Nat) (C : List (List Int)) (G : Int → Prop) : RCome V C G (List.replicate 65 false) := by
  have e : ∀ i, (List.replicate 65 false).getD i false = false := fun i => by
    rw [List.getD_eq_getElem?_getD, List.getElem?_replicate]
    split <;> rfl
  refine ⟨by simp, fun m _ ht => ?_, fun hx => ?_, fun _ m _ ht => ?_⟩
  · unfold there at ht; rw [e] at ht; exact absurd ht (by decide)
  · unfold crash at hx; rw [e] at hx; exact absurd hx (by decide)
  · unfold there at ht; rw [e] at ht; exact absurd ht (by decide)

/-- What 'left' tells of a clause. -/
def LeftSpec (bs : List Bool) (c : List Int) (one : Int) (n : Nat) : Prop :=
  (n = 0 ∧ ∀ m ∈ c, there bs (-m) = true) ∨ (n = 1 ∧ one ∈ c ∧ there bs (-one) = false ∧ ∀ m ∈ c, there bs (-m) = false → m = one) ∨ (n = 2 ∧ ∃ a ∈ c, ∃ b ∈ c, a ≠ b ∧ there bs (-a) = false ∧ there bs (-b) = false)

/-- A clause that brings nothing. -/
def Dull (bs : List Bool) (c : List Int) : Prop := (∃ m ∈ c, there bs (-m) = false) ∧ ∀ l ∈ c, (∀ m ∈ c, m ≠ l → there bs (-m) = true) → there bs l = true

theorem LeftSpec.dull1 {bs : List Bool} {c : List Int} {one : Int} (h : LeftSpec bs c one 1) (ht : there bs one = true) : Dull bs c := by
  rcases h with ⟨h, _⟩ | ⟨_, h1, h2, h3⟩ | ⟨h, _⟩
  · omega
  · refine ⟨⟨one, h1, h2⟩, fun l hl hall => ?_⟩
    by_cases e : one = l
    · subst e; exact ht
    · have := hall one h1 e
      rw [h2] at this
      exact absurd this (by decide)
  · omega

theorem LeftSpec.dull2 {bs : List Bool} {c : List Int} {one : Int} (h : LeftSpec bs c one 2) : Dull bs c := by
  rcases h with ⟨h, _⟩ | ⟨h, _⟩ | ⟨_, a, ha, b, hb, hne, h1, h2⟩
  · omega
  · omega
  · refine ⟨⟨a, ha, h1⟩, fun l hl hall => ?_⟩
    by_cases e : a = l
    · have := hall b hb (fun hh => hne (by rw [e, hh]))
      rw [h2] at this
      exact absurd this (by decide)
    · have := hall a ha e
      rw [h1] at this
      exact absurd this (by decide)

theorem RCome.conf0 {V : Nat} {C : List (List Int)} {G : Int → Prop} {bs : List Bool} (h : RCome V C G bs) {c : List Int} (hc : c ∈ C) (hlit : ∀ l ∈ c, IsLit V l) {one : Int} (hs : LeftSpec bs c one 0) : Conf C G := by
  rcases hs with ⟨_, h1⟩ | ⟨h1, _⟩ | ⟨h1, _⟩
  · exact .inr ⟨c, hc, fun m hm => h.fol _ (hlit m hm).neg (h1 m hm)⟩
  · omega
  · omega

theorem RCome.fol1 {V : Nat} {C : List (List Int)} {G : Int → Prop} {bs : List Bool} (h : RCome V C G bs) {c : List Int} (hc : c ∈ C) (hlit : ∀ l ∈ c, IsLit V l) {one : Int} (hs : LeftSpec bs c one 1) : IsLit V one ∧ Fol C G one := by
  rcases hs with ⟨h1, _⟩ | ⟨_, h1, h2, h3⟩ | ⟨h1, _⟩
  · omega
  · refine ⟨hlit one h1, .unit hc h1 fun m hm hne => ?_⟩
    apply h.fol _ (hlit m hm).neg
    cases e : there bs (-m) with
    | true => rfl
    | false => exact absurd (h3 m hm e) hne
  · omega

theorem RCome.shut {V : Nat} {C : List (List Int)} {G : Int → Prop} {bs : List Bool} (h : RCome V C G bs) (hx : crash bs = false) (hC : ∀ c ∈ C, ∀ l ∈ c, IsLit V l) (hG : ∀ l, G l → IsLit V l ∧ there bs l = true) (hd : ∀ c ∈ C, Dull bs c) :
    Shut C G (fun l => IsLit V l ∧ there bs l = true) := by
  refine ⟨hG, fun l hl hl' => ?_, fun c hc => ?_, fun c hc l hl hall => ⟨hC c hc l hl, (hd c hc).2 l hl fun m hm hne => (hall m hm hne).2⟩⟩
  · have := h.apart hx l hl.1 hl.2
    rw [this] at hl'
    exact absurd hl'.2 (by decide)
  · obtain ⟨m, hm, hn⟩ := (hd c hc).1
    exact ⟨m, hm, fun hh => by rw [hn] at hh; exact absurd hh.2 (by decide)⟩

/-- How many places of the table are still free. -/
def room (bs : List Bool) : Nat := 65 - bs.count true

theorem room_set {bs : List Bool} {i : Nat} (hl : bs.length = 65) (hi : i < 65) (h : bs.getD i false = false) : room (bs.set i true) < room bs := by
  unfold room
  have hi' : i < bs.length := by omega
  have h1 : bs[i] = false := by simpa [List.getD_eq_getElem?_getD, hi'] using h
  have h2 : (bs.set i true).count true ≤ (bs.set i true).length := List.count_le_length
  rw [List.length_set, hl] at h2
  rw [List.count_set hi'] at h2 ⊢
  simp [h1] at h2 ⊢
  omega

theorem room_set_le {bs : List Bool} {i : Nat} (hi : i < bs.length) : room (bs.set i true) ≤ room bs := by
  unfold room
  rw [List.count_set hi]
  cases e : bs[i] with
  | false => simp; omega
  | true =>
    have : 0 < bs.count true := List.count_pos_iff.2 (by rw [← e]; exact List.getElem_mem hi)
    simp; omega

theorem room_addL {V : Nat} (hV : V ≤ 20) {bs : List Bool} (hl : bs.length = 65) {l : Int} (h : IsLit V l) (ht : there bs l = false) : room (addL bs l) < room bs := by
  have h1 := rp_lt hV h
  have h2 := room_set hl (by omega : rp l < 65) ht
  unfold addL
  split
  · have := room_set_le (bs := bs.set (rp l) true) (i := 64) (by simp [hl])
    omega
  · exact h2

theorem room_crash {bs : List Bool} (hl : bs.length = 65) : room (bs.set 64 true) ≤ room bs := room_set_le (by omega)

/-! The answer to what follows. -/

/-- The document's answer, and the program's: whether there is a conflict, or what follows. -/
theorem tell_same {V : Nat} (hV : V ≤ 20) {C : List (List Int)} {g : List Int} {S : Nat} {bs : List Bool} (hS : Come V C (fun l => l ∈ g) S) (h1 : Shut C (fun l => l ∈ g) (fun l => IsLit V l ∧ S.testBit (pl l) = true)) (hb : RCome V C (fun l => l ∈ g) bs)
    (h2 : Shut C (fun l => l ∈ g) (fun l => IsLit V l ∧ there bs l = true)) : litsOf 64 S = tellOf V (there bs) := by
  rw [litsOf_short hV hS.small]
  apply litsOf_tell
  intro n hn
  have hlit := atp_lit hn
  cases e : there bs (atp n) with
  | true =>
    have := (h1.fol (hb.fol _ hlit e)).2
    rwa [pl_atp] at this
  | false =>
    cases e2 : S.testBit n with
    | false => rfl
    | true =>
      have := (h2.fol (hS.fol n e2)).2
      rw [e] at this
      exact absurd this (by decide)

end Go.Proofs.YtlodenfdcckemaaDoor
