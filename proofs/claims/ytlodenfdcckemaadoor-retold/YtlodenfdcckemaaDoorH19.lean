/-
  Floats that hold whole numbers of parts, 2 to the power of minus twenty each: sums, orders, quotients, exact; products and quotients within bounds. Plain mathematics: nothing of the program.
-/
import Derived.Laws.FloatArith
namespace Go.Proofs.YtlodenfdcckemaaDoor.Fl
open Ieee

theorem lg (m k : Nat) (hm : m ≠ 0) : (m * 2^k).log2 = m.log2 + k := by
  have h1 := Nat.log2_self_le hm
  have h2 := @Nat.lt_log2_self m
  have hne : m * 2^k ≠ 0 := Nat.mul_ne_zero hm (Nat.ne_of_gt (Nat.two_pow_pos k))
  apply (Nat.log2_eq_iff hne).2
  constructor
  · rw [Nat.pow_add]; exact Nat.mul_le_mul_right _ h1
  · rw [show m.log2 + k + 1 = (m.log2 + 1) + k by omega, Nat.pow_add]
    exact Nat.mul_lt_mul_of_pos_right h2 (Nat.two_pow_pos k)

theorem cut_zero (n : Nat) : Toward.even.cut false n 0 = n := by
  simp [Toward.cut, Nat.mod_one]

theorem cut_exact (m k d : Nat) (hm : m ≠ 0) (hd : d ≤ k) : Toward.even.cut false (m * 2^k) d = m * 2^(k - d) := by
  have hmin : min d ((m * 2^k).log2 + 2) = d := by rw [lg m k hm]; omega
  have e : m * 2^k = (m * 2^(k-d)) * 2^d := by rw [Nat.mul_assoc, ← Nat.pow_add, Nat.sub_add_cancel hd]
  have hp := Nat.two_pow_pos d
  have h1 : (m * 2^k) / 2^d = m * 2^(k-d) := by rw [e]; exact Nat.mul_div_cancel _ hp
  have h2 : (m * 2^k) % 2^d = 0 := by rw [e]; exact Nat.mul_mod_left _ _
  unfold Toward.cut
  simp only [hmin, Nat.one_shiftLeft, h1, h2]
  have h3 : decide (2^d < 2 * 0) = false := by simp
  have h4 : (2^d == 2 * 0) = false := by simp
  simp [h4]

theorem cut_scale (m k d : Nat) (hm : m ≠ 0) : Toward.even.cut false (m * 2^k) (d + k) = Toward.even.cut false m d := by
  have hmin : min (d + k) ((m * 2^k).log2 + 2) = min d (m.log2 + 2) + k := by rw [lg m k hm]; omega
  unfold Toward.cut
  simp only [hmin, Nat.one_shiftLeft, Nat.pow_add]
  generalize min d (m.log2 + 2) = g
  have hp := Nat.two_pow_pos k
  have h1 : m * 2^k / (2^g * 2^k) = m / 2^g := by rw [Nat.mul_comm m, Nat.mul_comm (2^g)]; exact Nat.mul_div_mul_left _ _ hp
  have h2 : m * 2^k % (2^g * 2^k) = 2^k * (m % 2^g) := by rw [Nat.mul_comm m, Nat.mul_comm (2^g)]; exact Nat.mul_mod_mul_left _ _ _
  rw [h1, h2]
  have h3 : decide (2^g * 2^k < 2 * (2^k * (m % 2^g))) = decide (2^g < 2 * (m % 2^g)) := by
    apply decide_eq_decide.2
    rw [show 2 * (2^k * (m % 2^g)) = (2 * (m % 2^g)) * 2^k by rw [Nat.mul_comm (2^k), Nat.mul_assoc]]
    exact Nat.mul_lt_mul_right hp
  have h4 : (2^g * 2^k == 2 * (2^k * (m % 2^g))) = (2^g == 2 * (m % 2^g)) := by
    rw [Bool.eq_iff_iff, beq_iff_eq, beq_iff_eq, show 2 * (2^k * (m % 2^g)) = (2 * (m % 2^g)) * 2^k by rw [Nat.mul_comm (2^k), Nat.mul_assoc]]
    exact Nat.mul_left_inj (Nat.ne_of_gt hp)
  rw [h3, h4]

/-- What is rounded depends on the number alone. -/
theorem nearest_shift (m k : Nat) (e : Int) : double.nearest false (m * 2^k) e = double.nearest false m (e + k) := by
  by_cases hm : m = 0
  · subst hm; simp [Format.nearest]
  have hne : m * 2^k ≠ 0 := Nat.mul_ne_zero hm (Nat.ne_of_gt (Nat.two_pow_pos k))
  unfold Format.nearest
  rw [if_neg hm, if_neg hne]
  have hlast : max (e + ((m * 2^k).log2 : Nat) - (double.fractionBits : Nat)) double.leastPlace = max (e + (k : Int) + (m.log2 : Nat) - (double.fractionBits : Nat)) double.leastPlace := by
    rw [lg m k hm]; congr 1; omega
  simp only [hlast]
  generalize max (e + (k : Int) + (m.log2 : Nat) - (double.fractionBits : Nat)) double.leastPlace = L
  have hk : Toward.even.cut false ((m * 2^k) <<< (e - L).toNat) (L - e).toNat = Toward.even.cut false (m <<< (e + k - L).toNat) (L - (e + k)).toNat := by
    rw [Nat.shiftLeft_eq, Nat.shiftLeft_eq]
    by_cases h1 : L ≤ e
    · rw [show (L - e).toNat = 0 by omega, show (L - (e + k)).toNat = 0 by omega, Nat.mul_assoc, ← Nat.pow_add, show k + (e - L).toNat = (e + k - L).toNat by omega]
    · rw [show (e - L).toNat = 0 by omega, Nat.pow_zero, Nat.mul_one]
      by_cases h2 : L ≤ e + k
      · rw [show (L - (e + k)).toNat = 0 by omega, cut_zero, cut_exact m k _ hm (by omega), show k - (L - e).toNat = (e + k - L).toNat by omega]
      · rw [show (e + k - L).toNat = 0 by omega, Nat.pow_zero, Nat.mul_one, show (L - e).toNat = (L - (e + k)).toNat + k by omega, cut_scale m k _ hm]
  rw [hk]


theorem least : double.leastPlace = -1074 := by decide
theorem binade : double.binade = 4503599627370496 := by decide
theorem infRung : double.infRung = 9218868437227405312 := by decide
theorem signW : double.signWeight = 9223372036854775808 := by decide

theorem num_eq {a b : Nat} {i j : Int} (h : a = b) (k : i = j) : Datum.number false a i = .number false b j := by rw [h, k]

/-- What a rung above the first binade stands for. -/
theorem read_rung (q K : Nat) (hq : q ≤ 2000) (h1 : 4503599627370496 ≤ K) (h2 : K < 9007199254740992) : double.read (q * 4503599627370496 + K) = .number false K ((q : Int) - 1074) := by
  unfold Format.read
  simp only [binade, infRung, signW, least]
  have e1 : (q * 4503599627370496 + K) / 9223372036854775808 = 0 := Nat.div_eq_of_lt (by omega)
  have e2 : (q * 4503599627370496 + K) % 9223372036854775808 = q * 4503599627370496 + K := Nat.mod_eq_of_lt (by omega)
  have e3 : (q * 4503599627370496 + K) / 4503599627370496 = q + 1 := by omega
  have e4 : (q * 4503599627370496 + K) % 4503599627370496 = K - 4503599627370496 := by omega
  rw [e1, e2, e3, e4, if_neg (by omega), if_pos (by omega)]
  exact num_eq (by omega) (by omega)

theorem cut_bounds (n d : Nat) (h : d ≤ n.log2 + 2) : n / 2^d ≤ Toward.even.cut false n d ∧ Toward.even.cut false n d ≤ n / 2^d + 1 := by
  unfold Toward.cut
  simp only [Nat.min_eq_left h, Nat.one_shiftLeft]
  constructor
  · omega
  · have : ∀ b : Bool, b.toNat ≤ 1 := by decide
    have := this (decide (2^d < 2 * (n % 2^d)) || (2^d == 2 * (n % 2^d) && n / 2^d % 2 == 1))
    omega

/-- What is kept has 53 digits. -/
theorem kept_bounds (m : Nat) (hm : m ≠ 0) : 4503599627370496 ≤ Toward.even.cut false (m * 2^(52 - m.log2)) (m.log2 - 52) ∧ Toward.even.cut false (m * 2^(52 - m.log2)) (m.log2 - 52) ≤ 9007199254740992 := by
  have h1 := Nat.log2_self_le hm
  have h2 := @Nat.lt_log2_self m
  by_cases h : m.log2 ≤ 52
  · rw [show m.log2 - 52 = 0 by omega, cut_zero]
    have e : 2^m.log2 * 2^(52 - m.log2) = 4503599627370496 := by rw [← Nat.pow_add, show m.log2 + (52 - m.log2) = 52 by omega]
    have e' : 2^(m.log2 + 1) * 2^(52 - m.log2) = 9007199254740992 := by rw [← Nat.pow_add, show m.log2 + 1 + (52 - m.log2) = 53 by omega]
    have g1 := Nat.mul_le_mul_right (2^(52 - m.log2)) h1
    have g2 := Nat.mul_le_mul_right (2^(52 - m.log2)) (Nat.le_of_lt h2)
    omega
  · rw [show 52 - m.log2 = 0 by omega, Nat.pow_zero, Nat.mul_one]
    obtain ⟨b1, b2⟩ := cut_bounds m (m.log2 - 52) (by omega)
    have e : 2^m.log2 = 4503599627370496 * 2^(m.log2 - 52) := by rw [show (4503599627370496 : Nat) = 2^52 by rfl, ← Nat.pow_add, show 52 + (m.log2 - 52) = m.log2 by omega]
    have e' : 2^(m.log2 + 1) = 9007199254740992 * 2^(m.log2 - 52) := by rw [show (9007199254740992 : Nat) = 2^53 by rfl, ← Nat.pow_add, show 53 + (m.log2 - 52) = m.log2 + 1 by omega]
    have hp := Nat.two_pow_pos (m.log2 - 52)
    have g1 : 4503599627370496 ≤ m / 2^(m.log2 - 52) := (Nat.le_div_iff_mul_le hp).2 (by omega)
    have g2 : m / 2^(m.log2 - 52) < 9007199254740992 := (Nat.div_lt_iff_lt_mul hp).2 (by omega)
    omega

/-- A number within range, rounded: its rung. -/
theorem nearest_rung (m : Nat) (e : Int) (hm : m ≠ 0) (h1 : -1000 ≤ e) (h2 : e + (m.log2 : Nat) ≤ 900) :
    double.nearest false m e = (e + (m.log2 : Nat) - 52 + 1074).toNat * 4503599627370496 + Toward.even.cut false (m * 2^(52 - m.log2)) (m.log2 - 52) := by
  unfold Format.nearest
  rw [if_neg hm]
  have hf : ((double.fractionBits : Nat) : Int) = 52 := rfl
  have hmax : max (e + (m.log2 : Nat) - (double.fractionBits : Nat)) double.leastPlace = e + (m.log2 : Nat) - 52 := by rw [hf, least]; omega
  simp only [hmax]
  simp only [Nat.shiftLeft_eq, binade, infRung, least, Format.word]
  rw [show (e - (e + (m.log2 : Nat) - 52)).toNat = 52 - m.log2 by omega, show (e + (m.log2 : Nat) - 52 - e).toNat = m.log2 - 52 by omega]
  obtain ⟨k1, k2⟩ := kept_bounds m hm
  rw [Nat.min_eq_left (by omega)]
  simp

theorem read_zero : double.read 0 = .number false 0 (-1074) := by decide

/-- A number of 53 digits is kept as it is. -/
theorem read_nearest (p : Nat) (e : Int) (hp : p < 9007199254740992) (h1 : -1000 ≤ e) (h2 : e ≤ 500) : ∃ s : Nat, double.read (double.nearest false p e) = .number false (p * 2^s) (e - s) ∧ p * 2^s < 9007199254740992 ∧ (p ≠ 0 → p.log2 + s = 52) := by
  by_cases h0 : p = 0
  · subst h0
    refine ⟨(e + 1074).toNat, ?_, by omega, fun h => absurd rfl h⟩
    have : double.nearest false 0 e = 0 := by simp [Format.nearest, Format.word]
    rw [this, read_zero]
    exact num_eq (by omega) (by omega)
  · have hl : p.log2 < 53 := (Nat.log2_lt h0).2 (by omega)
    refine ⟨52 - p.log2, ?_, ?_, fun _ => by omega⟩
    · rw [nearest_rung p e h0 h1 (by omega), show p.log2 - 52 = 0 by omega, cut_zero]
      have kb := kept_bounds p h0
      rw [show p.log2 - 52 = 0 by omega, cut_zero] at kb
      have hlt : p * 2^(52 - p.log2) < 9007199254740992 := by
        have e' : 2^(p.log2 + 1) * 2^(52 - p.log2) = 9007199254740992 := by rw [← Nat.pow_add, show p.log2 + 1 + (52 - p.log2) = 53 by omega]
        have := Nat.mul_lt_mul_of_pos_right (@Nat.lt_log2_self p) (Nat.two_pow_pos (52 - p.log2))
        omega
      rw [read_rung _ _ (by omega) kb.1 hlt]
      exact num_eq rfl (by omega)
    · have e' : 2^(p.log2 + 1) * 2^(52 - p.log2) = 9007199254740992 := by rw [← Nat.pow_add, show p.log2 + 1 + (52 - p.log2) = 53 by omega]
      have := Nat.mul_lt_mul_of_pos_right (@Nat.lt_log2_self p) (Nat.two_pow_pos (52 - p.log2))
      omega

/-- Any number within range, rounded: it has at most 53 digits, and at most doubles. -/
theorem read_rounded (m : Nat) (e : Int) (hm : m ≠ 0) (h1 : -1000 ≤ e) (h2 : e + (m.log2 : Nat) ≤ 900) :
    ∃ (n : Nat) (j : Int), double.read (double.nearest false m e) = .number false n j ∧ n ≠ 0 ∧ n.log2 = 52 ∧ j ≤ e + (m.log2 : Nat) - 51 ∧ e + (m.log2 : Nat) - 52 ≤ j := by
  obtain ⟨k1, k2⟩ := kept_bounds m hm
  rw [nearest_rung m e hm h1 h2]
  generalize Toward.even.cut false (m * 2^(52 - m.log2)) (m.log2 - 52) = K at k1 k2
  by_cases hK : K = 9007199254740992
  · refine ⟨4503599627370496, e + (m.log2 : Nat) - 51, ?_, by decide, by decide, by omega, by omega⟩
    rw [show (e + (m.log2 : Nat) - 52 + 1074).toNat * 4503599627370496 + K = ((e + (m.log2 : Nat) - 52 + 1074).toNat + 1) * 4503599627370496 + 4503599627370496 by omega,
      read_rung _ _ (by omega) (by omega) (by omega)]
    exact num_eq rfl (by omega)
  · refine ⟨K, e + (m.log2 : Nat) - 52, ?_, by omega, (Nat.log2_eq_iff (by omega)).2 ⟨by omega, by omega⟩, by omega, by omega⟩
    rw [read_rung _ _ (by omega) k1 (by omega)]
    exact num_eq rfl (by omega)


/-- The word of p parts. -/
def W (p : Nat) : Nat := double.nearest false p (-20)
/-- The word of a whole number. -/
def F (a : Nat) : Nat := double.nearest false a 0

theorem read_W (p : Nat) (hp : p < 9007199254740992) : ∃ s : Nat, double.read (W p) = .number false (p * 2^s) (-20 - s) ∧ p * 2^s < 9007199254740992 ∧ (p ≠ 0 → p.log2 + s = 52) := read_nearest p (-20) hp (by omega) (by omega)
theorem read_F (p : Nat) (hp : p < 9007199254740992) : ∃ s : Nat, double.read (F p) = .number false (p * 2^s) (0 - s) ∧ p * 2^s < 9007199254740992 ∧ (p ≠ 0 → p.log2 + s = 52) := read_nearest p 0 hp (by omega) (by omega)

theorem signed_pos (m k : Nat) : signed false m k = ((m * 2^k : Nat) : Int) := by simp [signed, Nat.shiftLeft_eq]

theorem add_W (p q : Nat) (hp : p < 9007199254740992) (hq : q < 9007199254740992) : double.add (W p) (W q) = some (W (p + q)) := by
  obtain ⟨s, hs, _⟩ := read_W p hp
  obtain ⟨t, ht, _⟩ := read_W q hq
  unfold Format.add
  rw [hs, ht]
  simp only [Datum.sum, signed_pos, Option.map_some]
  rw [show min (-20 - (s : Int)) (-20 - (t : Int)) = -20 - (max s t : Nat) by omega]
  rw [show (-20 - (s : Int) - (-20 - (max s t : Nat))).toNat = max s t - s by omega, show (-20 - (t : Int) - (-20 - (max s t : Nat))).toNat = max s t - t by omega]
  rw [Nat.mul_assoc p, Nat.mul_assoc q, ← Nat.pow_add, ← Nat.pow_add, show s + (max s t - s) = max s t by omega, show t + (max s t - t) = max s t by omega]
  rw [show ((p * 2^(max s t) : Nat) : Int) + ((q * 2^(max s t) : Nat) : Int) = (((p + q) * 2^(max s t) : Nat) : Int) by rw [← Int.natCast_add, Nat.add_mul]]
  generalize max s t = u
  rw [Int.natAbs_natCast]
  have hn : (if (((p + q) * 2^u : Nat) : Int) = 0 then (false && false) else decide ((((p + q) * 2^u : Nat) : Int) < 0)) = false := by
    split
    · rfl
    · exact decide_eq_false (Int.not_lt.2 (Int.natCast_nonneg _))
  rw [hn]
  show some (double.nearest false ((p + q) * 2^u) (-20 - u)) = _
  rw [nearest_shift, show (-20 - (u : Int) + (u : Int)) = -20 by omega]
  rfl

theorem order_W (p q : Nat) (hp : p < 9007199254740992) (hq : q < 9007199254740992) : double.order (W p) (W q) = some (compare p q) := by
  obtain ⟨s, hs, _⟩ := read_W p hp
  obtain ⟨t, ht, _⟩ := read_W q hq
  unfold Format.order
  rw [hs, ht]
  simp only [Datum.order, signed_pos]
  rw [show min (-20 - (s : Int)) (-20 - (t : Int)) = -20 - (max s t : Nat) by omega]
  rw [show (-20 - (s : Int) - (-20 - (max s t : Nat))).toNat = max s t - s by omega, show (-20 - (t : Int) - (-20 - (max s t : Nat))).toNat = max s t - t by omega]
  rw [Nat.mul_assoc p, Nat.mul_assoc q, ← Nat.pow_add, ← Nat.pow_add, show s + (max s t - s) = max s t by omega, show t + (max s t - t) = max s t by omega]
  generalize max s t = u
  have hpos := Nat.two_pow_pos u
  congr 1
  simp only [compare, compareOfLessAndEq]
  have h1 : ((p * 2^u : Nat) : Int) < ((q * 2^u : Nat) : Int) ↔ p < q := by rw [Int.ofNat_lt]; exact Nat.mul_lt_mul_right hpos
  have h2 : ((p * 2^u : Nat) : Int) = ((q * 2^u : Nat) : Int) ↔ p = q := by rw [Int.natCast_inj]; exact Nat.mul_left_inj (Nat.ne_of_gt hpos)
  simp only [h1, h2]

theorem read_C : double.read 4697254411347427328 = .number false 4503599627370496 (-32) := by decide

theorem div_C (a : Nat) (ha : a < 9007199254740992) : double.div (F a) 4697254411347427328 = some (W a) := by
  obtain ⟨s, hs, hlt, _⟩ := read_F a ha
  unfold Format.div
  rw [hs, read_C]
  have hl : (a * 2^s).log2 ≤ 52 := by
    by_cases h0 : a * 2^s = 0
    · rw [h0]; decide
    · exact Nat.le_of_lt_succ ((Nat.log2_lt h0).2 hlt)
  have hc : Nat.log2 4503599627370496 = 52 := by decide
  simp only [Datum.quotient, hc, Nat.shiftLeft_eq, show (4503599627370496 : Nat) ≠ 0 by decide, if_false, Option.map_some]
  have hf : double.fractionBits + 2 + 52 = 106 := rfl
  rw [hf]
  obtain ⟨r, hr⟩ : ∃ r, 106 - (a * 2^s).log2 = 52 + r := ⟨54 - (a * 2^s).log2, by omega⟩
  rw [hr]
  have e : a * 2^s * 2^(52 + r) = (a * 2^s * 2^r) * 4503599627370496 := by
    rw [show (4503599627370496 : Nat) = 2^52 by rfl, Nat.mul_assoc _ (2^r), ← Nat.pow_add, Nat.add_comm r 52]
  rw [e, Nat.mul_div_cancel _ (by decide), Nat.mul_mod_left]
  have e2 : 2 * (a * 2^s * 2^r) + ((0 : Nat) != 0).toNat = a * 2^(s + r + 1) := by
    have : ((0 : Nat) != 0).toNat = 0 := rfl
    rw [this, Nat.add_zero, Nat.pow_succ, Nat.pow_add]
    rw [Nat.mul_comm 2, ← Nat.mul_assoc, ← Nat.mul_assoc]
  rw [e2]
  show some (double.nearest false (a * 2^(s + r + 1)) _) = some (double.nearest false a (-20))
  rw [nearest_shift]
  congr 2
  omega

theorem one_div (n : Nat) (hn : n ≤ 20) : double.div 4607182418800017408 (F (2^n)) = some (W (2^(20 - n))) := by
  have : ∀ n : Fin 21, double.div 4607182418800017408 (F (2^n.1)) = some (W (2^(20 - n.1))) := by decide +kernel
  exact this ⟨n, by omega⟩

theorem toInt_bound (n : Nat) (j : Int) (hn : n < 9007199254740992) (hj : j ≤ 9) : ∃ m : Nat, (Datum.number false n j).toInt .zero = some (m : Int) ∧ m < 4611686018427387904 := by
  refine ⟨Toward.zero.cut false (n <<< j.toNat) (-j).toNat, ?_, ?_⟩
  · simp only [Datum.toInt, Datum.integral, signed_pos, Nat.pow_zero, Nat.mul_one]
  · unfold Toward.cut
    simp only [Bool.toNat_false, Nat.add_zero]
    refine Nat.lt_of_le_of_lt (Nat.div_le_self _ _) ?_
    rw [Nat.shiftLeft_eq]
    have h1 : 2^j.toNat ≤ 2^9 := Nat.pow_le_pow_right (by omega) (by omega)
    have h2 := Nat.mul_le_mul_left n h1
    omega

theorem nearest_zero (e : Int) : double.nearest false 0 e = 0 := by simp [Format.nearest, Format.word]

theorem toIntVal_of (r n : Nat) (j : Int) (h : double.read r = .number false n j) (hn : n < 9007199254740992) (hj : j ≤ 9) : ∃ m : Nat, floatToIntVal .f64 r .i64 = some (m : Int) := by
  obtain ⟨m, h1, h2⟩ := toInt_bound n j hn hj
  refine ⟨m, ?_⟩
  unfold floatToIntVal
  have : FloatKind.f64.decode r = .number false n j := h
  rw [this, h1]
  have e1 : IntKind.i64.min = -9223372036854775808 := by decide
  have e2 : IntKind.i64.max = 9223372036854775807 := by decide
  simp only [e1, e2]
  rw [if_pos ⟨by omega, by omega⟩]

theorem lt_of_log2 {n k : Nat} (h : n.log2 = k) : n < 2^(k + 1) := h ▸ Nat.lt_log2_self
theorem ge_of_log2 {n k : Nat} (hn : n ≠ 0) (h : n.log2 = k) : 2^k ≤ n := h ▸ Nat.log2_self_le hn

theorem mul_log2 {a b : Nat} (ha : a ≠ 0) (hb : b ≠ 0) : (a * b).log2 ≤ a.log2 + b.log2 + 1 := by
  have h1 := @Nat.lt_log2_self a
  have h2 := @Nat.lt_log2_self b
  have h3 : a * b < 2^(a.log2 + b.log2 + 2) := by
    rw [show a.log2 + b.log2 + 2 = (a.log2 + 1) + (b.log2 + 1) by omega, Nat.pow_add]
    exact Nat.mul_lt_mul_of_lt_of_lt h1 h2
  have := (Nat.log2_lt (Nat.mul_ne_zero ha hb)).2 h3
  omega

theorem log2_mono {a b : Nat} (ha : a ≠ 0) (h : a ≤ b) : a.log2 ≤ b.log2 := (Nat.le_log2 (by omega)).2 (Nat.le_trans (Nat.log2_self_le ha) h)

/-- A share is a whole number that fits. -/
theorem share (total p sum : Nat) (ht : total ≤ 1125899906842624) (hps : p ≤ sum) (h0 : sum ≠ 0) (hs : sum < 9007199254740992) :
    ∃ x r m : Nat, double.mul (F total) (W p) = some x ∧ double.div x (W sum) = some r ∧ floatToIntVal .f64 r .i64 = some (m : Int) := by
  obtain ⟨s, hs1, hs2, hs3⟩ := read_F total (by omega)
  obtain ⟨t, ht1, ht2, ht3⟩ := read_W p (by omega)
  obtain ⟨u, hu1, hu2, hu3⟩ := read_W sum hs
  have hu := hu3 h0
  have hn0 : sum * 2^u ≠ 0 := Nat.mul_ne_zero h0 (Nat.ne_of_gt (Nat.two_pow_pos u))
  have hul : (sum * 2^u).log2 = 52 := by rw [lg _ _ h0, hu]
  have hmul : double.mul (F total) (W p) = some (double.nearest false (total * 2^s * (p * 2^t)) (0 - s + (-20 - t))) := by
    unfold Format.mul
    rw [hs1, ht1]
    rfl
  by_cases hM : total = 0 ∨ p = 0
  · have hz : total * 2^s * (p * 2^t) = 0 := by rcases hM with h | h <;> simp [h]
    rw [hz, nearest_zero] at hmul
    refine ⟨0, 0, 0, hmul, ?_, by decide⟩
    unfold Format.div
    rw [hu1, read_zero]
    simp only [Datum.quotient, if_neg hn0, Nat.shiftLeft_eq, Nat.zero_mul, Nat.zero_div, Nat.zero_mod, Option.map_some]
    show some (double.nearest false 0 _) = some 0
    rw [nearest_zero]
  · have hto : total ≠ 0 := fun h => hM (Or.inl h)
    have hpo : p ≠ 0 := fun h => hM (Or.inr h)
    have hsl := hs3 hto
    have htl := ht3 hpo
    have l1 : (total * 2^s).log2 = 52 := by rw [lg _ _ hto, hsl]
    have l2 : (p * 2^t).log2 = 52 := by rw [lg _ _ hpo, htl]
    have n1 : total * 2^s ≠ 0 := Nat.mul_ne_zero hto (Nat.ne_of_gt (Nat.two_pow_pos s))
    have n2 : p * 2^t ≠ 0 := Nat.mul_ne_zero hpo (Nat.ne_of_gt (Nat.two_pow_pos t))
    have l3 := mul_log2 n1 n2
    have n3 := Nat.mul_ne_zero n1 n2
    have ltot : total.log2 ≤ 50 := by
      have := log2_mono hto ht
      have h50 : Nat.log2 1125899906842624 = 50 := by decide
      omega
    have lps := log2_mono hpo hps
    rw [l1, l2] at l3
    generalize hMM : total * 2^s * (p * 2^t) = M at *
    obtain ⟨n, j, hr, hn, hnl, hj1, hj2⟩ := read_rounded M (0 - s + (-20 - t)) n3 (by omega) (by omega)
    have hdiv : double.div (double.nearest false M (0 - s + (-20 - t))) (W sum) = some (double.nearest false (2 * (n * 2^54 / (sum * 2^u)) + ((n * 2^54 % (sum * 2^u)) != 0).toNat) (j - (-20 - u) - 54 - 1)) := by
      unfold Format.div
      rw [hr, hu1]
      simp only [Datum.quotient, if_neg hn0, Nat.shiftLeft_eq, Option.map_some, hnl, hul]
      rfl
    have hlow := ge_of_log2 hn hnl
    have hup := lt_of_log2 hnl
    have hq1 : n * 2^54 / (sum * 2^u) < 2^56 := by
      rw [Nat.div_lt_iff_lt_mul (by omega)]
      have := ge_of_log2 hn0 hul
      omega
    have hq2 : 1 ≤ n * 2^54 / (sum * 2^u) := by
      rw [Nat.le_div_iff_mul_le (by omega)]
      omega
    have hc : ((n * 2^54 % (sum * 2^u)) != 0).toNat ≤ 1 := Bool.toNat_le _
    generalize hQ : 2 * (n * 2^54 / (sum * 2^u)) + ((n * 2^54 % (sum * 2^u)) != 0).toNat = Q at *
    have hQ0 : Q ≠ 0 := by omega
    have hQl : Q.log2 ≤ 57 := Nat.le_of_lt_succ ((Nat.log2_lt hQ0).2 (by omega))
    obtain ⟨n', j', hr', hn', hnl', hj1', hj2'⟩ := read_rounded Q (j - (-20 - u) - 54 - 1) hQ0 (by omega) (by omega)
    obtain ⟨m, hm⟩ := toIntVal_of _ n' j' hr' (lt_of_log2 hnl') (by omega)
    exact ⟨_, _, m, hmul, hdiv, hm⟩

end Go.Proofs.YtlodenfdcckemaaDoor.Fl
