/-
  The search, of no program: picks, levels, and the lemma of a conflict.
-/
import Derived.Test.YtomebpjjeldhdaaDoorLit
namespace Go.Proofs.YtomebpjjeldhdaaDoor

/-- A literal that was made true: by a clause, or (0) by choice; at a level. -/
structure Pk where
  lit : Nat
  cl : Nat
  lev : Nat

/-- The literals of picks, the newest first. -/
def truthOf : List Pk → Nat
  | [] => 0
  | p :: P => truthOf P ||| p.lit

/-- How many were chosen. -/
def lv : List Pk → Nat
  | [] => 0
  | p :: P => if p.cl = 0 then lv P + 1 else lv P

/-- Each literal is new; a clause of D has brought it, or it was chosen. -/
def Trail (V : Nat) (D : Nat → Prop) : List Pk → Prop
  | [] => True
  | p :: P => Trail V D P ∧ p.lev = lv (p :: P) ∧ ∃ n, n < 2 * V ∧ p.lit = 2 ^ n ∧ (truthOf P).testBit n = false ∧ (truthOf P).testBit (mir n) = false ∧
      (p.cl = 0 ∨ (D p.cl ∧ p.cl < 2 ^ (2 * V) ∧ p.cl.testBit n = true ∧ ∀ m, p.cl.testBit m = true → m ≠ n → (truthOf P).testBit (mir m) = true))

/-- A clause brings nothing more. -/
def Quiet (k S : Nat) : Prop := openOf k S ≠ 0 ∧ (single (openOf k S) = true → within (openOf k S) S = true)

/-- Ahead of each choice nothing more was brought. -/
def Rest (K : List Nat) (P : List Pk) : Prop := ∀ A c Q, P = A ++ c :: Q → c.cl = 0 → ∀ k ∈ K, Quiet k (truthOf Q)

theorem two_pow_bit (n m : Nat) : (2 ^ n).testBit m = true ↔ n = m := by rw [Nat.testBit_two_pow]; simp
theorem two_pow_lt {V n : Nat} (h : n < 2 * V) : 2 ^ n < 2 ^ (2 * V) := Nat.pow_lt_pow_right (by decide) h
theorem mir_ne (n : Nat) : mir n ≠ n := by unfold mir; split <;> omega
theorem mir_eq {a b : Nat} : mir a = b ↔ a = mir b := ⟨fun h => by rw [← h, mir_mir], fun h => by rw [h, mir_mir]⟩
theorem opp_pow_bit {V : Nat} (hV : V ≤ 20) {n : Nat} (hn : n < 2 * V) (m : Nat) : (opp (2 ^ n)).testBit m = true ↔ m = mir n := by
  rw [opp_bit' hV (two_pow_lt hn), two_pow_bit]
  exact ⟨fun h => by rw [h, mir_mir], fun h => by rw [h, mir_mir]⟩
theorem within_opp {V : Nat} (hV : V ≤ 20) {n : Nat} (hn : n < 2 * V) {c : Nat} (hc : c < 2 ^ (2 * V)) : within (opp (2 ^ n)) c = true ↔ c.testBit (mir n) = true := by
  rw [within_iff (lt64 hV (opp_lt hV (two_pow_lt hn))) (lt64 hV hc)]
  constructor
  · intro h; exact h _ ((opp_pow_bit hV hn _).2 rfl)
  · intro h m hm; rw [(opp_pow_bit hV hn m).1 hm]; exact h
theorem within_pow {V : Nat} (hV : V ≤ 20) {n : Nat} (hn : n < 2 * V) {c : Nat} (hc : c < 2 ^ (2 * V)) : within (2 ^ n) c = true ↔ c.testBit n = true := by
  rw [within_iff (lt64 hV (two_pow_lt hn)) (lt64 hV hc)]
  constructor
  · intro h; exact h _ ((two_pow_bit n n).2 rfl)
  · intro h m hm; rw [← (two_pow_bit n m).1 hm]; exact h

theorem bool_false {b : Bool} (h : ¬ b = true) : b = false := by cases b <;> simp_all

/-! Picks. -/

theorem truthOf_append (A P : List Pk) : truthOf (A ++ P) = truthOf P ||| truthOf A := by
  induction A with
  | nil => simp [truthOf]
  | cons p A ih => simp only [List.cons_append, truthOf, ih, Nat.or_assoc]

theorem truthOf_bit (P : List Pk) (n : Nat) : (truthOf P).testBit n = true ↔ ∃ p ∈ P, p.lit.testBit n = true := by
  induction P with
  | nil => simp [truthOf]
  | cons p P ih => simp only [truthOf, Nat.testBit_or, Bool.or_eq_true, ih, List.mem_cons, exists_eq_or_imp]; exact Or.comm

theorem lv_append (A P : List Pk) : lv P ≤ lv (A ++ P) := by
  induction A with
  | nil => exact Nat.le_refl _
  | cons p A ih => rw [List.cons_append, lv]; split <;> omega

theorem Trail.drop {V : Nat} {D : Nat → Prop} : ∀ {A P : List Pk}, Trail V D (A ++ P) → Trail V D P
  | [], _, h => h
  | _ :: A, _, h => Trail.drop (A := A) h.1

theorem Trail.mono {V : Nat} {D D' : Nat → Prop} (hD : ∀ k, D k → D' k) : ∀ {P : List Pk}, Trail V D P → Trail V D' P
  | [], _ => trivial
  | _ :: P, h => by
    obtain ⟨h1, h2, n, h3, h4, h5, h6, h7⟩ := h
    refine ⟨Trail.mono hD h1, h2, n, h3, h4, h5, h6, ?_⟩
    rcases h7 with h7 | ⟨a, b⟩
    · exact .inl h7
    · exact .inr ⟨hD _ a, b⟩

theorem Trail.lit {V : Nat} {D : Nat → Prop} {P : List Pk} (h : Trail V D P) {p : Pk} (hp : p ∈ P) : ∃ n, n < 2 * V ∧ p.lit = 2 ^ n := by
  induction P with
  | nil => cases hp
  | cons q P ih =>
    obtain ⟨h1, h2, n, h3, h4, -⟩ := h
    rcases List.mem_cons.1 hp with rfl | hp
    · exact ⟨n, h3, h4⟩
    · exact ih h1 hp

theorem Trail.small {V : Nat} {D : Nat → Prop} {P : List Pk} (h : Trail V D P) : truthOf P < 2 ^ (2 * V) := by
  induction P with
  | nil => exact Nat.two_pow_pos _
  | cons q P ih =>
    obtain ⟨h1, h2, n, h3, h4, -⟩ := h
    rw [truthOf, h4]
    exact Nat.or_lt_two_pow (ih h1) (two_pow_lt h3)

theorem Trail.apart {V : Nat} {D : Nat → Prop} {P : List Pk} (h : Trail V D P) : ∀ n, (truthOf P).testBit n = true → (truthOf P).testBit (mir n) = false := by
  induction P with
  | nil => intro n hn; simp [truthOf] at hn
  | cons q P ih =>
    obtain ⟨h1, h2, n, h3, h4, h5, h6, -⟩ := h
    intro m hm
    rw [truthOf, h4, Nat.testBit_or, Bool.or_eq_true, two_pow_bit] at hm
    rw [truthOf, h4, Nat.testBit_or, Bool.or_eq_false_iff]
    rcases hm with hm | rfl
    · refine ⟨ih h1 m hm, bool_false fun h => ?_⟩
      rw [two_pow_bit] at h
      rw [h, mir_mir, hm] at h6
      cases h6
    · refine ⟨h6, bool_false fun h => ?_⟩
      rw [two_pow_bit] at h
      exact mir_ne n h.symm

theorem Trail.level {V : Nat} {D : Nat → Prop} {P : List Pk} (h : Trail V D P) {p : Pk} (hp : p ∈ P) : p.lev ≤ lv P := by
  induction P with
  | nil => cases hp
  | cons q P ih =>
    rcases List.mem_cons.1 hp with rfl | hp
    · rw [h.2.1]; exact Nat.le_refl _
    · exact Nat.le_trans (ih h.1 hp) (lv_append [q] P)

/-- What was picked later is new. -/
theorem Trail.new {V : Nat} {D : Nat → Prop} : ∀ {A P : List Pk}, Trail V D (A ++ P) → ∀ {q : Pk} {k : Nat}, q ∈ A → q.lit = 2 ^ k → (truthOf P).testBit k = false
  | [], _, _, _, _, hq, _ => by cases hq
  | a :: A, P, h, q, k, hq, hk => by
    rcases List.mem_cons.1 hq with rfl | hq
    · obtain ⟨h1, h2, n, h3, h4, h5, -⟩ := h
      have : n = k := (two_pow_bit n k).1 (by rw [← h4, hk]; exact (two_pow_bit k k).2 rfl)
      subst this
      refine bool_false fun hb => ?_
      have h5 : (truthOf (A ++ P)).testBit n = false := h5
      rw [truthOf_append, Nat.testBit_or, hb] at h5
      cases h5
    · exact Trail.new (A := A) h.1 hq hk

theorem Trail.same {V : Nat} {D : Nat → Prop} {P : List Pk} (h : Trail V D P) {p q : Pk} (hp : p ∈ P) (hq : q ∈ P) (e : p.lit = q.lit) : p = q := by
  induction P with
  | nil => cases hp
  | cons a P ih =>
    have key : ∀ {x : Pk}, x ∈ P → a.lit = x.lit → False := fun {x} hx ex => by
      obtain ⟨n, hn, e1⟩ := Trail.lit h List.mem_cons_self
      have := Trail.new (A := [a]) (P := P) h List.mem_cons_self e1
      have hb : (truthOf P).testBit n = true := (truthOf_bit P n).2 ⟨x, hx, by rw [← ex, e1]; exact (two_pow_bit n n).2 rfl⟩
      rw [this] at hb; cases hb
    rcases List.mem_cons.1 hp with rfl | hp' <;> rcases List.mem_cons.1 hq with rfl | hq'
    · rfl
    · exact (key hq' e).elim
    · exact (key hp' e.symm).elim
    · exact ih h.1 hp' hq'

theorem Trail.pick {V : Nat} {D : Nat → Prop} {P : List Pk} (h : Trail V D P) {n : Nat} (hn : (truthOf P).testBit n = true) : ∃ p ∈ P, p.lit = 2 ^ n := by
  obtain ⟨p, hp, hb⟩ := (truthOf_bit P n).1 hn
  obtain ⟨m, hm, e⟩ := h.lit hp
  rw [e, two_pow_bit] at hb
  subst hb
  exact ⟨p, hp, e⟩

theorem pick_bit {P : List Pk} {p : Pk} {n : Nat} (hp : p ∈ P) (e : p.lit = 2 ^ n) : (truthOf P).testBit n = true := (truthOf_bit P n).2 ⟨p, hp, by rw [e]; exact (two_pow_bit n n).2 rfl⟩

/-- The last choice. -/
theorem last_choice {V : Nat} {D : Nat → Prop} : ∀ {P : List Pk}, Trail V D P → 0 < lv P → ∃ A c Q, P = A ++ c :: Q ∧ c.cl = 0 ∧ lv Q + 1 = lv P ∧ ∀ q ∈ A ++ [c], q.lev = lv P
  | [], _, h => by simp [lv] at h
  | p :: P, h, h0 => by
    by_cases e : p.cl = 0
    · refine ⟨[], p, P, rfl, e, by rw [lv, if_pos e], fun q hq => ?_⟩
      simp only [List.nil_append, List.mem_singleton] at hq
      subst hq
      exact h.2.1
    · have hl : lv (p :: P) = lv P := by rw [lv, if_neg e]
      obtain ⟨A, c, Q, h1, h2, h3, h4⟩ := last_choice h.1 (by omega)
      refine ⟨p :: A, c, Q, by rw [h1]; rfl, h2, by omega, fun q hq => ?_⟩
      rw [List.cons_append] at hq
      rcases List.mem_cons.1 hq with rfl | hq
      · exact h.2.1
      · rw [hl]; exact h4 q hq

/-! The lemma. -/

/-- Opposites of what was picked at a level. -/
def falseAt (L : Nat) : List Pk → Nat → Nat
  | [], a => a
  | p :: P, a => falseAt L P (if p.lev = L then a ||| opp p.lit else a)

/-- A literal is replaced by the others of its clause. -/
def repl (last L : Nat) (p : Pk) (c : Nat) : Nat := if (p.lev = 0 ∨ (p.lev = L ∧ single (c &&& last) = false)) ∧ within (opp p.lit) c = true then dif c (opp p.lit) ||| dif p.cl p.lit else c

def lemOf (last L : Nat) : List Pk → Nat → Nat
  | [], c => c
  | p :: P, c => lemOf last L P (repl last L p c)

theorem falseAt_bit {V : Nat} (hV : V ≤ 20) (L : Nat) : ∀ {P : List Pk}, (∀ p ∈ P, ∃ n, n < 2 * V ∧ p.lit = 2 ^ n) → ∀ (a m : Nat), (falseAt L P a).testBit m = true ↔ a.testBit m = true ∨ ∃ p ∈ P, p.lev = L ∧ p.lit = 2 ^ mir m
  | [], _, a, m => by simp [falseAt]
  | p :: P, h, a, m => by
    rw [falseAt, falseAt_bit hV L (fun q hq => h q (List.mem_cons_of_mem _ hq))]
    obtain ⟨n, hn, e⟩ := h p List.mem_cons_self
    simp only [List.mem_cons, exists_eq_or_imp]
    have he : p.lit = 2 ^ mir m ↔ m = mir n := by
      rw [e]
      constructor
      · intro h; have := (two_pow_bit n (mir m)).1 (by rw [h]; exact (two_pow_bit _ _).2 rfl); exact (mir_eq.1 this.symm)
      · intro h; rw [h, mir_mir]
    split
    · rename_i hl
      rw [Nat.testBit_or, Bool.or_eq_true, e, opp_pow_bit hV hn, ← e, he]
      simp only [hl, true_and, or_assoc]
    · rename_i hl
      simp only [hl, false_and, false_or]

/-- What is given against a set follows at once to a conflict. -/
def Rup (C : List (List Int)) (c : Nat) : Prop := Conf C fun l => l ≠ 0 ∧ c.testBit (mir (pl l)) = true

theorem Fol.trans {C : List (List Int)} {G G' : Int → Prop} (h : ∀ l, G l → Fol C G' l) {l : Int} (hl : Fol C G l) : Fol C G' l := by
  induction hl with
  | given hg => exact h _ hg
  | unit hc hl _ ih => exact .unit hc hl ih

theorem Conf.trans {C : List (List Int)} {G G' : Int → Prop} (h : ∀ l, G l → Fol C G' l) (hc : Conf C G) : Conf C G' := by
  rcases hc with ⟨l, h1, h2⟩ | ⟨c, hc, hm⟩
  · exact .inl ⟨l, h1.trans h, h2.trans h⟩
  · exact .inr ⟨c, hc, fun m hmc => (hm m hmc).trans h⟩

theorem Fol.more {C C' : List (List Int)} (hC : ∀ c ∈ C, c ∈ C') {G : Int → Prop} {l : Int} (hl : Fol C G l) : Fol C' G l := by
  induction hl with
  | given hg => exact .given hg
  | unit hc hl _ ih => exact .unit (hC _ hc) hl ih

/-- Of the clauses one, as a set. -/
def Known (V : Nat) (C : List (List Int)) (k : Nat) : Prop := ∃ d ∈ C, (∀ l ∈ d, IsLit V l) ∧ maskOf d = k

/-- A false clause starts. -/
theorem Rup.start {V : Nat} {C : List (List Int)} {k : Nat} (hk : Known V C k) : Rup C k := by
  obtain ⟨d, hd, hl, rfl⟩ := hk
  refine .inr ⟨d, hd, fun m hm => .given ⟨by have := (hl m hm).1; omega, ?_⟩⟩
  rw [← pl_neg (by have := (hl m hm).1; omega), Int.neg_neg]
  exact (maskOf_bit d _).2 ⟨m, hm, rfl⟩

theorem Rup.step {V : Nat} {C : List (List Int)} {k n c c' : Nat} (hk : Known V C k) (hn : k.testBit n = true) (hc : ∀ m, c.testBit m = true → m ≠ mir n → c'.testBit m = true) (hk' : ∀ m, k.testBit m = true → m ≠ n → c'.testBit m = true) (h : Rup C c) : Rup C c' := by
  obtain ⟨d, hd, hl, rfl⟩ := hk
  obtain ⟨x, hx, ex⟩ := (maskOf_bit d n).1 hn
  have hx0 := (hl x hx).1
  have key : Fol C (fun l => l ≠ 0 ∧ c'.testBit (mir (pl l)) = true) x := by
    refine .unit hd hx fun m hm hne => .given ⟨by have := (hl m hm).1; omega, ?_⟩
    rw [← pl_neg (by have := (hl m hm).1; omega), Int.neg_neg]
    exact hk' _ ((maskOf_bit d _).2 ⟨m, hm, rfl⟩) (fun e => hne (pl_inj (hl m hm).1 hx0 (by rw [e, ex])))
  refine Conf.trans (fun l hl' => ?_) h
  by_cases e : mir (pl l) = mir n
  · have : pl l = pl x := by rw [ex, ← mir_mir (pl l), e, mir_mir]
    rw [pl_inj hl'.1 hx0 this]
    exact key
  · exact .given ⟨hl'.1, hc _ hl'.2 e⟩

end Go.Proofs.YtomebpjjeldhdaaDoor
