/-
  The search as steps, of no program: what holds at each, and what an end says.
-/
import Derived.Test.YtomebpjjeldhdaaDoorSeaQ
namespace Go.Proofs.YtomebpjjeldhdaaDoor

/-- What follows, going through the kept clauses again and again: what a pass has left, what has come, whether anything was new; and how it ends: with all that has come, or at a clause. -/
inductive Goes (K : List Nat) : List Nat → Bool → List Pk → List Pk × Option Nat → Prop
  | conf {k r b P} : openOf k (truthOf P) = 0 → Goes K (k :: r) b P (P, some k)
  | unit {k r b P R} : openOf k (truthOf P) ≠ 0 → single (openOf k (truthOf P)) = true → within (openOf k (truthOf P)) (truthOf P) = false → Goes K r true (⟨openOf k (truthOf P), k, lv P⟩ :: P) R → Goes K (k :: r) b P R
  | skip {k r b P R} : openOf k (truthOf P) ≠ 0 → (single (openOf k (truthOf P)) = true → within (openOf k (truthOf P)) (truthOf P) = true) → Goes K r b P R → Goes K (k :: r) b P R
  | again {P R} : Goes K K false P R → Goes K [] true P R
  | done {P} : Goes K [] false P (P, none)

theorem Goes.det {K r : List Nat} {b : Bool} {P : List Pk} {R R' : List Pk × Option Nat} (h : Goes K r b P R) (h' : Goes K r b P R') : R = R' := by
  induction h with
  | conf h0 =>
    cases h' with
    | conf => rfl
    | unit h1 => exact absurd h0 h1
    | skip h1 => exact absurd h0 h1
  | unit h1 h2 h3 _ ih =>
    cases h' with
    | conf h0 => exact absurd h0 h1
    | unit _ _ _ h4 => exact ih h4
    | skip _ h5 => rw [h5 h2] at h3; cases h3
  | skip h1 h2 _ ih =>
    cases h' with
    | conf h0 => exact absurd h0 h1
    | unit _ h4 h5 => rw [h2 h4] at h5; cases h5
    | skip _ _ h3 => exact ih h3
  | again _ ih => cases h' with | again h => exact ih h
  | done => cases h'; rfl

/-- The literal to choose. -/
def chooseOf (ch : List Nat) (S : Nat) : Option Nat := ch.find? fun l => !within l (S ||| opp S)

/-- A state: the kept clauses, the picks, the lemmas found. -/
structure Cf where
  K : List Nat
  P : List Pk
  F : List Nat

/-- How a search ends: an assignment's set, or the lemmas. -/
inductive End
  | sat (S : Nat)
  | unsat (F : List Nat)

inductive Turn (ch : List Nat) : Cf → Cf ⊕ End → Prop
  | learn {K P F P' k c} : Goes K [] true P (P', some k) → c = lemOf (falseAt (lv P') P' 0) (lv P') P' k → c ≠ 0 → Turn ch ⟨K, P, F⟩ (.inl ⟨addTo K c, popTo (backLev (lv P') c P') P', F ++ [c]⟩)
  | ended {K P F P' k} : Goes K [] true P (P', some k) → lemOf (falseAt (lv P') P' 0) (lv P') P' k = 0 → Turn ch ⟨K, P, F⟩ (.inr (.unsat (F ++ [0])))
  | chose {K P F P' l} : Goes K [] true P (P', none) → chooseOf ch (truthOf P') = some l → Turn ch ⟨K, P, F⟩ (.inl ⟨K, ⟨l, 0, lv P' + 1⟩ :: P', F⟩)
  | found {K P F P'} : Goes K [] true P (P', none) → chooseOf ch (truthOf P') = none → Turn ch ⟨K, P, F⟩ (.inr (.sat (truthOf P')))

theorem Turn.det {ch : List Nat} {a : Cf} {r r' : Cf ⊕ End} (h : Turn ch a r) (h' : Turn ch a r') : r = r' := by
  cases h with
  | learn g1 e1 n1 =>
    cases h' with
    | learn g2 e2 n2 =>
      have := g1.det g2
      simp only [Prod.mk.injEq, Option.some.injEq] at this
      obtain ⟨rfl, rfl⟩ := this
      subst e1; subst e2; rfl
    | ended g2 e2 =>
      have := g1.det g2
      simp only [Prod.mk.injEq, Option.some.injEq] at this
      obtain ⟨rfl, rfl⟩ := this
      exact absurd (e1.trans e2) n1
    | chose g2 _ => have := g1.det g2; simp at this
    | found g2 _ => have := g1.det g2; simp at this
  | ended g1 e1 =>
    cases h' with
    | learn g2 e2 n2 =>
      have := g1.det g2
      simp only [Prod.mk.injEq, Option.some.injEq] at this
      obtain ⟨rfl, rfl⟩ := this
      exact absurd (e2.trans e1) n2
    | ended g2 e2 => rfl
    | chose g2 _ => have := g1.det g2; simp at this
    | found g2 _ => have := g1.det g2; simp at this
  | chose g1 e1 =>
    cases h' with
    | learn g2 _ _ => have := g1.det g2; simp at this
    | ended g2 _ => have := g1.det g2; simp at this
    | chose g2 e2 =>
      have := g1.det g2
      simp only [Prod.mk.injEq, and_true] at this
      subst this
      rw [e1] at e2
      simp only [Option.some.injEq] at e2
      subst e2; rfl
    | found g2 e2 =>
      have := g1.det g2
      simp only [Prod.mk.injEq, and_true] at this
      subst this
      rw [e1] at e2; cases e2
  | found g1 e1 =>
    cases h' with
    | learn g2 _ _ => have := g1.det g2; simp at this
    | ended g2 _ => have := g1.det g2; simp at this
    | chose g2 e2 =>
      have := g1.det g2
      simp only [Prod.mk.injEq, and_true] at this
      subst this
      rw [e1] at e2; cases e2
    | found g2 e2 =>
      have := g1.det g2
      simp only [Prod.mk.injEq, and_true] at this
      subst this; rfl

/-- From a state to an end. -/
inductive Ends (ch : List Nat) : Cf → End → Prop
  | last {a e} : Turn ch a (.inr e) → Ends ch a e
  | step {a b e} : Turn ch a (.inl b) → Ends ch b e → Ends ch a e

theorem Ends.det {ch : List Nat} {a : Cf} {e e' : End} (h : Ends ch a e) (h' : Ends ch a e') : e = e' := by
  induction h with
  | last h1 =>
    cases h' with
    | last h2 => have := h1.det h2; simpa using this
    | step h2 _ => have := h1.det h2; simp at this
  | step h1 _ ih =>
    cases h' with
    | last h2 => have := h1.det h2; simp at this
    | step h2 h3 =>
      have := h1.det h2
      simp only [Sum.inl.injEq] at this
      subst this
      exact ih h3

/-! What holds at each state. -/

/-- The clauses, and the lemmas behind them. -/
def withF (cs : List (List Int)) (F : List Nat) : List (List Int) := cs ++ F.map (litsOf 64)

/-- A lemma as a step of a proof. -/
structure GoodLem (V : Nat) (C : List (List Int)) (c : Nat) : Prop where
  small : c < 2 ^ (2 * V)
  some : c ≠ 0
  half : ∀ n, c.testBit n = true → c.testBit (mir n) = false
  rup : Rup C c

structure SInv (V : Nat) (cs : List (List Int)) (a : Cf) : Prop where
  cover : Cover V a.K (withF cs a.F)
  trail : Trail V (Known V (withF cs a.F)) a.P
  rest : Rest a.K a.P
  lems : ∀ i c, a.F[i]? = some c → GoodLem V (withF cs (a.F.take i)) c
  cnt : a.F.length ≤ cov V a.K
  len : a.K.length ≤ cs.length + a.F.length

theorem Cover.known {V : Nat} {K : List Nat} {C : List (List Int)} (h : Cover V K C) {k : Nat} (hk : k ∈ K) : Known V C k := by
  obtain ⟨c, hc, e⟩ := h.kept k hk
  exact ⟨c, hc, h.lits c hc, e.symm⟩

/-- A unit clause's pick. -/
theorem Trail.unit {V : Nat} (hV : V ≤ 20) {D : Nat → Prop} {P : List Pk} (h : Trail V D P) {k : Nat} (hk : k < 2 ^ (2 * V)) (hD : D k) (h1 : single (openOf k (truthOf P)) = true) (h2 : within (openOf k (truthOf P)) (truthOf P) = false) : Trail V D (⟨openOf k (truthOf P), k, lv P⟩ :: P) := by
  have hos : openOf k (truthOf P) < 2 ^ (2 * V) := dif_lt hk
  obtain ⟨n, e⟩ := (single_iff (lt64 hV hos)).1 h1
  have hob := openOf_bit hV hk h.small
  have hn := hob n
  rw [e, (two_pow_bit n n).2 rfl] at hn
  have hn := hn.symm
  simp only [Bool.and_eq_true, Bool.not_eq_true'] at hn
  have hnV := bit_lt hk hn.1
  have hk0 : k ≠ 0 := fun h0 => by rw [h0] at hn; simp at hn
  refine ⟨h, by simp only [lv, hk0, if_false], n, hnV, e, bool_false fun hb => ?_, hn.2, .inr ⟨hD, hk, hn.1, fun m hm hne => ?_⟩⟩
  · rw [e, (within_pow hV hnV h.small).2 hb] at h2; cases h2
  · have := hob m
    rw [hm, e] at this
    have hne' : (2 ^ n).testBit m = false := bool_false fun hh => hne ((two_pow_bit n m).1 hh).symm
    rw [hne'] at this
    simpa using this.symm

/-- How a walk through the kept clauses ends. -/
def StopOk (K : List Nat) (P : List Pk) : Option Nat → Prop
  | some k => k ∈ K ∧ openOf k (truthOf P) = 0
  | none => ∀ k ∈ K, Quiet k (truthOf P)

/-- What a walk through the kept clauses leaves. -/
theorem Goes.spec {V : Nat} (hV : V ≤ 20) {D : Nat → Prop} {K : List Nat} (hKs : ∀ k ∈ K, k < 2 ^ (2 * V)) (hD : ∀ k ∈ K, D k) {r : List Nat} {b : Bool} {P : List Pk} {R : List Pk × Option Nat} (h : Goes K r b P R) :
    (∃ B, K = B ++ r ∧ (b = false → ∀ k ∈ B, Quiet k (truthOf P))) → Trail V D P → Rest K P →
      Trail V D R.1 ∧ Rest K R.1 ∧ lv R.1 = lv P ∧ StopOk K R.1 R.2 := by
  induction h with
  | conf h0 => rintro ⟨B, e, -⟩ hT hR; exact ⟨hT, hR, rfl, by rw [e]; simp, h0⟩
  | @unit k r b P R h1 h2 h3 _ ih =>
    rintro ⟨B, e, -⟩ hT hR
    have hk : k ∈ K := by rw [e]; simp
    have hT' := hT.unit hV (hKs k hk) (hD k hk) h2 h3
    have hk0 : k ≠ 0 := fun h0 => h1 (by rw [h0]; unfold openOf dif; simp)
    have hR' : Rest K (⟨openOf k (truthOf P), k, lv P⟩ :: P) := by
      intro A c Q eA hc
      cases A with
      | nil =>
        simp only [List.nil_append, List.cons.injEq] at eA
        rw [← eA.1] at hc
        exact absurd hc hk0
      | cons a A =>
        simp only [List.cons_append, List.cons.injEq] at eA
        exact hR A c Q eA.2 hc
    obtain ⟨a1, a2, a3, a4⟩ := ih ⟨B ++ [k], by rw [e]; simp, fun h => by cases h⟩ hT' hR'
    refine ⟨a1, a2, ?_, a4⟩
    rw [a3, lv, if_neg hk0]
  | @skip k r b P R h1 h2 _ ih =>
    rintro ⟨B, e, hB⟩ hT hR
    refine ih ⟨B ++ [k], by rw [e]; simp, fun hb x hx => ?_⟩ hT hR
    rcases List.mem_append.1 hx with hx | hx
    · exact hB hb x hx
    · rw [List.mem_singleton] at hx; subst hx; exact ⟨h1, h2⟩
  | again _ ih =>
    rintro - hT hR
    exact ih ⟨[], rfl, fun _ k hk => by cases hk⟩ hT hR
  | done =>
    rintro ⟨B, e, hB⟩ hT hR
    rw [List.append_nil] at e
    exact ⟨hT, hR, rfl, by rw [e]; exact hB rfl⟩

theorem withF_snoc (cs : List (List Int)) (F : List Nat) (c : Nat) : withF cs (F ++ [c]) = withF cs F ++ [litsOf 64 c] := by unfold withF; simp

theorem Known.more {V : Nat} {C C' : List (List Int)} (h : ∀ c ∈ C, c ∈ C') {k : Nat} (hk : Known V C k) : Known V C' k := by
  obtain ⟨d, hd, r⟩ := hk
  exact ⟨d, h d hd, r⟩

/-- Literals to choose: of each variable one. -/
structure Chs (V : Nat) (ch : List Nat) : Prop where
  lit : ∀ l ∈ ch, ∃ n, n < 2 * V ∧ l = 2 ^ n
  all : ∀ v, v < V → ∃ l ∈ ch, l = 2 ^ (2 * v) ∨ l = 2 ^ (2 * v + 1)

/-- How many places are not in a set. -/
def vac (S : Nat) : Nat := (List.range 64).countP fun n => !S.testBit n

theorem vac_lt {S T n : Nat} (hn : n < 64) (h : ∀ m, S.testBit m = true → T.testBit m = true) (h1 : S.testBit n = false) (h2 : T.testBit n = true) : vac T < vac S := by
  refine countP_less _ (fun x _ hx => ?_) ⟨n, List.mem_range.2 hn, by simp [h1], by simp [h2]⟩
  cases e : S.testBit x with
  | false => rfl
  | true => rw [h x e] at hx; cases hx

theorem vac_le (S : Nat) : vac S ≤ 64 := by
  have := List.countP_le_length (p := fun n => !S.testBit n) (l := List.range 64)
  rwa [List.length_range] at this

theorem Goes.grow {K r : List Nat} {b : Bool} {P : List Pk} {R : List Pk × Option Nat} (h : Goes K r b P R) : ∀ m, (truthOf P).testBit m = true → (truthOf R.1).testBit m = true := by
  induction h with
  | conf _ => exact fun m h => h
  | unit _ _ _ _ ih => exact fun m h => ih m (by rw [truthOf, Nat.testBit_or, h]; rfl)
  | skip _ _ _ ih => exact ih
  | again _ ih => exact ih
  | done => exact fun m h => h

/-- What falls at each turn. -/
def smeas (V : Nat) (a : Cf) : Nat := (3 ^ V - cov V a.K) * 65 + vac (truthOf a.P)

theorem SInv.goes {V : Nat} (hV : V ≤ 20) {cs : List (List Int)} {a : Cf} (h : SInv V cs a) {P : List Pk} {o : Option Nat} (hg : Goes a.K [] true a.P (P, o)) : Trail V (Known V (withF cs a.F)) P ∧ Rest a.K P ∧ StopOk a.K P o := by
  obtain ⟨h1, h2, -, h4⟩ := hg.spec hV (fun k hk => h.cover.small hk) (fun k hk => h.cover.known hk) ⟨a.K, by simp, fun h => by cases h⟩ h.trail h.rest
  exact ⟨h1, h2, h4⟩

theorem SInv.lem {V : Nat} (hV : V ≤ 20) {cs : List (List Int)} {a : Cf} (h : SInv V cs a) {P : List Pk} {k : Nat} (hg : Goes a.K [] true a.P (P, some k)) : Lem V (withF cs a.F) a.K P (lemOf (falseAt (lv P) P 0) (lv P) P k) := by
  obtain ⟨h1, h2, h3, h4⟩ := h.goes hV hg
  exact lem_made hV h1 h2 (fun k hk => h.cover.small hk) h3 (h.cover.known h3) h4

theorem Lem.good {V : Nat} {C : List (List Int)} {K : List Nat} {P : List Pk} {c : Nat} (hT : Trail V (Known V C) P) (h : Lem V C K P c) (h0 : c ≠ 0) : GoodLem V C c := by
  refine ⟨h.small, h0, fun n hn => bool_false fun hm => ?_, h.rup⟩
  obtain ⟨p, hp, ep, -⟩ := h.opps n hn
  obtain ⟨q, hq, eq, -⟩ := h.opps _ hm
  rw [mir_mir] at eq
  have := hT.apart n (pick_bit hq eq)
  rw [pick_bit hp ep] at this
  cases this

theorem GoodLem.clash {V : Nat} (hV : V ≤ 20) {C : List (List Int)} {c : Nat} (h : GoodLem V C c) : clash c = 0 := by
  rw [zero_iff_bits]
  intro n
  unfold Go.Proofs.YtomebpjjeldhdaaDoor.clash
  rw [Nat.testBit_and, opp_bit' hV h.small]
  cases e : c.testBit n with
  | false => rfl
  | true => rw [h.half n e]; rfl

theorem addTo_length (K : List Nat) (m : Nat) : (addTo K m).length ≤ K.length + 1 := by
  unfold addTo
  split
  · omega
  · split
    · omega
    · simp only [List.length_append, List.length_singleton]
      have := List.length_filter_le (fun k => !within m k) K
      omega

theorem Lem.level {V : Nat} {C : List (List Int)} {K : List Nat} {P : List Pk} {c : Nat} (hT : Trail V (Known V C) P) (h : Lem V C K P c) (h0 : c ≠ 0) : 0 < lv P := by
  have : ∃ m, c.testBit m = true := Classical.byContradiction fun hx => h0 (zero_iff_bits.2 fun i => bool_false fun hb => hx ⟨i, hb⟩)
  obtain ⟨m, hm⟩ := this
  obtain ⟨p, hp, -, hl⟩ := h.opps m hm
  exact Nat.lt_of_lt_of_le hl (hT.level hp)

theorem Turn.inv {V : Nat} (hV : V ≤ 20) {cs : List (List Int)} {ch : List Nat} (hch : Chs V ch) {a b : Cf} (h : SInv V cs a) (ht : Turn ch a (.inl b)) : SInv V cs b ∧ smeas V b < smeas V a := by
  cases ht with
  | @learn K P F P' k c hg e hne =>
    have hl := h.lem hV hg
    obtain ⟨hT, hR, -, -⟩ := h.goes hV hg
    rw [← e] at hl
    have hL := hl.level hT hne
    have hgood := hl.good hT hne
    have hcov : cov V K < cov V (addTo K c) := cov_add hV (fun k hk => h.cover.small hk) hl.small hgood.half (hgood.clash hV) (hl.fresh hL)
    have hm : maskOf (litsOf 64 c) = c := mask_list (lt64 hV hl.small)
    have hcover := h.cover.add hV (c := litsOf 64 c) (list_lit hl.small)
    rw [hm, ← withF_snoc] at hcover
    obtain ⟨A, eA⟩ := popTo_split (backLev (lv P') c P') P'
    refine ⟨⟨hcover, ?_, hl.rest hV hT hR hL, fun i d hd => ?_, ?_, ?_⟩, ?_⟩
    · have hT2 := hT
      rw [eA] at hT2
      refine hT2.drop.mono fun k hk => hk.more fun c hc => ?_
      rw [withF_snoc]
      exact List.mem_append_left _ hc
    · simp only at hd ⊢
      rcases Nat.lt_trichotomy i F.length with hi | hi | hi
      · rw [List.getElem?_append_left hi] at hd
        rw [List.take_append_of_le_length (by omega)]
        exact h.lems i d hd
      · subst hi
        simp only [List.getElem?_concat_length, Option.some.injEq] at hd
        subst hd
        rw [List.take_left]
        exact hgood
      · rw [List.getElem?_eq_none (by simp; omega)] at hd
        cases hd
    · have := h.cnt
      simp only [List.length_append, List.length_singleton] at this ⊢
      omega
    · have := h.len
      have h2 := addTo_length K c
      simp only [List.length_append, List.length_singleton] at this ⊢
      omega
    · unfold smeas
      simp only at hcov ⊢
      have h1 := vac_le (truthOf (popTo (backLev (lv P') c P') P'))
      have h2 := cov_le V (addTo K c)
      omega
  | @chose K P F P' l hg e =>
    obtain ⟨hT, hR, hq⟩ := h.goes hV hg
    have hfind := List.find?_some e
    obtain ⟨n, hn, rfl⟩ := hch.lit l (List.mem_of_find?_eq_some e)
    have hS := hT.small
    have hso : truthOf P' ||| opp (truthOf P') < 2 ^ (2 * V) := Nat.or_lt_two_pow hS (opp_lt hV hS)
    have hnot : (truthOf P' ||| opp (truthOf P')).testBit n = false := bool_false fun hb => by
      rw [(within_pow hV hn hso).2 hb] at hfind; cases hfind
    rw [Nat.testBit_or, Bool.or_eq_false_iff, opp_bit' hV hS] at hnot
    refine ⟨⟨h.cover, ⟨hT, by simp [lv], n, hn, rfl, hnot.1, hnot.2, .inl rfl⟩, ?_, h.lems, h.cnt, h.len⟩, ?_⟩
    · intro A c Q eA hc
      cases A with
      | nil =>
        simp only [List.nil_append, List.cons.injEq] at eA
        rw [← eA.2]
        exact hq
      | cons a A =>
        simp only [List.cons_append, List.cons.injEq] at eA
        exact hR A c Q eA.2 hc
    · unfold smeas
      simp only
      have hgrow := hg.grow
      have : vac (truthOf (⟨2 ^ n, 0, lv P' + 1⟩ :: P')) < vac (truthOf P) := by
        refine vac_lt (n := n) (by omega) (fun m hm => ?_) (bool_false fun hb => ?_) ?_
        · rw [truthOf, Nat.testBit_or, hgrow m hm]; rfl
        · have := hgrow n hb
          simp only at this
          rw [hnot.1] at this; cases this
        · rw [truthOf, Nat.testBit_or]
          simp
      omega

/-- What an end says. -/
def EndOk (V : Nat) (cs : List (List Int)) : End → Prop
  | .sat S => S < 2 ^ (2 * V) ∧ (∀ v, v < V → S.testBit (2 * v + 1) = !S.testBit (2 * v)) ∧ ∀ c ∈ cs, ∃ l ∈ c, IsLit V l ∧ S.testBit (pl l) = true
  | .unsat F => ∃ F0, F = F0 ++ [0] ∧ (∀ i c, F0[i]? = some c → GoodLem V (withF cs (F0.take i)) c) ∧ Rup (withF cs F0) 0 ∧ F0.length ≤ 3 ^ V

theorem Turn.ok {V : Nat} (hV : V ≤ 20) {cs : List (List Int)} {ch : List Nat} (hch : Chs V ch) {a : Cf} {e : End} (h : SInv V cs a) (ht : Turn ch a (.inr e)) : EndOk V cs e := by
  cases ht with
  | @ended K P F P' k hg e0 =>
    have hl := h.lem hV hg
    simp only at hl
    rw [e0] at hl
    exact ⟨F, rfl, h.lems, hl.rup, Nat.le_trans h.cnt (cov_le V _)⟩
  | @found K P F P' hg e0 =>
    obtain ⟨hT, hR, hq⟩ := h.goes hV hg
    have hS := hT.small
    have hso : truthOf P' ||| opp (truthOf P') < 2 ^ (2 * V) := Nat.or_lt_two_pow hS (opp_lt hV hS)
    have hall : ∀ n, n < 2 * V → (truthOf P').testBit (mir n) = !(truthOf P').testBit n := by
      intro n hn
      have hv : n / 2 < V := by omega
      obtain ⟨l, hl, hl2⟩ := hch.all (n / 2) hv
      have hin : within l (truthOf P' ||| opp (truthOf P')) = true := by
        have := List.find?_eq_none.1 e0 l hl
        simpa using this
      have hor : (truthOf P').testBit n = true ∨ (truthOf P').testBit (mir n) = true := by
        have hx : ∀ i, i < 2 * V → l = 2 ^ i → (truthOf P').testBit i = true ∨ (truthOf P').testBit (mir i) = true := fun i hi e => by
          rw [e, within_pow hV hi hso, Nat.testBit_or, Bool.or_eq_true, opp_bit' hV hS] at hin
          exact hin
        have hn2 : n = 2 * (n / 2) ∨ n = 2 * (n / 2) + 1 := by omega
        have hm1 : mir (2 * (n / 2)) = 2 * (n / 2) + 1 := by unfold mir; rw [if_pos (by omega)]
        have hm2 : mir (2 * (n / 2) + 1) = 2 * (n / 2) := by unfold mir; rw [if_neg (by omega)]; omega
        rcases hl2 with hl2 | hl2
        · have := hx _ (by omega) hl2
          rw [hm1] at this
          rcases hn2 with e | e
          · rw [e, hm1]; exact this
          · rw [e, hm2]; exact this.symm
        · have := hx _ (by omega) hl2
          rw [hm2] at this
          rcases hn2 with e | e
          · rw [e, hm1]; exact this.symm
          · rw [e, hm2]; exact this
      cases e1 : (truthOf P').testBit n with
      | true => rw [hT.apart n e1]; rfl
      | false =>
        rcases hor with h1 | h1
        · rw [e1] at h1; cases h1
        · rw [h1]; rfl
    refine ⟨hS, fun v hv => ?_, fun c hc => ?_⟩
    · have := hall (2 * v) (by omega)
      unfold mir at this
      rwa [if_pos (by omega)] at this
    · have hcin : c ∈ withF cs F := List.mem_append_left _ hc
      have hlits := h.cover.lits c hcin
      rcases h.cover.all c hcin with ⟨l, hl, hl'⟩ | ⟨k, hk, hw⟩
      · have hlit := hlits l hl
        have := hall (pl l) (pl_lt hlit)
        rw [← pl_neg hlit.1] at this
        cases e1 : (truthOf P').testBit (pl l) with
        | true => exact ⟨l, hl, hlit, e1⟩
        | false => rw [e1] at this; exact ⟨-l, hl', hlit.neg, this⟩
      · have hks := h.cover.small hk
        have hz := (hq k hk).1
        have : ∃ m, (openOf k (truthOf P')).testBit m = true := Classical.byContradiction fun hx => hz (zero_iff_bits.2 fun i => bool_false fun hb => hx ⟨i, hb⟩)
        obtain ⟨m, hm⟩ := this
        rw [openOf_bit hV hks hS, Bool.and_eq_true, Bool.not_eq_true'] at hm
        obtain ⟨l, hl, el⟩ := (maskOf_bit c m).1 (hw m hm.1)
        have := hall m (bit_lt hks hm.1)
        rw [hm.2] at this
        refine ⟨l, hl, hlits l hl, ?_⟩
        rw [el]
        cases e1 : (truthOf P').testBit m with
        | true => rfl
        | false => rw [e1] at this; cases this

theorem Ends.ok {V : Nat} (hV : V ≤ 20) {cs : List (List Int)} {ch : List Nat} (hch : Chs V ch) {a : Cf} {e : End} (h : SInv V cs a) (he : Ends ch a e) : EndOk V cs e := by
  induction he with
  | last ht => exact ht.ok hV hch h
  | step ht _ ih => exact ih (ht.inv hV hch h).1

theorem SInv.start {V : Nat} {cs : List (List Int)} {K : List Nat} (hC : Cover V K cs) (hl : K.length ≤ cs.length) : SInv V cs ⟨K, [], []⟩ := by
  refine ⟨by unfold withF; simpa using hC, trivial, fun A c Q e => ?_, fun i c h => ?_, Nat.zero_le _, by simpa using hl⟩
  · simp at e
  · simp at h

end Go.Proofs.YtomebpjjeldhdaaDoor
