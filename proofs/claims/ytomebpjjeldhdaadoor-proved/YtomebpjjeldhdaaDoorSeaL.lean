/-
  The lemma of a conflict, of no program.
-/
import Derived.Test.YtomebpjjeldhdaaDoorSeaP
namespace Go.Proofs.YtomebpjjeldhdaaDoor

theorem single_two {V : Nat} (hV : V ≤ 20) {s : Nat} (hs : s < 2 ^ (2 * V)) (h0 : s ≠ 0) (h : single s = false) : ∀ n, ∃ m, m ≠ n ∧ s.testBit m = true := by
  intro n
  apply Classical.byContradiction
  intro hno
  have hall : ∀ m, s.testBit m = true → m = n := fun m hm => Classical.byContradiction fun hne => hno ⟨m, hne, hm⟩
  have : s = 2 ^ n := by
    have : ∃ m, s.testBit m = true := Classical.byContradiction fun hx => h0 (zero_iff_bits.2 fun i => bool_false fun hb => hx ⟨i, hb⟩)
    obtain ⟨m, hm⟩ := this
    apply Nat.eq_of_testBit_eq
    intro i
    rw [Bool.eq_iff_iff, two_pow_bit]
    constructor
    · intro hi; exact (hall i hi).symm
    · rintro rfl; rw [← hall m hm]; exact hm
  rw [(single_iff (lt64 hV hs)).2 ⟨n, this⟩] at h
  cases h

theorem single_one {s : Nat} (hs : s < 18446744073709551616) (h : single s = true) {n m : Nat} (hn : s.testBit n = true) (hm : s.testBit m = true) : n = m := by
  obtain ⟨k, rfl⟩ := (single_iff hs).1 h
  rw [two_pow_bit] at hn hm
  omega

theorem single_of {V : Nat} (hV : V ≤ 20) {s n : Nat} (hs : s < 2 ^ (2 * V)) (hn : s.testBit n = true) (h : ∀ m, s.testBit m = true → m = n) : single s = true := by
  refine Classical.byContradiction fun hx => ?_
  obtain ⟨m, h1, h2⟩ := single_two hV hs (fun h0 => by rw [h0] at hn; simp at hn) (bool_false hx) n
  exact h1 (h m h2)

/-- How far the lemma has come: A has been walked, P has not. -/
structure Half (V : Nat) (C : List (List Int)) (L last : Nat) (A P : List Pk) (c : Nat) : Prop where
  small : c < 2 ^ (2 * V)
  opps : ∀ m, c.testBit m = true → (truthOf (A ++ P)).testBit (mir m) = true
  zero : ∀ p ∈ A, p.lev = 0 → ∀ n, p.lit = 2 ^ n → c.testBit (mir n) = false
  some : 0 < L → ∃ m, c.testBit m = true ∧ last.testBit m = true
  one : 0 < L → single (c &&& last) = true ∨ ∀ p ∈ A, p.lev = L → ∀ n, p.lit = 2 ^ n → c.testBit (mir n) = false
  rup : Rup C c

theorem Half.step {V : Nat} (hV : V ≤ 20) {C : List (List Int)} {L last : Nat} {A P : List Pk} {p : Pk} {c : Nat} (hT : Trail V (Known V C) (A ++ p :: P))
    (hlast : ∀ m, last.testBit m = true ↔ ∃ q ∈ A ++ p :: P, q.lev = L ∧ q.lit = 2 ^ mir m)
    (h : Half V C L last A (p :: P) c) : Half V C L last (A ++ [p]) P (repl last L p c) := by
  have eL : A ++ p :: P = (A ++ [p]) ++ P := by simp
  have hTp : Trail V (Known V C) (p :: P) := hT.drop
  have hTP : Trail V (Known V C) P := hTp.1
  obtain ⟨-, hlevp, n, hn, elit, hnew, hnewm, hreason⟩ := hTp
  have hw := within_opp hV hn h.small
  have hcl : c &&& last < 2 ^ (2 * V) := Nat.lt_of_le_of_lt Nat.and_le_left h.small
  have hpm : p ∈ A ++ p :: P := by simp
  have hTu := hT
  rw [eL] at hTu
  -- what was walked is not picked below
  have hbelow : ∀ q ∈ A ++ [p], ∀ k, q.lit = 2 ^ k → (truthOf P).testBit k = false := fun q hq k hk => hTu.new hq hk
  unfold repl
  rw [elit]
  by_cases hrep : (p.lev = 0 ∨ (p.lev = L ∧ single (c &&& last) = false)) ∧ within (opp (2 ^ n)) c = true
  · rw [if_pos hrep]
    obtain ⟨hr, hin⟩ := hrep
    rw [hw] at hin
    -- it was not chosen
    have hncl : p.cl ≠ 0 := by
      intro e
      have hl1 : p.lev = lv P + 1 := by rw [hlevp, lv, if_pos e]
      rcases hr with hr | ⟨hr, hsing⟩
      · omega
      · have hL : 0 < L := by omega
        rcases h.one hL with h1 | h1
        · rw [h1] at hsing; cases hsing
        · have hone : ∀ m, (c &&& last).testBit m = true → m = mir n := by
            intro m hm
            rw [Nat.testBit_and, Bool.and_eq_true] at hm
            obtain ⟨q, hq, hql, hqe⟩ := (hlast m).1 hm.2
            rcases List.mem_append.1 hq with hq | hq
            · have := h1 q hq hql _ hqe
              rw [mir_mir, hm.1] at this
              cases this
            · rcases List.mem_cons.1 hq with rfl | hq
              · rw [elit] at hqe
                have := (two_pow_bit n (mir m)).1 (by rw [hqe]; exact (two_pow_bit _ _).2 rfl)
                exact mir_eq.1 this.symm
              · have := hTP.level hq
                omega
          obtain ⟨m, hm1, hm2⟩ := h.some hL
          have hmn := hone m (by rw [Nat.testBit_and, hm1, hm2]; rfl)
          rw [single_of hV hcl (n := mir n) (by rw [Nat.testBit_and, ← hmn, hm1, hm2]; rfl) hone] at hsing
          cases hsing
    rcases hreason with hreason | ⟨hD, hsm, hself, hothers⟩
    · exact absurd hreason hncl
    have h64 := lt64 hV h.small
    have ho64 := lt64 hV (opp_lt hV (two_pow_lt hn))
    have hk64 := lt64 hV hsm
    have hl64 := lt64 hV (two_pow_lt hn)
    have hbit : ∀ m, (dif c (opp (2 ^ n)) ||| dif p.cl (2 ^ n)).testBit m = true ↔ (c.testBit m = true ∧ m ≠ mir n) ∨ (p.cl.testBit m = true ∧ m ≠ n) := by
      intro m
      rw [Nat.testBit_or, Bool.or_eq_true, dif_bit h64 ho64, dif_bit hk64 hl64]
      simp only [Bool.and_eq_true, Bool.not_eq_true']
      have e1 : (opp (2 ^ n)).testBit m = false ↔ m ≠ mir n := by
        exact ⟨fun h hh => (by rw [(opp_pow_bit hV hn m).2 hh] at h; cases h), fun h => bool_false fun hh => h ((opp_pow_bit hV hn m).1 hh)⟩
      have e2 : (2 ^ n).testBit m = false ↔ m ≠ n := by
        constructor
        · intro h hh; rw [hh, (two_pow_bit n n).2 rfl] at h; cases h
        · intro h; exact bool_false fun hh => h ((two_pow_bit n m).1 hh).symm
      rw [e1, e2]
    have hreas : ∀ m, p.cl.testBit m = true → m ≠ n → ∀ q ∈ A ++ [p], ∀ k, q.lit = 2 ^ k → m ≠ mir k := by
      intro m hm hne q hq k hk e
      have := hothers m hm hne
      rw [e, mir_mir, hbelow q hq k hk] at this
      cases this
    refine ⟨Nat.or_lt_two_pow (dif_lt h.small) (dif_lt hsm), fun m hm => ?_, fun q hq hq0 k hk => bool_false fun hb => ?_, fun hL => ?_, fun hL => ?_, ?_⟩
    · rw [← eL]
      rcases (hbit m).1 hm with ⟨h1, h2⟩ | ⟨h1, h2⟩
      · exact h.opps m h1
      · rw [truthOf_append, Nat.testBit_or]
        have : (truthOf (p :: P)).testBit (mir m) = true := by rw [truthOf, Nat.testBit_or, hothers m h1 h2]; rfl
        rw [this]; rfl
    · rcases (hbit _).1 hb with ⟨h1, h2⟩ | ⟨h1, h2⟩
      · rcases List.mem_append.1 hq with hq' | hq'
        · rw [h.zero q hq' hq0 k hk] at h1; cases h1
        · rw [List.mem_singleton] at hq'
          subst hq'
          have : n = k := (two_pow_bit n k).1 (by rw [← elit, hk]; exact (two_pow_bit k k).2 rfl)
          exact h2 (by rw [this])
      · exact hreas _ h1 h2 q hq k hk rfl
    · rcases hr with hr | ⟨hr, hsing⟩
      · obtain ⟨m, h1, h2⟩ := h.some hL
        refine ⟨m, (hbit m).2 (.inl ⟨h1, fun e => ?_⟩), h2⟩
        obtain ⟨q, hq, hql, hqe⟩ := (hlast m).1 h2
        rw [e, mir_mir, ← elit] at hqe
        have := hT.same hq hpm hqe
        rw [this] at hql
        omega
      · obtain ⟨m0, h01, h02⟩ := h.some hL
        obtain ⟨m, h1, h2⟩ := single_two hV hcl (fun e => by have := zero_iff_bits.1 e m0; rw [Nat.testBit_and, h01, h02] at this; cases this) hsing (mir n)
        rw [Nat.testBit_and, Bool.and_eq_true] at h2
        exact ⟨m, (hbit m).2 (.inl ⟨h2.1, h1⟩), h2.2⟩
    · cases hs : single (c &&& last) with
      | true =>
        left
        have hr0 : p.lev = 0 := by
          rcases hr with hr | ⟨-, hr⟩
          · exact hr
          · rw [hs] at hr; cases hr
        obtain ⟨u, hu1, hu2⟩ := h.some hL
        have hnl : last.testBit (mir n) = false := bool_false fun hb => by
          obtain ⟨q, hq, hql, hqe⟩ := (hlast _).1 hb
          rw [mir_mir, ← elit] at hqe
          have := hT.same hq hpm hqe
          rw [this] at hql
          omega
        have hune : u ≠ mir n := fun e => by rw [e, hnl] at hu2; cases hu2
        refine single_of hV (n := u) (Nat.lt_of_le_of_lt Nat.and_le_left (Nat.or_lt_two_pow (dif_lt h.small) (dif_lt hsm))) (by rw [Nat.testBit_and, (hbit u).2 (.inl ⟨hu1, hune⟩), hu2]; rfl) fun m hm => ?_
        rw [Nat.testBit_and, Bool.and_eq_true] at hm
        rcases (hbit m).1 hm.1 with ⟨h1, -⟩ | ⟨h1, h2⟩
        · exact single_one (lt64 hV hcl) hs (by rw [Nat.testBit_and, h1, hm.2]; rfl) (by rw [Nat.testBit_and, hu1, hu2]; rfl)
        · obtain ⟨q, hq, hql, hqe⟩ := (hlast m).1 hm.2
          have hqP := hothers m h1 h2
          obtain ⟨q', hq', hqe'⟩ := hTP.pick hqP
          have : q = q' := hT.same hq (by simp [hq']) (by rw [hqe, hqe'])
          have h3 := hTP.level hq'
          have h4 : lv P ≤ p.lev := by rw [hlevp]; exact lv_append [p] P
          rw [this] at hql
          omega
      | false =>
        right
        intro q hq hql k hk
        refine bool_false fun hb => ?_
        rcases (hbit _).1 hb with ⟨h1, h2⟩ | ⟨h1, h2⟩
        · rcases List.mem_append.1 hq with hq' | hq'
          · rcases h.one hL with h3 | h3
            · rw [hs] at h3; cases h3
            · rw [h3 q hq' hql k hk] at h1; cases h1
          · rw [List.mem_singleton] at hq'
            subst hq'
            have : n = k := (two_pow_bit n k).1 (by rw [← elit, hk]; exact (two_pow_bit k k).2 rfl)
            exact h2 (by rw [this])
        · exact hreas _ h1 h2 q hq k hk rfl
    · exact Rup.step hD hself (fun m h1 h2 => (hbit m).2 (.inl ⟨h1, h2⟩)) (fun m h1 h2 => (hbit m).2 (.inr ⟨h1, h2⟩)) h.rup
  · rw [if_neg hrep]
    refine ⟨h.small, by rw [← eL]; exact h.opps, fun q hq hq0 k hk => ?_, h.some, fun hL => ?_, h.rup⟩
    · rcases List.mem_append.1 hq with hq' | hq'
      · exact h.zero q hq' hq0 k hk
      · rw [List.mem_singleton] at hq'
        subst hq'
        have : n = k := (two_pow_bit n k).1 (by rw [← elit, hk]; exact (two_pow_bit k k).2 rfl)
        subst this
        exact bool_false fun hb => hrep ⟨.inl hq0, hw.2 hb⟩
    · rcases h.one hL with h1 | h1
      · exact .inl h1
      · cases hs : single (c &&& last) with
        | true => exact .inl rfl
        | false =>
          right
          intro q hq hql k hk
          rcases List.mem_append.1 hq with hq' | hq'
          · exact h1 q hq' hql k hk
          · rw [List.mem_singleton] at hq'
            subst hq'
            have : n = k := (two_pow_bit n k).1 (by rw [← elit, hk]; exact (two_pow_bit k k).2 rfl)
            subst this
            exact bool_false fun hb => hrep ⟨.inr ⟨hql, hs⟩, hw.2 hb⟩

theorem Half.all {V : Nat} (hV : V ≤ 20) {C : List (List Int)} {L last : Nat} : ∀ {P A : List Pk} {c : Nat}, Trail V (Known V C) (A ++ P) → (∀ m, last.testBit m = true ↔ ∃ q ∈ A ++ P, q.lev = L ∧ q.lit = 2 ^ mir m) → Half V C L last A P c → Half V C L last (A ++ P) [] (lemOf last L P c)
  | [], A, c, _, _, h => by rw [List.append_nil]; exact h
  | p :: P, A, c, hT, hlast, h => by
    have e : A ++ p :: P = (A ++ [p]) ++ P := by simp
    have hs := h.step hV hT hlast
    rw [e] at hT hlast ⊢
    exact Half.all hV hT hlast hs

/-- What the lemma of a conflict is. -/
structure Lem (V : Nat) (C : List (List Int)) (K : List Nat) (P : List Pk) (c : Nat) : Prop where
  small : c < 2 ^ (2 * V)
  rup : Rup C c
  opps : ∀ m, c.testBit m = true → ∃ p ∈ P, p.lit = 2 ^ mir m ∧ 0 < p.lev
  last : 0 < lv P → ∃ u, c.testBit u = true ∧ (∃ p ∈ P, p.lit = 2 ^ mir u ∧ p.lev = lv P) ∧ ∀ m, c.testBit m = true → m ≠ u → ∃ p ∈ P, p.lit = 2 ^ mir m ∧ p.lev < lv P
  fresh : 0 < lv P → ∀ k ∈ K, within k c = false

theorem lem_made {V : Nat} (hV : V ≤ 20) {C : List (List Int)} {K : List Nat} {P : List Pk} {k : Nat} (hT : Trail V (Known V C) P) (hR : Rest K P) (hKs : ∀ k ∈ K, k < 2 ^ (2 * V)) (hk : k ∈ K) (hD : Known V C k) (h0 : openOf k (truthOf P) = 0) :
    Lem V C K P (lemOf (falseAt (lv P) P 0) (lv P) P k) := by
  have hlast : ∀ m, (falseAt (lv P) P 0).testBit m = true ↔ ∃ q ∈ P, q.lev = lv P ∧ q.lit = 2 ^ mir m := fun m => by
    rw [falseAt_bit hV (lv P) (fun p hp => hT.lit hp)]; simp
  have hopp : ∀ m, k.testBit m = true → (truthOf P).testBit (mir m) = true := fun m hm => by
    have := zero_iff_bits.1 h0 m
    rw [openOf_bit hV (hKs k hk) hT.small, hm] at this
    simpa using this
  -- below the last choice
  have hdec : 0 < lv P → ∃ Q, (∀ k ∈ K, Quiet k (truthOf Q)) ∧ Trail V (Known V C) Q ∧ (∀ p ∈ P, p.lev < lv P → p ∈ Q) ∧ (∀ n, (truthOf Q).testBit n = true → (truthOf P).testBit n = true) ∧ ∀ p ∈ Q, p ∈ P ∧ p.lev < lv P := fun hL => by
    obtain ⟨A, c, Q, e1, e2, e3, e4⟩ := last_choice hT hL
    have eQ : P = (A ++ [c]) ++ Q := by rw [e1]; simp
    have hTQ : Trail V (Known V C) Q := by rw [eQ] at hT; exact hT.drop
    refine ⟨Q, hR A c Q e1 e2, hTQ, fun p hp hl => ?_, fun n hn => ?_, fun p hp => ⟨by rw [e1]; simp [hp], ?_⟩⟩
    · rw [eQ] at hp
      rcases List.mem_append.1 hp with hp | hp
      · have := e4 p hp; omega
      · exact hp
    · rw [e1, truthOf_append, Nat.testBit_or, truthOf, Nat.testBit_or, hn]; rfl
    · have := hTQ.level hp; omega
  have hstart : Half V C (lv P) (falseAt (lv P) P 0) [] P k := by
    refine ⟨hKs k hk, hopp, fun p hp => (by cases hp), fun hL => ?_, fun _ => Or.inr fun p hp => (by cases hp), Rup.start hD⟩
    apply Classical.byContradiction
    intro hno
    obtain ⟨Q, hq, hTQ, hin, -, -⟩ := hdec hL
    refine (hq k hk).1 (zero_iff_bits.2 fun m => bool_false fun hb => ?_)
    rw [openOf_bit hV (hKs k hk) hTQ.small, Bool.and_eq_true, Bool.not_eq_true'] at hb
    obtain ⟨p, hp, ep⟩ := hT.pick (hopp m hb.1)
    have hne : p.lev ≠ lv P := fun e => hno ⟨m, hb.1, (hlast m).2 ⟨p, hp, e, ep⟩⟩
    have hle := hT.level hp
    have := pick_bit (hin p hp (by omega)) ep
    rw [hb.2] at this
    cases this
  have hend := Half.all hV (A := []) (P := P) hT hlast hstart
  rw [List.nil_append] at hend
  generalize hc : lemOf (falseAt (lv P) P 0) (lv P) P k = c at hend
  have hpick : ∀ m, c.testBit m = true → ∃ p ∈ P, p.lit = 2 ^ mir m ∧ 0 < p.lev := fun m hm => by
    have h1 := hend.opps m hm
    rw [List.append_nil] at h1
    obtain ⟨p, hp, ep⟩ := hT.pick h1
    refine ⟨p, hp, ep, Nat.pos_of_ne_zero fun e => ?_⟩
    have := hend.zero p hp e _ ep
    rw [mir_mir, hm] at this
    cases this
  have hlastu : 0 < lv P → ∃ u, c.testBit u = true ∧ (∃ p ∈ P, p.lit = 2 ^ mir u ∧ p.lev = lv P) ∧ ∀ m, c.testBit m = true → m ≠ u → ∃ p ∈ P, p.lit = 2 ^ mir m ∧ p.lev < lv P := fun hL => by
    obtain ⟨u, hu1, hu2⟩ := hend.some hL
    obtain ⟨q, hq, hql, hqe⟩ := (hlast u).1 hu2
    refine ⟨u, hu1, ⟨q, hq, hqe, hql⟩, fun m hm hne => ?_⟩
    obtain ⟨p, hp, ep, -⟩ := hpick m hm
    refine ⟨p, hp, ep, Nat.lt_of_le_of_ne (hT.level hp) fun e => ?_⟩
    have hml := (hlast m).2 ⟨p, hp, e, ep⟩
    rcases hend.one hL with h1 | h1
    · exact hne (single_one (lt64 hV (Nat.lt_of_le_of_lt Nat.and_le_left hend.small)) h1 (by rw [Nat.testBit_and, hm, hml]; rfl) (by rw [Nat.testBit_and, hu1, hu2]; rfl))
    · have := h1 p hp e _ ep
      rw [mir_mir, hm] at this
      cases this
  refine ⟨hend.small, hend.rup, hpick, hlastu, fun hL j hj => bool_false fun hw => ?_⟩
  obtain ⟨Q, hq, hTQ, hin, hup, hdown⟩ := hdec hL
  obtain ⟨u, hu, ⟨pu, hpu, epu, hlu⟩, hoth⟩ := hlastu hL
  have hsub := (within_iff (lt64 hV (hKs j hj)) (lt64 hV hend.small)).1 hw
  have hjs := hKs j hj
  have honly : ∀ m, (openOf j (truthOf Q)).testBit m = true → m = u := fun m hm => by
    rw [openOf_bit hV hjs hTQ.small, Bool.and_eq_true, Bool.not_eq_true'] at hm
    apply Classical.byContradiction
    intro hne
    obtain ⟨p, hp, ep, hl⟩ := hoth m (hsub m hm.1) hne
    have := pick_bit (hin p hp hl) ep
    rw [hm.2] at this
    cases this
  obtain ⟨hz, hs⟩ := hq j hj
  have hex : ∃ m, (openOf j (truthOf Q)).testBit m = true := Classical.byContradiction fun hx => hz (zero_iff_bits.2 fun i => bool_false fun hb => hx ⟨i, hb⟩)
  obtain ⟨m, hm⟩ := hex
  have hmu := honly m hm
  rw [hmu] at hm
  have hos : openOf j (truthOf Q) < 2 ^ (2 * V) := dif_lt hjs
  have hin' := (within_iff (lt64 hV hos) (lt64 hV hTQ.small)).1 (hs (single_of hV hos hm honly)) u hm
  have := hT.apart u (hup u hin')
  rw [pick_bit hpu epu] at this
  cases this

end Go.Proofs.YtomebpjjeldhdaaDoor
