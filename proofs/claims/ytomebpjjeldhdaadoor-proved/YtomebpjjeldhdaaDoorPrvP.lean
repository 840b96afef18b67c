/-
  What the statements on proofs rest on: an assignment's bits; a formula that can be true has no proof; a proof stays one with more clauses and doubled steps; without its end it has none.
-/
import Derived.Test.YtomebpjjeldhdaaDoorSolP
import Derived.Test.YtomebpjjeldhdaaDoorClosedQ
namespace Go.Proofs.YtomebpjjeldhdaaDoor
open Go.RowKit

/-- An assignment's bits. -/
def toldOf (S : Nat) : Nat → Nat
  | 0 => 0
  | v + 1 => if S.testBit (2 * v) then toldOf S v + 2 ^ v else toldOf S v

theorem toldOf_lt (S : Nat) : ∀ v, toldOf S v < 2 ^ v
  | 0 => by simp [toldOf]
  | v + 1 => by
    have := toldOf_lt S v
    unfold toldOf
    split <;> (rw [Nat.pow_succ]; omega)

theorem toldOf_bit (S : Nat) : ∀ V v, v < V → (toldOf S V).testBit v = S.testBit (2 * v)
  | 0, v, h => by omega
  | V + 1, v, h => by
    have hlt := toldOf_lt S V
    unfold toldOf
    by_cases e : v = V
    · subst e
      split
      · rename_i h1
        rw [Nat.add_comm, Nat.testBit_two_pow_add_eq, h1, Nat.testBit_lt_two_pow hlt]; rfl
      · rename_i h1
        rw [Nat.testBit_lt_two_pow hlt]
        simpa using h1
    · have hv : v < V := by omega
      split
      · rw [Nat.add_comm, Nat.testBit_two_pow_add_gt hv]
        exact toldOf_bit S V v hv
      · exact toldOf_bit S V v hv

theorem told_makes {V S : Nat} {cs : List (List Int)} (hb : ∀ v, v < V → S.testBit (2 * v + 1) = !S.testBit (2 * v)) (hc : ∀ c ∈ cs, ∃ l ∈ c, IsLit V l ∧ S.testBit (pl l) = true) : makesB (toldOf S V) cs = true := by
  unfold makesB
  rw [List.all_eq_true]
  intro c hcc
  obtain ⟨l, hl, hlit, hbit⟩ := hc c hcc
  rw [List.any_eq_true]
  refine ⟨l, hl, ?_⟩
  obtain ⟨h0, h1, h2⟩ := hlit
  unfold tIn
  unfold pl at hbit
  by_cases hn : l < 0
  · rw [if_pos hn] at hbit
    rw [if_neg (by omega), toldOf_bit S V _ (by omega)]
    have hx := hb (-l - 1).toNat (by omega)
    have e : 2 * (-l - 1).toNat + 1 = (2 * (-l - 1) + 1).toNat := by omega
    first
      | (rw [e] at hx; rw [hbit] at hx; rw [← hx])
      | (rw [hbit] at hx; rw [← hx])
      | (simp_all)
  · rw [if_neg hn] at hbit
    rw [if_pos (by omega), toldOf_bit S V _ (by omega)]
    have e : 2 * (l - 1).toNat = (2 * (l - 1)).toNat := by omega
    first
      | (rw [e]; exact hbit)
      | exact hbit
      | simp_all

theorem i64_or (n j : Nat) (hn : n < 2 ^ j) (hj : j < 40) : bits .or .i64 (n : Int) ((2 ^ j : Nat) : Int) = ((n + 2 ^ j : Nat) : Int) := by
  have hp : (2 : Nat) ^ j ≤ 2 ^ 39 := Nat.pow_le_pow_right (by decide) (by omega)
  have e39 : (2 : Nat) ^ 39 = 549755813888 := by decide
  have key : (BitVec.ofInt 64 (n : Int) ||| BitVec.ofInt 64 ((2 ^ j : Nat) : Int)).toNat = n + 2 ^ j := by
    rw [BitVec.toNat_or, BitVec.toNat_ofInt, BitVec.toNat_ofInt]
    have h1 : ((n : Int) % ((2 ^ 64 : Nat) : Int)).toNat = n := by omega
    have h2 : (((2 ^ j : Nat) : Int) % ((2 ^ 64 : Nat) : Int)).toNat = 2 ^ j := by
      generalize (2 : Nat) ^ j = q at *
      omega
    rw [h1, h2]
    have := Nat.two_pow_add_eq_or_of_lt hn 1
    rw [Nat.mul_one] at this
    rw [Nat.or_comm, ← this, Nat.add_comm]
  show IntKind.i64.wrap ((BitVec.ofInt 64 (n : Int) ||| BitVec.ofInt 64 ((2 ^ j : Nat) : Int)).toNat : Nat) = _
  rw [key, IntKind.wrap_i64]
  generalize (2 : Nat) ^ j = q at *
  omega

theorem Fol.mono {C C' : List (List Int)} {G : Int → Prop} (h : ∀ c ∈ C, c ∈ C') {l : Int} (hl : Fol C G l) : Fol C' G l := by
  induction hl with
  | given hg => exact .given hg
  | unit hc hm _ ih => exact .unit (h _ hc) hm ih

theorem Conf.mono {C C' : List (List Int)} {G : Int → Prop} (h : ∀ c ∈ C, c ∈ C') (hc : Conf C G) : Conf C' G := by
  rcases hc with ⟨l, h1, h2⟩ | ⟨c, hcc, h1⟩
  · exact Or.inl ⟨l, h1.mono h, h2.mono h⟩
  · exact Or.inr ⟨c, h c hcc, fun m hm => (h1 m hm).mono h⟩

/-- A formula that can be true has no proof. -/
theorem check_none {V b : Nat} : ∀ (p : List (List Int)) (C : List (List Int)) (i : Nat), makesB b C = true → (∀ c ∈ C, ∀ l ∈ c, l ≠ 0) → (∀ s ∈ p, clauseFault V s = 0 ∧ ∀ l ∈ s, l ≠ 0) → (checkOf V C i (p ++ [[]])).2 = 7
  | [], C, i, hm, hz, _ => by
    have hn : ¬ Conf C (fun l => l ∈ ([] : List Int).map fun l => -l) := Conf.never hm hz (fun l h => by simp at h) (fun l h => by simp at h)
    have h0 : clauseFault V ([] : List Int) = 0 := fault_of_lits (by simp) (fun l h => by cases h)
    rw [List.nil_append, checkOf, if_neg (by rw [h0]; exact fun h => h rfl), if_neg hn]
  | s :: r, C, i, hm, hz, hs => by
    obtain ⟨h0, hl⟩ := hs s (List.mem_cons_self ..)
    rw [List.cons_append, checkOf, if_neg (by rw [h0]; exact fun h => h rfl)]
    by_cases hcf : Conf C (fun l => l ∈ s.map fun l => -l)
    · rw [if_pos hcf]
      have hex : s.any (tIn b) = true := by
        cases h : s.any (tIn b) with
        | true => rfl
        | false =>
          exfalso
          refine Conf.never hm hz (fun l hl' => ?_) (fun l hl' => ?_) hcf
          · obtain ⟨m, hm', rfl⟩ := List.mem_map.1 hl'
            have := hl m hm'
            omega
          · obtain ⟨m, hm', rfl⟩ := List.mem_map.1 hl'
            have h1 := List.any_eq_false.1 h m hm'
            rw [tIn_neg b (hl m hm')]
            simpa using h1
      rw [if_neg (by intro e; rw [List.length_eq_zero_iff.1 e] at hex; simp at hex)]
      refine check_none (b := b) r _ _ ?_ (fun c hc => ?_) (fun t ht => hs t (List.mem_cons_of_mem _ ht))
      · unfold makesB at hm ⊢
        rw [List.all_append, hm]
        simp [hex]
      · rcases List.mem_append.1 hc with h | h
        · exact hz c h
        · rw [List.mem_singleton] at h; subst h; exact hl
    · rw [if_neg hcf]

theorem check_more {V : Nat} : ∀ (p : List (List Int)) (C C' : List (List Int)) (i : Nat), (∀ c ∈ C, c ∈ C') → (checkOf V C i p).2 = 0 → checkOf V C' i p = checkOf V C i p
  | [], C, C', i, _, h => by simp [checkOf] at h
  | s :: r, C, C', i, hs, h => by
    rw [checkOf] at h ⊢
    rw [checkOf]
    by_cases h0 : clauseFault V s ≠ 0
    · rw [if_pos h0] at h; exact absurd h h0
    · rw [if_neg h0] at h ⊢
      rw [if_neg h0]
      by_cases hc : Conf C (fun l => l ∈ s.map fun l => -l)
      · rw [if_pos hc] at h ⊢
        rw [if_pos (hc.mono hs)]
        by_cases hl : s.length = 0
        · rw [if_pos hl, if_pos hl]
        · rw [if_neg hl] at h ⊢
          rw [if_neg hl]
          exact check_more r _ _ _ (fun c hc' => by rcases List.mem_append.1 hc' with e | e; exact List.mem_append_left _ (hs c e); exact List.mem_append_right _ e) h
      · rw [if_neg hc] at h; cases h

theorem check_cut {V : Nat} : ∀ (p : List (List Int)) (C : List (List Int)) (i : Nat), checkOf V C i (p ++ [[]]) = (((i + p.length + 1 : Nat) : Int), 0) → checkOf V C i p = (((i + p.length : Nat) : Int), 8)
  | [], C, i, _ => by rw [checkOf]; rfl
  | s :: r, C, i, h => by
    rw [List.cons_append, checkOf] at h
    rw [checkOf]
    by_cases h0 : clauseFault V s ≠ 0
    · rw [if_pos h0] at h; exact absurd (congrArg Prod.snd h) h0
    · rw [if_neg h0] at h ⊢
      by_cases hc : Conf C (fun l => l ∈ s.map fun l => -l)
      · rw [if_pos hc] at h ⊢
        by_cases hl : s.length = 0
        · rw [if_pos hl] at h
          have := congrArg Prod.fst h
          simp only [List.length_cons] at this
          omega
        · rw [if_neg hl] at h ⊢
          have e : i + (s :: r).length = i + 1 + r.length := by simp only [List.length_cons]; omega
          rw [e] at h ⊢
          exact check_cut r _ _ h
      · rw [if_neg hc] at h; have := congrArg Prod.snd h; simp at this

/-- Each step twice. -/
def dbl (p : List (List Int)) : List (List Int) := p.flatMap fun s => [s, s]

theorem dbl_len (p : List (List Int)) : (dbl p).length = 2 * p.length := by
  induction p with
  | nil => rfl
  | cons s r ih => simp only [dbl, List.flatMap_cons, List.length_append, List.length_cons, List.length_nil] at ih ⊢; omega

theorem check_dbl {V : Nat} : ∀ (p : List (List Int)) (C C' : List (List Int)) (i j : Nat), (∀ c ∈ C, c ∈ C') → checkOf V C i (p ++ [[]]) = (((i + p.length + 1 : Nat) : Int), 0) → checkOf V C' j (dbl (p ++ [[]])) = (((j + 2 * p.length + 1 : Nat) : Int), 0)
  | [], C, C', i, j, hs, h => by
    rw [List.nil_append, checkOf] at h
    have h0 : clauseFault V ([] : List Int) = 0 := fault_of_lits (by simp) (fun l h => by cases h)
    rw [if_neg (by rw [h0]; exact fun h => h rfl)] at h
    by_cases hc : Conf C (fun l => l ∈ ([] : List Int).map fun l => -l)
    · show checkOf V C' j ([] :: [[]]) = _
      rw [checkOf, if_neg (by rw [h0]; exact fun h => h rfl), if_pos (hc.mono hs), if_pos (by simp)]
      rfl
    · rw [if_neg hc] at h; have := congrArg Prod.snd h; simp at this
  | s :: r, C, C', i, j, hs, h => by
    rw [List.cons_append, checkOf] at h
    by_cases h0 : clauseFault V s ≠ 0
    · rw [if_pos h0] at h; exact absurd (congrArg Prod.snd h) h0
    · rw [if_neg h0] at h
      by_cases hc : Conf C (fun l => l ∈ s.map fun l => -l)
      · rw [if_pos hc] at h
        by_cases hl : s.length = 0
        · rw [if_pos hl] at h
          have := congrArg Prod.fst h
          simp only [List.length_cons] at this
          omega
        · rw [if_neg hl] at h
          have e : i + (s :: r).length = i + 1 + r.length := by simp only [List.length_cons]; omega
          rw [e] at h
          show checkOf V C' j (s :: s :: dbl (r ++ [[]])) = _
          rw [checkOf, if_neg h0, if_pos (hc.mono hs), if_neg hl]
          have hc2 : Conf (C' ++ [s]) (fun l => l ∈ s.map fun l => -l) := Or.inr ⟨s, List.mem_append_right _ (List.mem_singleton.2 rfl), fun m hm => .given (List.mem_map.2 ⟨m, hm, rfl⟩)⟩
          rw [checkOf, if_neg h0, if_pos hc2, if_neg hl]
          have := check_dbl r (C ++ [s]) (C' ++ [s] ++ [s]) (i + 1) (j + 1 + 1) (fun c hc' => by rcases List.mem_append.1 hc' with e | e; exact List.mem_append_left _ (List.mem_append_left _ (hs c e)); exact List.mem_append_right _ e) h
          rw [this]
          simp only [List.length_cons]
          congr 2
          omega
      · rw [if_neg hc] at h; have := congrArg Prod.snd h; simp at this

/-- What a proof that ends is worth. -/
theorem endOk_last {V : Nat} {cs : List (List Int)} {F : List Nat} (h : EndOk V cs (.unsat F)) : ∃ p, F.map (litsOf 64) = p ++ [[]] := by
  obtain ⟨F0, rfl, -⟩ := h
  refine ⟨F0.map (litsOf 64), ?_⟩
  have hz : litsOf 64 0 = [] := by simp [litsOf]
  rw [List.map_append, List.map_singleton, hz]
end Go.Proofs.YtomebpjjeldhdaaDoor
