/-
  A formula that was written is the formula that is read (of no program's walk).
-/
import Derived.Test.YtlodenfdcckemaaDoorH2
namespace Go.Proofs.YtlodenfdcckemaaDoor

/-- A number's figures, up to three. -/
def fig1 (n : Nat) : UInt8 := UInt8.ofNat (48 + n % 10)
def dig (n : Nat) : Bytes := if n < 10 then [fig1 n] else if n < 100 then [fig1 (n / 10), fig1 n] else [fig1 (n / 100), fig1 (n / 10), fig1 n]

theorem fig1_is (n : Nat) : (fig1 n).toNat = 48 + n % 10 := by
  unfold fig1
  rw [UInt8.toNat_ofNat']
  omega

theorem fig1_figure (n : Nat) : figure (fig1 n) = true := by
  unfold figure
  rw [fig1_is]
  simp
  omega

theorem dig_all (n : Nat) : (dig n).all figure = true := by
  unfold dig
  split
  · simp [fig1_figure]
  · split <;> simp [fig1_figure]

theorem dig_len (n : Nat) : 1 ≤ (dig n).length ∧ (dig n).length ≤ 3 := by
  unfold dig
  split
  · simp
  · split <;> simp

theorem dig_value (n : Nat) (h : n < 1000) : value (dig n) = n := by
  unfold dig value
  split
  · simp only [List.foldl_cons, List.foldl_nil, fig1_is]; omega
  · split
    · simp only [List.foldl_cons, List.foldl_nil, fig1_is]; omega
    · simp only [List.foldl_cons, List.foldl_nil, fig1_is]; omega

theorem dig_figs (n : Nat) (h : n < 1000) : figs (dig n) = some n := by
  have := dig_len n
  unfold figs
  rw [if_neg (by omega), dig_all, dig_value n h]
  simp

theorem figure_of {b : UInt8} (h : figure b = true) : 48 ≤ b.toNat ∧ b.toNat ≤ 57 := by
  unfold figure at h
  simp at h
  omega

theorem figure_byte {b : UInt8} (h : figure b = true) : b ≠ 10 ∧ b ≠ 99 ∧ b ≠ 45 ∧ b ≠ 32 ∧ blank b = false := by
  have h := figure_of h
  have key : ∀ c : UInt8, c.toNat < 48 ∨ 57 < c.toNat → b ≠ c := fun c hc e => by subst e; omega
  have h32 := key 32 (by decide)
  have h9 := key 9 (by decide)
  refine ⟨key 10 (by decide), key 99 (by decide), key 45 (by decide), h32, ?_⟩
  unfold blank
  simp [h32, h9]

/-- The word of a number. -/
def wordBy (l : Int) : Bytes := if l < 0 then 45 :: dig l.natAbs else dig l.natAbs

theorem dig_mem {n : Nat} {b : UInt8} (h : b ∈ dig n) : figure b = true := List.all_eq_true.1 (dig_all n) b h

theorem dig_ne (n : Nat) : dig n ≠ [] := fun h => by have := dig_len n; rw [h] at this; simp at this

theorem dig_word (n : Nat) : Word (dig n) :=
  ⟨dig_ne n, fun _ hb => (figure_byte (dig_mem (List.mem_of_mem_head? hb))).2.1, fun _ hb => (figure_byte (dig_mem hb)).1, fun _ hb => (figure_byte (dig_mem hb)).2.2.2.2⟩

theorem wordBy_word (l : Int) : Word (wordBy l) := by
  unfold wordBy
  split
  · have hd := dig_word l.natAbs
    refine ⟨by simp, fun b hb => ?_, fun b hb => ?_, fun b hb => ?_⟩
    · simp at hb; subst hb; decide
    · rcases List.mem_cons.1 hb with rfl | h
      · decide
      · exact hd.line b h
    · rcases List.mem_cons.1 hb with rfl | h
      · decide
      · exact hd.dense b h
  · exact dig_word _

theorem wordBy_num (l : Int) (h : l.natAbs < 1000) : num (wordBy l) = some l := by
  unfold wordBy
  split
  · unfold num
    simp only [beq_self_eq_true, if_true]
    rw [dig_figs _ h]
    simp; omega
  · have hn := dig_ne l.natAbs
    have hf := dig_figs l.natAbs h
    have hm := fun b => @dig_mem l.natAbs b
    generalize dig l.natAbs = d at hn hf hm
    cases d with
    | nil => exact absurd rfl hn
    | cons b r =>
      have hb : (b == 45) = false := by simpa using (figure_byte (hm b (by simp))).2.2.1
      unfold num
      simp only [hb, Bool.false_eq_true, if_false]
      rw [hf]
      simp; omega

/-- A clause's words, its end behind it. -/
def clauseWords (c : List Int) : List Bytes := (c ++ [0]).map wordBy

theorem take_lits (v n : Nat) (hv : v ≤ 20) : ∀ (c : List Int) (k : Nat) (E : List (List Int)) (O : List Int), (∀ l ∈ c, l ≠ 0 ∧ l ≤ v ∧ -(v : Int) ≤ l) → E.length < n → O.length + c.length ≤ 20 →
    takeW v n k ⟨E, O⟩ (c.map wordBy) = (0, 0, ⟨E, O ++ c⟩)
  | [], k, E, O, _, _, _ => by simp [takeW]
  | l :: c, k, E, O, h, hE, hO => by
    obtain ⟨h0, h1, h2⟩ := h l (by simp)
    simp only [List.length_cons] at hO
    have e : take1 v n ⟨E, O⟩ (wordBy l) = (0, ⟨E, O ++ [l]⟩) := by
      unfold take1
      rw [wordBy_num l (by omega)]
      simp only
      rw [if_neg (by omega), if_neg (by omega), if_neg h0, if_neg (by omega)]
    rw [List.map_cons, takeW, e]
    simp only [if_true]
    rw [take_lits v n hv c (k + 1) E (O ++ [l]) (fun m hm => h m (by simp [hm])) hE (by simp; omega)]
    simp

theorem take_clause (v n : Nat) (hv : v ≤ 20) (c : List Int) (k : Nat) (E : List (List Int)) (h : ∀ l ∈ c, l ≠ 0 ∧ l ≤ v ∧ -(v : Int) ≤ l) (hE : E.length < n) (hc : c.length ≤ 20) :
    takeW v n k ⟨E, []⟩ (clauseWords c) = (0, 0, ⟨E ++ [c], []⟩) := by
  have h1 := take_lits v n hv c k E [] h hE (by simpa using hc)
  have e : take1 v n ⟨E, c⟩ (wordBy 0) = (0, ⟨E ++ [c], []⟩) := by
    unfold take1
    rw [wordBy_num 0 (by decide)]
    simp only
    rw [if_neg (by simp), if_neg (by omega)]
    simp
  unfold clauseWords
  rw [List.map_append, takeW_append v n k ⟨E, []⟩ _ _ (by rw [h1]), h1]
  simp only [List.nil_append, List.map_cons, List.map_nil]
  rw [takeW, e]
  simp [takeW]

theorem take_clauses (v n : Nat) (hv : v ≤ 20) : ∀ (cs : List (List Int)) (k : Nat) (E : List (List Int)), (∀ c ∈ cs, ∀ l ∈ c, l ≠ 0 ∧ l ≤ v ∧ -(v : Int) ≤ l) → (∀ c ∈ cs, c.length ≤ 20) → E.length + cs.length ≤ n →
    takeW v n k ⟨E, []⟩ (cs.flatMap clauseWords) = (0, 0, ⟨E ++ cs, []⟩)
  | [], k, E, _, _, _ => by simp [takeW]
  | c :: cs, k, E, h, hl, hn => by
    simp only [List.length_cons] at hn
    have h1 := take_clause v n hv c k E (h c (by simp)) (by omega) (hl c (by simp))
    rw [List.flatMap_cons, takeW_append v n k ⟨E, []⟩ _ _ (by rw [h1]), h1]
    simp only
    rw [take_clauses v n hv cs _ (E ++ [c]) (fun d hd => h d (by simp [hd])) (fun d hd => hl d (by simp [hd])) (by simp; omega)]
    simp

theorem take_all (v : Nat) (hv : v ≤ 20) (cs : List (List Int)) (h : ∀ c ∈ cs, ∀ l ∈ c, l ≠ 0 ∧ l ≤ v ∧ -(v : Int) ≤ l) (hl : ∀ c ∈ cs, c.length ≤ 20) : takeAllW v cs.length (cs.flatMap clauseWords) = (0, 0, ⟨cs, []⟩) := by
  unfold takeAllW
  rw [take_clauses v cs.length hv cs 0 [] h hl (by simp)]
  simp [lacks]
end Go.Proofs.YtlodenfdcckemaaDoor
