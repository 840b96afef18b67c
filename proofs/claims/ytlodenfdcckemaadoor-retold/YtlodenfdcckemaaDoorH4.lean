/-
  The text of a formula, read: the formula (of no program's walk).
-/
import Derived.Test.YtlodenfdcckemaaDoorH3
namespace Go.Proofs.YtlodenfdcckemaaDoor

/-- The head's line. -/
def headBy (v c : Nat) : Bytes := prefixP ++ (dig v ++ (32 :: dig c))

theorem takeWhile_dig (n : Nat) (l : Bytes) : (dig n ++ 32 :: l).takeWhile (· != 32) = dig n ∧ (dig n ++ 32 :: l).dropWhile (· != 32) = 32 :: l := by
  have h : ∀ b ∈ dig n, (b != 32) = true := fun b hb => by simpa using (figure_byte (dig_mem hb)).2.2.2.1
  generalize dig n = d at h
  induction d with
  | nil => simp
  | cons b d ih =>
    have hb := h b (by simp)
    obtain ⟨h1, h2⟩ := ih (fun c hc => h c (by simp [hc]))
    simp only [List.cons_append, List.takeWhile_cons, List.dropWhile_cons, hb, if_true]
    exact ⟨by rw [h1], h2⟩

theorem headBy_head (v c : Nat) (hv : v < 1000) (hc : c < 1000) : headOf (headBy v c) = some (v, c) := by
  have e1 : (headBy v c).take 6 = prefixP := by unfold headBy; rw [List.take_append_of_le_length (by decide)]; rfl
  have e2 : (headBy v c).drop 6 = dig v ++ 32 :: dig c := by unfold headBy; rw [List.drop_append_of_le_length (by decide)]; rfl
  have e3 : ¬ (headBy v c).length < 6 := by unfold headBy; simp [prefixP]
  obtain ⟨t1, t2⟩ := takeWhile_dig v (dig c)
  unfold headOf
  rw [if_neg (by rw [e1]; simp; omega), e2, if_pos (by simp), t1, t2]
  simp only [List.drop_succ_cons, List.drop_zero]
  rw [dig_figs v hv, dig_figs c hc]

theorem headBy_line (v c : Nat) : ∀ b ∈ headBy v c, b ≠ 10 := by
  intro b hb
  unfold headBy at hb
  rcases List.mem_append.1 hb with h | h
  · clear hb; revert h; revert b; unfold prefixP; decide
  · rcases List.mem_append.1 h with h | h
    · exact (figure_byte (dig_mem h)).1
    · rcases List.mem_cons.1 h with rfl | h
      · decide
      · exact (figure_byte (dig_mem h)).1

/-- The text that reads as a formula. -/
theorem parse_text (v : Nat) (hv : v ≤ 20) (cs : List (List Int)) (hn : cs.length ≤ 200) (h : ∀ c ∈ cs, ∀ l ∈ c, l ≠ 0 ∧ l ≤ v ∧ -(v : Int) ≤ l) (hl : ∀ c ∈ cs, c.length ≤ 20) (ws : List (Bytes × Bytes)) (hw : ws.map (·.1) = cs.flatMap clauseWords) (hg : ∀ p ∈ ws, p.2 ∈ gapsP) :
    parse (headBy v cs.length ++ (10 :: spell ws)) = ⟨v, cs, 0, 0⟩ := by
  have hword : ∀ p ∈ ws, Word p.1 ∧ p.2 ∈ gapsP := fun p hp => by
    refine ⟨?_, hg p hp⟩
    have : p.1 ∈ cs.flatMap clauseWords := by rw [← hw]; exact List.mem_map_of_mem hp
    obtain ⟨c, _, hc⟩ := List.mem_flatMap.1 this
    obtain ⟨l, _, e⟩ := List.mem_map.1 hc
    rw [← e]; exact wordBy_word l
  obtain ⟨r1, r2⟩ := row_word (headBy v cs.length) (10 :: spell ws) (headBy_line v cs.length)
  have e1 : row (10 :: spell ws) = [] := by simp [row]
  have e2 : rest (10 :: spell ws) = spell ws := by simp [rest]
  rw [e1, List.append_nil] at r1
  rw [e2] at r2
  have hrows : rows (headBy v cs.length ++ (10 :: spell ws)) = headBy v cs.length :: rows (spell ws) := by
    rw [rows_eq _ (by simp), r1, r2]
  have hrem : remark (headBy v cs.length) = false := by unfold headBy prefixP; rfl
  unfold parse
  rw [hrows, List.dropWhile_cons, hrem]
  simp only [Bool.false_eq_true, if_false]
  rw [headBy_head v cs.length (by omega) (by omega)]
  have he : headErr (some (v, cs.length)) = 0 := by
    unfold headErr
    simp only
    rw [if_neg (by omega), if_neg (by omega)]
  rw [he]
  simp only [if_true]
  unfold bodyOf
  rw [spell_words ws hword, hw, take_all v hv cs h hl]
  simp
end Go.Proofs.YtlodenfdcckemaaDoor
