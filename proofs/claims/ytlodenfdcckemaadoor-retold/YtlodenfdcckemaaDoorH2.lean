/-
  A text that was written word by word, with gaps: its words (of no program's walk).
-/
import Derived.Test.YtlodenfdcckemaaDoorH1
namespace Go.Proofs.YtlodenfdcckemaaDoor

theorem row_word (w l : Bytes) (h : ∀ b ∈ w, b ≠ 10) : row (w ++ l) = w ++ row l ∧ rest (w ++ l) = rest l := by
  induction w with
  | nil => exact ⟨rfl, rfl⟩
  | cons b w ih =>
    have hb : b ≠ 10 := h b (by simp)
    obtain ⟨h1, h2⟩ := ih (fun c hc => h c (by simp [hc]))
    constructor
    · show row (b :: (w ++ l)) = b :: (w ++ row l)
      rw [← h1]; simp [row, hb]
    · show rest (b :: (w ++ l)) = rest l
      rw [← h2]; simp [rest, hb]

theorem fields_word (w cur l : Bytes) (h : ∀ b ∈ w, blank b = false) : fields cur (w ++ l) = fields (cur ++ w) l := by
  induction w generalizing cur with
  | nil => simp
  | cons b w ih =>
    have hb := h b (by simp)
    show fields cur (b :: (w ++ l)) = _
    rw [fields, hb]
    simp only [Bool.false_eq_true, if_false]
    rw [ih _ (fun c hc => h c (by simp [hc]))]
    simp

/-- What stands at a line's start, or nowhere. -/
def Starts (l : Bytes) : Prop := ∀ b ∈ l.head?, b ≠ 99

theorem words_start {l : Bytes} (h : Starts l) : wordsOf (rows l) = fields [] (row l) ++ wordsOf (rows (rest l)) := by
  by_cases hl : l = []
  · subst hl; simp [rows, row, rest, wordsOf, fields]
  · rw [rows_eq l hl, wordsOf_cons]
    have : remark (row l) = false := by
      cases l with
      | nil => exact absurd rfl hl
      | cons b l =>
        have hb : b ≠ 99 := h b (by simp)
        unfold row remark
        by_cases h10 : b = 10
        · subst h10; simp
        · simp [h10, hb]
    rw [this]; simp

/-- A word: some bytes, none of them a blank or a newline, the first no c. -/
structure Word (w : Bytes) : Prop where
  some : w ≠ []
  start : Starts w
  line : ∀ b ∈ w, b ≠ 10
  dense : ∀ b ∈ w, blank b = false

theorem Word.starts {w : Bytes} (h : Word w) (l : Bytes) : Starts (w ++ l) := by
  cases w with
  | nil => exact absurd rfl h.some
  | cons b w => exact fun c hc => h.start c (by simpa using hc)

theorem Word.words {w : Bytes} (h : Word w) (l : Bytes) : wordsOf (rows (w ++ l)) = fields w (row l) ++ wordsOf (rows (rest l)) := by
  obtain ⟨h1, h2⟩ := row_word w l h.line
  rw [words_start (h.starts l), h1, h2, fields_word w [] _ h.dense]
  simp

def gapsP : List Bytes := [[32], [10], [9], [32, 32], [10, 99, 32, 49, 32, 50, 32, 48, 10], [32, 10, 32]]

theorem Word.gap {w g l : Bytes} (h : Word w) (hg : g ∈ gapsP) (hl : Starts l) : wordsOf (rows (w ++ (g ++ l))) = w :: wordsOf (rows l) := by
  have hne : w.isEmpty = false := by cases w with
    | nil => exact absurd rfl h.some
    | cons b w => rfl
  rw [h.words]
  have hb32 : blank 32 = true := rfl
  have hb9 : blank 9 = true := rfl
  simp only [gapsP, List.mem_cons, List.not_mem_nil, or_false] at hg
  rcases hg with rfl | rfl | rfl | rfl | rfl | rfl
  · have e1 : row ([32] ++ l) = 32 :: row l := by simp [row]
    have e2 : rest ([32] ++ l) = rest l := by simp [rest]
    rw [e1, e2, fields, hb32, hne, words_start hl]; simp
  · have e1 : row ([10] ++ l) = [] := by simp [row]
    have e2 : rest ([10] ++ l) = l := by simp [rest]
    rw [e1, e2, fields, hne]; simp
  · have e1 : row ([9] ++ l) = 9 :: row l := by simp [row]
    have e2 : rest ([9] ++ l) = rest l := by simp [rest]
    rw [e1, e2, fields, hb9, hne, words_start hl]; simp
  · have e1 : row ([32, 32] ++ l) = 32 :: 32 :: row l := by simp [row]
    have e2 : rest ([32, 32] ++ l) = rest l := by simp [rest]
    rw [e1, e2, fields, hb32, hne, fields, hb32, words_start hl]; simp
  · have e1 : row ([10, 99, 32, 49, 32, 50, 32, 48, 10] ++ l) = [] := by simp [row]
    have e2 : rest ([10, 99, 32, 49, 32, 50, 32, 48, 10] ++ l) = [99, 32, 49, 32, 50, 32, 48, 10] ++ l := by simp [rest]
    have e3 : row ([99, 32, 49, 32, 50, 32, 48, 10] ++ l) = [99, 32, 49, 32, 50, 32, 48] := by simp [row]
    have e4 : rest ([99, 32, 49, 32, 50, 32, 48, 10] ++ l) = l := by simp [rest]
    rw [e1, e2, fields, hne, rows_eq _ (by simp), e3, e4, wordsOf_cons]
    simp [remark]
  · have e1 : row ([32, 10, 32] ++ l) = [32] := by simp [row]
    have e2 : rest ([32, 10, 32] ++ l) = [32] ++ l := by simp [rest]
    have e3 : row ([32] ++ l) = 32 :: row l := by simp [row]
    have e4 : rest ([32] ++ l) = rest l := by simp [rest]
    rw [e1, e2, fields, hb32, hne, fields, rows_eq _ (by simp), e3, e4, wordsOf_cons, words_start hl]
    simp [remark, fields, hb32]

/-- Words with gaps behind them. -/
def spell (ws : List (Bytes × Bytes)) : Bytes := ws.flatMap fun p => p.1 ++ p.2

theorem spell_starts : ∀ (ws : List (Bytes × Bytes)), (∀ p ∈ ws, Word p.1) → Starts (spell ws)
  | [], _ => fun b hb => by simp [spell] at hb
  | p :: ws, h => by
    have e : spell (p :: ws) = p.1 ++ (p.2 ++ spell ws) := by simp [spell]
    rw [e]; exact (h p (by simp)).starts _

theorem spell_words : ∀ (ws : List (Bytes × Bytes)), (∀ p ∈ ws, Word p.1 ∧ p.2 ∈ gapsP) → wordsOf (rows (spell ws)) = ws.map (·.1)
  | [], _ => by simp [spell, rows, wordsOf]
  | p :: ws, h => by
    have e : spell (p :: ws) = p.1 ++ (p.2 ++ spell ws) := by simp [spell]
    obtain ⟨h1, h2⟩ := h p (by simp)
    rw [e, h1.gap h2 (spell_starts ws (fun q hq => (h q (by simp [hq])).1)), spell_words ws (fun q hq => h q (by simp [hq]))]
    rfl
end Go.Proofs.YtlodenfdcckemaaDoor
