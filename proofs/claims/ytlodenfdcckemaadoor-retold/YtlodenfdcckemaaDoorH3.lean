/-
  Several texts, one behind the other.
-/

/-
  The reading of a text, on plain lists of bytes.
-/
namespace Go.Proofs.YtlodenfdcckemaaDoor

abbrev Bytes := List UInt8

/-- A line, and what lies behind it. -/
def row (l : Bytes) : Bytes := l.takeWhile (· != 10)
def rest (l : Bytes) : Bytes := (l.dropWhile (· != 10)).drop 1

/-- All lines. -/
def rows : Bytes → List Bytes
  | [] => []
  | b :: l => if b == 10 then [] :: rows l else match rows l with
    | [] => [[b]]
    | r :: rs => (b :: r) :: rs

theorem rows_cons (b : UInt8) (l : Bytes) : rows (b :: l) = if b == 10 then [] :: rows l else match rows l with
    | [] => [[b]]
    | r :: rs => (b :: r) :: rs := rfl

theorem rows_eq (l : Bytes) (h : l ≠ []) : rows l = row l :: rows (rest l) := by
  induction l with
  | nil => exact absurd rfl h
  | cons b l ih =>
    rw [rows_cons]
    by_cases hb : b = 10
    · subst hb
      simp [row, rest]
    · have hbn : (b == 10) = false := by simpa using hb
      simp only [hbn, Bool.false_eq_true, if_false]
      have h1 : row (b :: l) = b :: row l := by simp [row, hb]
      have h2 : rest (b :: l) = rest l := by simp [rest, hb]
      rw [h1, h2]
      cases l with
      | nil => simp [rows, row, rest]
      | cons c l =>
        rw [ih (by simp)]

theorem rest_length (l : Bytes) (h : l ≠ []) : (rest l).length < l.length := by
  have h1 : (l.dropWhile (· != 10)).length ≤ l.length := (List.dropWhile_suffix _).length_le
  unfold rest
  rw [List.length_drop]
  have : 0 < l.length := List.length_pos_iff.2 h
  omega

theorem row_length (l : Bytes) : (row l).length ≤ l.length := (List.takeWhile_prefix _).length_le
theorem rest_le (l : Bytes) : (rest l).length ≤ l.length := by
  by_cases h : l = []
  · subst h; simp [rest]
  · exact Nat.le_of_lt (rest_length l h)

/-- Does a line begin with c? -/
def remark (r : Bytes) : Bool := match r with | [] => false | b :: _ => b == 99

/-- A number of up to six figures. -/
def figure (b : UInt8) : Bool := !(b.toNat < 48) && !(57 < b.toNat)
def value (l : Bytes) : Nat := l.foldl (fun n b => 10 * n + (b.toNat - 48)) 0
def figs (l : Bytes) : Option Nat := if l.length < 1 ∨ 6 < l.length then none else if l.all figure then some (value l) else none

/-- The number that a word is. -/
def num (l : Bytes) : Option Int := match l with
  | [] => none
  | b :: r => if b == 45 then (figs r).map (fun (n : Nat) => -(n : Int)) else (figs (b :: r)).map (fun (n : Nat) => (n : Int))

/-- The words of a line, some bytes of one having come. -/
def blank (b : UInt8) : Bool := b == 32 || b == 9
def fields : Bytes → Bytes → List Bytes
  | cur, [] => if cur.isEmpty then [] else [cur]
  | cur, b :: l => if blank b then (if cur.isEmpty then fields [] l else cur :: fields [] l) else fields (cur ++ [b]) l

/-- The words of lines. -/
def wordsOf (rs : List Bytes) : List Bytes := (rs.filter (fun r => !remark r)).flatMap (fields [])

/-- The head's line: how many variables and clauses. -/
def prefixP : Bytes := [112, 32, 99, 110, 102, 32]
def headOf (r : Bytes) : Option (Nat × Nat) :=
  if r.length < 6 ∨ r.take 6 ≠ prefixP then none else
  if (r.drop 6).contains 32 then
    match figs ((r.drop 6).takeWhile (· != 32)), figs (((r.drop 6).dropWhile (· != 32)).drop 1) with
    | some v, some c => some (v, c)
    | _, _ => none
  else none

/-- Clauses that have ended, and the open one. -/
structure St where
  ended : List (List Int)
  opened : List Int

/-- A word is taken: the error, and what is made. -/
def take1 (v c : Nat) (s : St) (w : Bytes) : Int × St :=
  match num w with
  | none => (2, s)
  | some n =>
    if n.natAbs > v then (6, s) else if s.ended.length = c then (4, s) else
    if n = 0 then (0, ⟨s.ended ++ [s.opened], []⟩) else if s.opened.length = 20 then (5, s) else (0, ⟨s.ended, s.opened ++ [n]⟩)

/-- Words are taken, k having been taken: the error and its place, and what is made. -/
def takeW (v c : Nat) : Nat → St → List Bytes → Int × Int × St
  | _, s, [] => (0, 0, s)
  | k, s, w :: ws => if (take1 v c s w).1 = 0 then takeW v c (k + 1) (take1 v c s w).2 ws else ((take1 v c s w).1, (k : Int) + 1, s)

def lacks (c : Nat) (s : St) : Int := if 0 < s.opened.length then 2 else if s.ended.length < c then 4 else 0

/-- All words are taken. -/
def takeAllW (v c : Nat) (ws : List Bytes) : Int × Int × St :=
  let r := takeW v c 0 ⟨[], []⟩ ws
  if r.1 = 0 then (if lacks c r.2.2 = 0 then r else (lacks c r.2.2, (ws.length : Int) + 1, r.2.2)) else r

/-- What a text says: variables, clauses, the error, its place. -/
structure Said where
  vars : Int
  clauses : List (List Int)
  err : Int
  place : Int

def Said.no (e at' : Int) : Said := ⟨0, [], e, at'⟩

def bodyOf (v c : Nat) (rs : List Bytes) : Said :=
  let r := takeAllW v c (wordsOf rs)
  if r.1 = 0 then ⟨v, r.2.2.ended, 0, 0⟩ else Said.no r.1 r.2.1

def headErr (h : Option (Nat × Nat)) : Int := match h with
  | none => 1
  | some (v, c) => if 20 < v then 3 else if 200 < c then 4 else 0

def parse (l : Bytes) : Said :=
  match (rows l).dropWhile remark with
  | [] => Said.no 1 ((rows l).length + 1)
  | r :: rs => if headErr (headOf r) = 0 then (match headOf r with | some (v, c) => bodyOf v c rs | none => Said.no 1 0) else Said.no (headErr (headOf r)) (((rows l).takeWhile remark).length + 1)

theorem takeW_append (v c : Nat) (k : Nat) (s : St) (ws us : List Bytes) (h : (takeW v c k s ws).1 = 0) : takeW v c k s (ws ++ us) = takeW v c (k + ws.length) (takeW v c k s ws).2.2 us := by
  induction ws generalizing k s with
  | nil => rfl
  | cons w ws ih =>
    simp only [List.cons_append, takeW] at h ⊢
    split
    · rename_i h0
      simp only [h0, if_true] at h
      rw [ih _ _ h, List.length_cons, Nat.add_assoc, Nat.add_comm 1]
    · rename_i h0
      simp only [h0, if_false] at h

theorem takeW_stop (v c : Nat) (k : Nat) (s : St) (ws us : List Bytes) (h : (takeW v c k s ws).1 ≠ 0) : takeW v c k s (ws ++ us) = takeW v c k s ws := by
  induction ws generalizing k s with
  | nil => simp [takeW] at h
  | cons w ws ih =>
    simp only [List.cons_append, takeW] at h ⊢
    split
    · rename_i h0
      simp only [h0, if_true] at h
      exact ih _ _ h
    · rfl

theorem wordsOf_cons (r : Bytes) (rs : List Bytes) : wordsOf (r :: rs) = (if remark r then wordsOf rs else fields [] r ++ wordsOf rs) := by
  unfold wordsOf
  cases h : remark r <;> simp [h]

theorem wordsOf_drop (rs : List Bytes) : wordsOf rs = wordsOf (rs.dropWhile remark) := by
  induction rs with
  | nil => rfl
  | cons r rs ih =>
    rw [List.dropWhile_cons]
    split
    · rename_i h; rw [wordsOf_cons, if_pos h]; exact ih
    · rfl

theorem fields_ne (cur l : Bytes) : ∀ w ∈ fields cur l, w ≠ [] := by
  induction l generalizing cur with
  | nil =>
    intro w hw
    unfold fields at hw
    split at hw
    · simp at hw
    · rename_i h; simp at hw; rw [hw]; intro e; rw [e] at h; exact h rfl
  | cons b l ih =>
    intro w hw
    unfold fields at hw
    split at hw
    · split at hw
      · exact ih _ w hw
      · rename_i h
        rcases List.mem_cons.1 hw with rfl | hw
        · intro e; rw [e] at h; exact h rfl
        · exact ih _ w hw
    · exact ih _ w hw

theorem fields_count (cur l : Bytes) : (fields cur l).length ≤ l.length + 1 := by
  induction l generalizing cur with
  | nil => unfold fields; split <;> simp
  | cons b l ih =>
    unfold fields
    split
    · split
      · have := ih []; simp; omega
      · have := ih []; simp; omega
    · have := ih (cur ++ [b]); simp; omega

theorem rows_length (l : Bytes) : (rows l).length ≤ l.length := by
  induction l with
  | nil => simp [rows]
  | cons b l ih =>
    unfold rows
    split
    · simp; exact ih
    · split
      · simp
      · rename_i r rs e; rw [e] at ih; simp at ih ⊢; omega

def bulk (rs : List Bytes) : Nat := (rs.map (fun r => r.length + 1)).foldr (· + ·) 0
theorem bulk_cons (r : Bytes) (rs : List Bytes) : bulk (r :: rs) = r.length + 1 + bulk rs := rfl
theorem bulk_rows (l : Bytes) : bulk (rows l) ≤ l.length + 1 := by
  induction l with
  | nil => simp [rows, bulk]
  | cons b l ih =>
    unfold rows
    split
    · rw [bulk_cons]; simp; omega
    · split
      · simp [bulk]
      · rename_i r rs e; rw [e, bulk_cons] at ih; rw [bulk_cons]; simp; omega

theorem words_count (rs : List Bytes) : (wordsOf rs).length ≤ bulk rs := by
  induction rs with
  | nil => simp [wordsOf, bulk]
  | cons r rs ih =>
    rw [wordsOf_cons, bulk_cons]
    split
    · omega
    · have := fields_count [] r; rw [List.length_append]; omega

theorem take1_len (v c : Nat) (s : St) (w : Bytes) (h : s.opened.length ≤ 20) (h' : s.ended.length ≤ c) (hc : ∀ x ∈ s.ended, x.length ≤ 20) :
    (take1 v c s w).2.opened.length ≤ 20 ∧ (take1 v c s w).2.ended.length ≤ c ∧ ∀ x ∈ (take1 v c s w).2.ended, x.length ≤ 20 := by
  unfold take1
  split
  · exact ⟨h, h', hc⟩
  · split
    · exact ⟨h, h', hc⟩
    · split
      · exact ⟨h, h', hc⟩
      · split
        · refine ⟨by simp, by simp; omega, fun x hx => ?_⟩
          simp at hx
          rcases hx with hx | rfl
          · exact hc x hx
          · exact h
        · split
          · exact ⟨h, h', hc⟩
          · exact ⟨by simp; omega, h', hc⟩

theorem takeW_len (v c k : Nat) (s : St) (ws : List Bytes) (h : s.opened.length ≤ 20) (h' : s.ended.length ≤ c) (hc : ∀ x ∈ s.ended, x.length ≤ 20) :
    (takeW v c k s ws).2.2.opened.length ≤ 20 ∧ (takeW v c k s ws).2.2.ended.length ≤ c ∧ ∀ x ∈ (takeW v c k s ws).2.2.ended, x.length ≤ 20 := by
  induction ws generalizing k s with
  | nil => exact ⟨h, h', hc⟩
  | cons w ws ih =>
    unfold takeW
    split
    · obtain ⟨a, b, d⟩ := take1_len v c s w h h' hc
      exact ih _ _ a b d
    · exact ⟨h, h', hc⟩

end Go.Proofs.YtlodenfdcckemaaDoor

/-
  A text that was written word by word, with gaps: its words (of no program's walk).
-/

namespace Go.Proofs.YtlodenfdcckemaaDoor

theorem row_word (w l : Bytes) (h : ∀ b ∈ w, b ≠ 10) : row (w ++ l) = w ++ row l ∧ rest (w ++ l) = rest l := by
  induction w with
  | nil => exact ⟨rfl, rfl⟩
  | cons b w ih =>
    have hb : b ≠ 10 := h b (by simp)
    obtain ⟨h1, h2⟩ := ih (fun c hc => h c (by simp [hc]))
    constructor
    · show row (b :: (w ++ l)) = b :: (w ++ row l)
      rw [← h1]; simp [row, hb]
    · show rest (b :: (w ++ l)) = rest l
      rw [← h2]; simp [rest, hb]

theorem fields_word (w cur l : Bytes) (h : ∀ b ∈ w, blank b = false) : fields cur (w ++ l) = fields (cur ++ w) l := by
  induction w generalizing cur with
  | nil => simp
  | cons b w ih =>
    have hb := h b (by simp)
    show fields cur (b :: (w ++ l)) = _
    rw [fields, hb]
    simp only [Bool.false_eq_true, if_false]
    rw [ih _ (fun c hc => h c (by simp [hc]))]
    simp

/-- What stands at a line's start, or nowhere. -/
def Starts (l : Bytes) : Prop := ∀ b ∈ l.head?, b ≠ 99

theorem words_start {l : Bytes} (h : Starts l) : wordsOf (rows l) = fields [] (row l) ++ wordsOf (rows (rest l)) := by
  by_cases hl : l = []
  · subst hl; simp [rows, row, rest, wordsOf, fields]
  · rw [rows_eq l hl, wordsOf_cons]
    have : remark (row l) = false := by
      cases l with
      | nil => exact absurd rfl hl
      | cons b l =>
        have hb : b ≠ 99 := h b (by simp)
        unfold row remark
        by_cases h10 : b = 10
        · subst h10; simp
        · simp [h10, hb]
    rw [this]; simp

/-- A word: some bytes, none of them a blank or a newline, the first no c. -/
structure Word (w : Bytes) : Prop where
  some : w ≠ []
  start : Starts w
  line : ∀ b ∈ w, b ≠ 10
  dense : ∀ b ∈ w, blank b = false

theorem Word.starts {w : Bytes} (h : Word w) (l : Bytes) : Starts (w ++ l) := by
  cases w with
  | nil => exact absurd rfl h.some
  | cons b w => exact fun c hc => h.start c (by simpa using hc)

theorem Word.words {w : Bytes} (h : Word w) (l : Bytes) : wordsOf (rows (w ++ l)) = fields w (row l) ++ wordsOf (rows (rest l)) := by
  obtain ⟨h1, h2⟩ := row_word w l h.line
  rw [words_start (h.starts l), h1, h2, fields_word w [] _ h.dense]
  simp

def gapsP : List Bytes := [[32], [10], [9], [32, 32], [10, 99, 32, 49, 32, 50, 32, 48, 10], [32, 10, 32]]

theorem Word.gap {w g l : Bytes} (h : Word w) (hg : g ∈ gapsP) (hl : Starts l) : wordsOf (rows (w ++ (g ++ l))) = w :: wordsOf (rows l) := by
  have hne : w.isEmpty = false := by cases w with
    | nil => exact absurd rfl h.some
    | cons b w => rfl
  rw [h.words]
  have hb32 : blank 32 = true := rfl
  have hb9 : blank 9 = true := rfl
  simp only [gapsP, List.mem_cons, List.not_mem_nil, or_false] at hg
  rcases hg with rfl | rfl | rfl | rfl | rfl | rfl
  · have e1 : row ([32] ++ l) = 32 :: row l := by simp [row]
    have e2 : rest ([32] ++ l) = rest l := by simp [rest]
    rw [e1, e2, fields, hb32, hne, words_start hl]; simp
  · have e1 : row ([10] ++ l) = [] := by simp [row]
    have e2 : rest ([10] ++ l) = l := by simp [rest]
    rw [e1, e2, fields, hne]; simp
  · have e1 : row ([9] ++ l) = 9 :: row l := by simp [row]
    have e2 : rest ([9] ++ l) = rest l := by simp [rest]
    rw [e1, e2, fields, hb9, hne, words_start hl]; simp
  · have e1 : row ([32, 32] ++ l) = 32 :: 32 :: row l := by simp [row]
    have e2 : rest ([32, 32] ++ l) = rest l := by simp [rest]
    rw [e1, e2, fields, hb32, hne, fields, hb32, words_start hl]; simp
  · have e1 : row ([10, 99, 32, 49, 32, 50, 32, 48, 10] ++ l) = [] := by simp [row]
    have e2 : rest ([10, 99, 32, 49, 32, 50, 32, 48, 10] ++ l) = [99, 32, 49, 32, 50, 32, 48, 10] ++ l := by simp [rest]
    have e3 : row ([99, 32, 49, 32, 50, 32, 48, 10] ++ l) = [99, 32, 49, 32, 50, 32, 48] := by simp [row]
    have e4 : rest ([99, 32, 49, 32, 50, 32, 48, 10] ++ l) = l := by simp [rest]
    rw [e1, e2, fields, hne, rows_eq _ (by simp), e3, e4, wordsOf_cons]
    simp [remark]
  · have e1 : row ([32, 10, 32] ++ l) = [32] := by simp [row]
    have e2 : rest ([32, 10, 32] ++ l) = [32] ++ l := by simp [rest]
    have e3 : row ([32] ++ l) = 32 :: row l := by simp [row]
    have e4 : rest ([32] ++ l) = rest l := by simp [rest]
    rw [e1, e2, fields, hb32, hne, fields, rows_eq _ (by simp), e3, e4, wordsOf_cons, words_start hl]
    simp [remark, fields, hb32]

/-- Words with gaps behind them. -/
def spell (ws : List (Bytes × Bytes)) : Bytes := ws.flatMap fun p => p.1 ++ p.2

theorem spell_starts : ∀ (ws : List (Bytes × Bytes)), (∀ p ∈ ws, Word p.1) → Starts (spell ws)
  | [], _ => fun b hb => by simp [spell] at hb
  | p :: ws, h => by
    have e : spell (p :: ws) = p.1 ++ (p.2 ++ spell ws) := by simp [spell]
    rw [e]; exact (h p (by simp)).starts _

theorem spell_words : ∀ (ws : List (Bytes × Bytes)), (∀ p ∈ ws, Word p.1 ∧ p.2 ∈ gapsP) → wordsOf (rows (spell ws)) = ws.map (·.1)
  | [], _ => by simp [spell, rows, wordsOf]
  | p :: ws, h => by
    have e : spell (p :: ws) = p.1 ++ (p.2 ++ spell ws) := by simp [spell]
    obtain ⟨h1, h2⟩ := h p (by simp)
    rw [e, h1.gap h2 (spell_starts ws (fun q hq => (h q (by simp [hq])).1)), spell_words ws (fun q hq => h q (by simp [hq]))]
    rfl
end Go.Proofs.YtlodenfdcckemaaDoor

/-
  A formula that was written is the formula that is read (of no program's walk).
-/

namespace Go.Proofs.YtlodenfdcckemaaDoor

/-- A number's figures, up to three. -/
def fig1 (n : Nat) : UInt8 := UInt8.ofNat (48 + n % 10)
def dig (n : Nat) : Bytes := if n < 10 then [fig1 n] else if n < 100 then [fig1 (n / 10), fig1 n] else [fig1 (n / 100), fig1 (n / 10), fig1 n]

theorem fig1_is (n : Nat) : (fig1 n).toNat = 48 + n % 10 := by
  unfold fig1
  rw [UInt8.toNat_ofNat']
  omega

theorem fig1_figure (n : Nat) : figure (fig1 n) = true := by
  unfold figure
  rw [fig1_is]
  simp
  omega

theorem dig_all (n : Nat) : (dig n).all figure = true := by
  unfold dig
  split
  · simp [fig1_figure]
  · split <;> simp [fig1_figure]

theorem dig_len (n : Nat) : 1 ≤ (dig n).length ∧ (dig n).length ≤ 3 := by
  unfold dig
  split
  · simp
  · split <;> simp

theorem dig_value (n : Nat) (h : n < 1000) : value (dig n) = n := by
  unfold dig value
  split
  · simp only [List.foldl_cons, List.foldl_nil, fig1_is]; omega
  · split
    · simp only [List.foldl_cons, List.foldl_nil, fig1_is]; omega
    · simp only [List.foldl_cons, List.foldl_nil, fig1_is]; omega

theorem dig_figs (n : Nat) (h : n < 1000) : figs (dig n) = some n := by
  have := dig_len n
  unfold figs
  rw [if_neg (by omega), dig_all, dig_value n h]
  simp

theorem figure_of {b : UInt8} (h : figure b = true) : 48 ≤ b.toNat ∧ b.toNat ≤ 57 := by
  unfold figure at h
  simp at h
  omega

theorem figure_byte {b : UInt8} (h : figure b = true) : b ≠ 10 ∧ b ≠ 99 ∧ b ≠ 45 ∧ b ≠ 32 ∧ blank b = false := by
  have h := figure_of h
  have key : ∀ c : UInt8, c.toNat < 48 ∨ 57 < c.toNat → b ≠ c := fun c hc e => by subst e; omega
  have h32 := key 32 (by decide)
  have h9 := key 9 (by decide)
  refine ⟨key 10 (by decide), key 99 (by decide), key 45 (by decide), h32, ?_⟩
  unfold blank
  simp [h32, h9]

/-- The word of a number. -/
def wordBy (l : Int) : Bytes := if l < 0 then 45 :: dig l.natAbs else dig l.natAbs

theorem dig_mem {n : Nat} {b : UInt8} (h : b ∈ dig n) : figure b = true := List.all_eq_true.1 (dig_all n) b h

theorem dig_ne (n : Nat) : dig n ≠ [] := fun h => by have := dig_len n; rw [h] at this; simp at this

theorem dig_word (n : Nat) : Word (dig n) :=
  ⟨dig_ne n, fun _ hb => (figure_byte (dig_mem (List.mem_of_mem_head? hb))).2.1, fun _ hb => (figure_byte (dig_mem hb)).1, fun _ hb => (figure_byte (dig_mem hb)).2.2.2.2⟩

theorem wordBy_word (l : Int) : Word (wordBy l) := by
  unfold wordBy
  split
  · have hd := dig_word l.natAbs
    refine ⟨by simp, fun b hb => ?_, fun b hb => ?_, fun b hb => ?_⟩
    · simp at hb; subst hb; decide
    · rcases List.mem_cons.1 hb with rfl | h
      · decide
      · exact hd.line b h
    · rcases List.mem_cons.1 hb with rfl | h
      · decide
      · exact hd.dense b h
  · exact dig_word _

theorem wordBy_num (l : Int) (h : l.natAbs < 1000) : num (wordBy l) = some l := by
  unfold wordBy
  split
  · unfold num
    simp only [beq_self_eq_true, if_true]
    rw [dig_figs _ h]
    simp; omega
  · have hn := dig_ne l.natAbs
    have hf := dig_figs l.natAbs h
    have hm := fun b => @dig_mem l.natAbs b
    generalize dig l.natAbs = d at hn hf hm
    cases d with
    | nil => exact absurd rfl hn
    | cons b r =>
      have hb : (b == 45) = false := by simpa using (figure_byte (hm b (by simp))).2.2.1
      unfold num
      simp only [hb, Bool.false_eq_true, if_false]
      rw [hf]
      simp; omega

/-- A clause's words, its end behind it. -/
def clauseWords (c : List Int) : List Bytes := (c ++ [0]).map wordBy

theorem take_lits (v n : Nat) (hv : v ≤ 20) : ∀ (c : List Int) (k : Nat) (E : List (List Int)) (O : List Int), (∀ l ∈ c, l ≠ 0 ∧ l ≤ v ∧ -(v : Int) ≤ l) → E.length < n → O.length + c.length ≤ 20 →
    takeW v n k ⟨E, O⟩ (c.map wordBy) = (0, 0, ⟨E, O ++ c⟩)
  | [], k, E, O, _, _, _ => by simp [takeW]
  | l :: c, k, E, O, h, hE, hO => by
    obtain ⟨h0, h1, h2⟩ := h l (by simp)
    simp only [List.length_cons] at hO
    have e : take1 v n ⟨E, O⟩ (wordBy l) = (0, ⟨E, O ++ [l]⟩) := by
      unfold take1
      rw [wordBy_num l (by omega)]
      simp only
      rw [if_neg (by omega), if_neg (by omega), if_neg h0, if_neg (by omega)]
    rw [List.map_cons, takeW, e]
    simp only [if_true]
    rw [take_lits v n hv c (k + 1) E (O ++ [l]) (fun m hm => h m (by simp [hm])) hE (by simp; omega)]
    simp

theorem take_clause (v n : Nat) (hv : v ≤ 20) (c : List Int) (k : Nat) (E : List (List Int)) (h : ∀ l ∈ c, l ≠ 0 ∧ l ≤ v ∧ -(v : Int) ≤ l) (hE : E.length < n) (hc : c.length ≤ 20) :
    takeW v n k ⟨E, []⟩ (clauseWords c) = (0, 0, ⟨E ++ [c], []⟩) := by
  have h1 := take_lits v n hv c k E [] h hE (by simpa using hc)
  have e : take1 v n ⟨E, c⟩ (wordBy 0) = (0, ⟨E ++ [c], []⟩) := by
    unfold take1
    rw [wordBy_num 0 (by decide)]
    simp only
    rw [if_neg (by simp), if_neg (by omega)]
    simp
  unfold clauseWords
  rw [List.map_append, takeW_append v n k ⟨E, []⟩ _ _ (by rw [h1]), h1]
  simp only [List.nil_append, List.map_cons, List.map_nil]
  rw [takeW, e]
  simp [takeW]

theorem take_clauses (v n : Nat) (hv : v ≤ 20) : ∀ (cs : List (List Int)) (k : Nat) (E : List (List Int)), (∀ c ∈ cs, ∀ l ∈ c, l ≠ 0 ∧ l ≤ v ∧ -(v : Int) ≤ l) → (∀ c ∈ cs, c.length ≤ 20) → E.length + cs.length ≤ n →
    takeW v n k ⟨E, []⟩ (cs.flatMap clauseWords) = (0, 0, ⟨E ++ cs, []⟩)
  | [], k, E, _, _, _ => by simp [takeW]
  | c :: cs, k, E, h, hl, hn => by
    simp only [List.length_cons] at hn
    have h1 := take_clause v n hv c k E (h c (by simp)) (by omega) (hl c (by simp))
    rw [List.flatMap_cons, takeW_append v n k ⟨E, []⟩ _ _ (by rw [h1]), h1]
    simp only
    rw [take_clauses v n hv cs _ (E ++ [c]) (fun d hd => h d (by simp [hd])) (fun d hd => hl d (by simp [hd])) (by simp; omega)]
    simp

theorem take_all (v : Nat) (hv : v ≤ 20) (cs : List (List Int)) (h : ∀ c ∈ cs, ∀ l ∈ c, l ≠ 0 ∧ l ≤ v ∧ -(v : Int) ≤ l) (hl : ∀ c ∈ cs, c.length ≤ 20) : takeAllW v cs.length (cs.flatMap clauseWords) = (0, 0, ⟨cs, []⟩) := by
  unfold takeAllW
  rw [take_clauses v cs.length hv cs 0 [] h hl (by simp)]
  simp [lacks]
end Go.Proofs.YtlodenfdcckemaaDoor

/-
  The text of a formula, read: the formula (of no program's walk).
-/

namespace Go.Proofs.YtlodenfdcckemaaDoor

/-- The head's line. -/
def headBy (v c : Nat) : Bytes := prefixP ++ (dig v ++ (32 :: dig c))

theorem takeWhile_dig (n : Nat) (l : Bytes) : (dig n ++ 32 :: l).takeWhile (· != 32) = dig n ∧ (dig n ++ 32 :: l).dropWhile (· != 32) = 32 :: l := by
  have h : ∀ b ∈ dig n, (b != 32) = true := fun b hb => by simpa using (figure_byte (dig_mem hb)).2.2.2.1
  generalize dig n = d at h
  induction d with
  | nil => simp
  | cons b d ih =>
    have hb := h b (by simp)
    obtain ⟨h1, h2⟩ := ih (fun c hc => h c (by simp [hc]))
    simp only [List.cons_append, List.takeWhile_cons, List.dropWhile_cons, hb, if_true]
    exact ⟨by rw [h1], h2⟩

theorem headBy_head (v c : Nat) (hv : v < 1000) (hc : c < 1000) : headOf (headBy v c) = some (v, c) := by
  have e1 : (headBy v c).take 6 = prefixP := by unfold headBy; rw [List.take_append_of_le_length (by decide)]; rfl
  have e2 : (headBy v c).drop 6 = dig v ++ 32 :: dig c := by unfold headBy; rw [List.drop_append_of_le_length (by decide)]; rfl
  have e3 : ¬ (headBy v c).length < 6 := by unfold headBy; simp [prefixP]
  obtain ⟨t1, t2⟩ := takeWhile_dig v (dig c)
  unfold headOf
  rw [if_neg (by rw [e1]; simp; omega), e2, if_pos (by simp), t1, t2]
  simp only [List.drop_succ_cons, List.drop_zero]
  rw [dig_figs v hv, dig_figs c hc]

theorem headBy_line (v c : Nat) : ∀ b ∈ headBy v c, b ≠ 10 := by
  intro b hb
  unfold headBy at hb
  rcases List.mem_append.1 hb with h | h
  · clear hb; revert h; revert b; unfold prefixP; decide
  · rcases List.mem_append.1 h with h | h
    · exact (figure_byte (dig_mem h)).1
    · rcases List.mem_cons.1 h with rfl | h
      · decide
      · exact (figure_byte (dig_mem h)).1

/-- The text that reads as a formula. -/
theorem parse_text (v : Nat) (hv : v ≤ 20) (cs : List (List Int)) (hn : cs.length ≤ 200) (h : ∀ c ∈ cs, ∀ l ∈ c, l ≠ 0 ∧ l ≤ v ∧ -(v : Int) ≤ l) (hl : ∀ c ∈ cs, c.length ≤ 20) (ws : List (Bytes × Bytes)) (hw : ws.map (·.1) = cs.flatMap clauseWords) (hg : ∀ p ∈ ws, p.2 ∈ gapsP) :
    parse (headBy v cs.length ++ (10 :: spell ws)) = ⟨v, cs, 0, 0⟩ := by
  have hword : ∀ p ∈ ws, Word p.1 ∧ p.2 ∈ gapsP := fun p hp => by
    refine ⟨?_, hg p hp⟩
    have : p.1 ∈ cs.flatMap clauseWords := by rw [← hw]; exact List.mem_map_of_mem hp
    obtain ⟨c, _, hc⟩ := List.mem_flatMap.1 this
    obtain ⟨l, _, e⟩ := List.mem_map.1 hc
    rw [← e]; exact wordBy_word l
  obtain ⟨r1, r2⟩ := row_word (headBy v cs.length) (10 :: spell ws) (headBy_line v cs.length)
  have e1 : row (10 :: spell ws) = [] := by simp [row]
  have e2 : rest (10 :: spell ws) = spell ws := by simp [rest]
  rw [e1, List.append_nil] at r1
  rw [e2] at r2
  have hrows : rows (headBy v cs.length ++ (10 :: spell ws)) = headBy v cs.length :: rows (spell ws) := by
    rw [rows_eq _ (by simp), r1, r2]
  have hrem : remark (headBy v cs.length) = false := by unfold headBy prefixP; rfl
  unfold parse
  rw [hrows, List.dropWhile_cons, hrem]
  simp only [Bool.false_eq_true, if_false]
  rw [headBy_head v cs.length (by omega) (by omega)]
  have he : headErr (some (v, cs.length)) = 0 := by
    unfold headErr
    simp only
    rw [if_neg (by omega), if_neg (by omega)]
  rw [he]
  simp only [if_true]
  unfold bodyOf
  rw [spell_words ws hword, hw, take_all v hv cs h hl]
  simp
end Go.Proofs.YtlodenfdcckemaaDoor
