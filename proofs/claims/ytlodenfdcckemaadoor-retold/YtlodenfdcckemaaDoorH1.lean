/-
  The reading of a text, on plain lists of bytes.
-/
namespace Go.Proofs.YtlodenfdcckemaaDoor

abbrev Bytes := List UInt8

/-- A line, and what lies behind it. -/
def row (l : Bytes) : Bytes := l.takeWhile (· != 10)
def rest (l : Bytes) : Bytes := (l.dropWhile (· != 10)).drop 1

/-- All lines. -/
def rows : Bytes → List Bytes
  | [] => []
  | b :: l => if b == 10 then [] :: rows l else match rows l with
    | [] => [[b]]
    | r :: rs => (b :: r) :: rs

theorem rows_cons (b : UInt8) (l : Bytes) : rows (b :: l) = if b == 10 then [] :: rows l else match rows l with
    | [] => [[b]]
    | r :: rs => (b :: r) :: rs := rfl

theorem rows_eq (l : Bytes) (h : l ≠ []) : rows l = row l :: rows (rest l) := by
  induction l with
  | nil => exact absurd rfl h
  | cons b l ih =>
    rw [rows_cons]
    by_cases hb : b = 10
    · subst hb
      simp [row, rest]
    · have hbn : (b == 10) = false := by simpa using hb
      simp only [hbn, Bool.false_eq_true, if_false]
      have h1 : row (b :: l) = b :: row l := by simp [row, hb]
      have h2 : rest (b :: l) = rest l := by simp [rest, hb]
      rw [h1, h2]
      cases l with
      | nil => simp [rows, row, rest]
      | cons c l =>
        rw [ih (by simp)]

theorem rest_length (l : Bytes) (h : l ≠ []) : (rest l).length < l.length := by
  have h1 : (l.dropWhile (· != 10)).length ≤ l.length := (List.dropWhile_suffix _).length_le
  unfold rest
  rw [List.length_drop]
  have : 0 < l.length := List.length_pos_iff.2 h
  omega

theorem row_length (l : Bytes) : (row l).length ≤ l.length := (List.takeWhile_prefix _).length_le
theorem rest_le (l : Bytes) : (rest l).length ≤ l.length := by
  by_cases h : l = []
  · subst h; simp [rest]
  · exact Nat.le_of_lt (rest_length l h)

/-- Does a line begin with c? -/
def remark (r : Bytes) : Bool := match r with | [] => false | b :: _ => b == 99

/-- A number of up to six figures. -/
def figure (b : UInt8) : Bool := !(b.toNat < 48) && !(57 < b.toNat)
def value (l : Bytes) : Nat := l.foldl (fun n b => 10 * n + (b.toNat - 48)) 0
def figs (l : Bytes) : Option Nat := if l.length < 1 ∨ 6 < l.length then none else if l.all figure then some (value l) else none

/-- The number that a word is. -/
def num (l : Bytes) : Option Int := match l with
  | [] => none
  | b :: r => if b == 45 then (figs r).map (fun (n : Nat) => -(n : Int)) else (figs (b :: r)).map (fun (n : Nat) => (n : Int))

/-- The words of a line, some bytes of one having come. -/
def blank (b : UInt8) : Bool := b == 32 || b == 9
def fields : Bytes → Bytes → List Bytes
  | cur, [] => if cur.isEmpty then [] else [cur]
  | cur, b :: l => if blank b then (if cur.isEmpty then fields [] l else cur :: fields [] l) else fields (cur ++ [b]) l

/-- The words of lines. -/
def wordsOf (rs : List Bytes) : List Bytes := (rs.filter (fun r => !remark r)).flatMap (fields [])

/-- The head's line: how many variables and clauses. -/
def prefixP : Bytes := [112, 32, 99, 110, 102, 32]
def headOf (r : Bytes) : Option (Nat × Nat) :=
  if r.length < 6 ∨ r.take 6 ≠ prefixP then none else
  if (r.drop 6).contains 32 then
    match figs ((r.drop 6).takeWhile (· != 32)), figs (((r.drop 6).dropWhile (· != 32)).drop 1) with
    | some v, some c => some (v, c)
    | _, _ => none
  else none

/-- Clauses that have ended, and the open one. -/
structure St where
  ended : List (List Int)
  opened : List Int

/-- A word is taken: the error, and what is made. -/
def take1 (v c : Nat) (s : St) (w : Bytes) : Int × St :=
  match num w with
  | none => (2, s)
  | some n =>
    if n.natAbs > v then (6, s) else if s.ended.length = c then (4, s) else
    if n = 0 then (0, ⟨s.ended ++ [s.opened], []⟩) else if s.opened.length = 20 then (5, s) else (0, ⟨s.ended, s.opened ++ [n]⟩)

/-- Words are taken, k having been taken: the error and its place, and what is made. -/
def takeW (v c : Nat) : Nat → St → List Bytes → Int × Int × St
  | _, s, [] => (0, 0, s)
  | k, s, w :: ws => if (take1 v c s w).1 = 0 then takeW v c (k + 1) (take1 v c s w).2 ws else ((take1 v c s w).1, (k : Int) + 1, s)

def lacks (c : Nat) (s : St) : Int := if 0 < s.opened.length then 2 else if s.ended.length < c then 4 else 0

/-- All words are taken. -/
def takeAllW (v c : Nat) (ws : List Bytes) : Int × Int × St :=
  let r := takeW v c 0 ⟨[], []⟩ ws
  if r.1 = 0 then (if lacks c r.2.2 = 0 then r else (lacks c r.2.2, (ws.length : Int) + 1, r.2.2)) else r

/-- What a text says: variables, clauses, the error, its place. -/
structure Said where
  vars : Int
  clauses : List (List Int)
  err : Int
  place : Int

def Said.no (e at' : Int) : Said := ⟨0, [], e, at'⟩

def bodyOf (v c : Nat) (rs : List Bytes) : Said :=
  let r := takeAllW v c (wordsOf rs)
  if r.1 = 0 then ⟨v, r.2.2.ended, 0, 0⟩ else Said.no r.1 r.2.1

def headErr (h : Option (Nat × Nat)) : Int := match h with
  | none => 1
  | some (v, c) => if 20 < v then 3 else if 200 < c then 4 else 0

def parse (l : Bytes) : Said :=
  match (rows l).dropWhile remark with
  | [] => Said.no 1 ((rows l).length + 1)
  | r :: rs => if headErr (headOf r) = 0 then (match headOf r with | some (v, c) => bodyOf v c rs | none => Said.no 1 0) else Said.no (headErr (headOf r)) (((rows l).takeWhile remark).length + 1)

theorem takeW_append (v c : Nat) (k : Nat) (s : St) (ws us : List Bytes) (h : (takeW v c k s ws).1 = 0) : takeW v c k s (ws ++ us) = takeW v c (k + ws.length) (takeW v c k s ws).2.2 us := by
  induction ws generalizing k s with
  | nil => rfl
  | cons w ws ih =>
    simp only [List.cons_append, takeW] at h ⊢
    split
    · rename_i h0
      simp only [h0, if_true] at h
      rw [ih _ _ h, List.length_cons, Nat.add_assoc, Nat.add_comm 1]
    · rename_i h0
      simp only [h0, if_false] at h

theorem takeW_stop (v c : Nat) (k : Nat) (s : St) (ws us : List Bytes) (h : (takeW v c k s ws).1 ≠ 0) : takeW v c k s (ws ++ us) = takeW v c k s ws := by
  induction ws generalizing k s with
  | nil => simp [takeW] at h
  | cons w ws ih =>
    simp only [List.cons_append, takeW] at h ⊢
    split
    · rename_i h0
      simp only [h0, if_true] at h
      exact ih _ _ h
    · rfl

theorem wordsOf_cons (r : Bytes) (rs : List Bytes) : wordsOf (r :: rs) = (if remark r then wordsOf rs else fields [] r ++ wordsOf rs) := by
  unfold wordsOf
  cases h : remark r <;> simp [h]

theorem wordsOf_drop (rs : List Bytes) : wordsOf rs = wordsOf (rs.dropWhile remark) := by
  induction rs with
  | nil => rfl
  | cons r rs ih =>
    rw [List.dropWhile_cons]
    split
    · rename_i h; rw [wordsOf_cons, if_pos h]; exact ih
    · rfl

theorem fields_ne (cur l : Bytes) : ∀ w ∈ fields cur l, w ≠ [] := by
  induction l generalizing cur with
  | nil =>
    intro w hw
    unfold fields at hw
    split at hw
    · simp at hw
    · rename_i h; simp at hw; rw [hw]; intro e; rw [e] at h; exact h rfl
  | cons b l ih =>
    intro w hw
    unfold fields at hw
    split at hw
    · split at hw
      · exact ih _ w hw
      · rename_i h
        rcases List.mem_cons.1 hw with rfl | hw
        · intro e; rw [e] at h; exact h rfl
        · exact ih _ w hw
    · exact ih _ w hw

theorem fields_count (cur l : Bytes) : (fields cur l).length ≤ l.length + 1 := by
  induction l generalizing cur with
  | nil => unfold fields; split <;> simp
  | cons b l ih =>
    unfold fields
    split
    · split
      · have := ih []; simp; omega
      · have := ih []; simp; omega
    · have := ih (cur ++ [b]); simp; omega

theorem rows_length (l : Bytes) : (rows l).length ≤ l.length := by
  induction l with
  | nil => simp [rows]
  | cons b l ih =>
    unfold rows
    split
    · simp; exact ih
    · split
      · simp
      · rename_i r rs e; rw [e] at ih; simp at ih ⊢; omega

def bulk (rs : List Bytes) : Nat := (rs.map (fun r => r.length + 1)).foldr (· + ·) 0
theorem bulk_cons (r : Bytes) (rs : List Bytes) : bulk (r :: rs) = r.length + 1 + bulk rs := rfl
theorem bulk_rows (l : Bytes) : bulk (rows l) ≤ l.length + 1 := by
  induction l with
  | nil => simp [rows, bulk]
  | cons b l ih =>
    unfold rows
    split
    · rw [bulk_cons]; simp; omega
    · split
      · simp [bulk]
      · rename_i r rs e; rw [e, bulk_cons] at ih; rw [bulk_cons]; simp; omega

theorem words_count (rs : List Bytes) : (wordsOf rs).length ≤ bulk rs := by
  induction rs with
  | nil => simp [wordsOf, bulk]
  | cons r rs ih =>
    rw [wordsOf_cons, bulk_cons]
    split
    · omega
    · have := fields_count [] r; rw [List.length_append]; omega

theorem take1_len (v c : Nat) (s : St) (w : Bytes) (h : s.opened.length ≤ 20) (h' : s.ended.length ≤ c) (hc : ∀ x ∈ s.ended, x.length ≤ 20) :
    (take1 v c s w).2.opened.length ≤ 20 ∧ (take1 v c s w).2.ended.length ≤ c ∧ ∀ x ∈ (take1 v c s w).2.ended, x.length ≤ 20 := by
  unfold take1
  split
  · exact ⟨h, h', hc⟩
  · split
    · exact ⟨h, h', hc⟩
    · split
      · exact ⟨h, h', hc⟩
      · split
        · refine ⟨by simp, by simp; omega, fun x hx => ?_⟩
          simp at hx
          rcases hx with hx | rfl
          · exact hc x hx
          · exact h
        · split
          · exact ⟨h, h', hc⟩
          · exact ⟨by simp; omega, h', hc⟩

theorem takeW_len (v c k : Nat) (s : St) (ws : List Bytes) (h : s.opened.length ≤ 20) (h' : s.ended.length ≤ c) (hc : ∀ x ∈ s.ended, x.length ≤ 20) :
    (takeW v c k s ws).2.2.opened.length ≤ 20 ∧ (takeW v c k s ws).2.2.ended.length ≤ c ∧ ∀ x ∈ (takeW v c k s ws).2.2.ended, x.length ≤ 20 := by
  induction ws generalizing k s with
  | nil => exact ⟨h, h', hc⟩
  | cons w ws ih =>
    unfold takeW
    split
    · obtain ⟨a, b, d⟩ := take1_len v c s w h h' hc
      exact ih _ _ a b d
    · exact ⟨h, h', hc⟩

end Go.Proofs.YtlodenfdcckemaaDoor
