/-
  The head's line as the program reads it; lines as it cuts them.
-/
import Derived.Test.YtlodenfdcckemaaDoorH28
import Derived.Lib.IndexBytes
namespace Go.Proofs.YtlodenfdcckemaaDoor
open Go.RowKit

theorem idx (c : UInt8) (l : Bytes) : (Lib.indexByte l c = -1 ∧ l.takeWhile (· != c) = l ∧ l.dropWhile (· != c) = [] ∧ l.contains c = false) ∨
    ∃ k : Nat, Lib.indexByte l c = k ∧ l.takeWhile (· != c) = l.take k ∧ (l.dropWhile (· != c)).drop 1 = l.drop (k + 1) ∧ l.contains c = true := by
  induction l with
  | nil => exact Or.inl ⟨rfl, rfl, rfl, rfl⟩
  | cons b l ih =>
    by_cases hb : b = c
    · subst hb
      exact Or.inr ⟨0, by simp [Lib.indexByte], by simp, by simp, by simp⟩
    · have hbn : (b == c) = false := by simpa using hb
      have hne : (b != c) = true := by simpa using hb
      have hcb : (c == b) = false := by simpa using fun e => hb e.symm
      rcases ih with ⟨h1, h2, h3, h4⟩ | ⟨k, h1, h2, h3, h4⟩
      · refine Or.inl ⟨?_, ?_, ?_, ?_⟩
        · rw [Lib.indexByte, hbn, h1]; rfl
        · rw [List.takeWhile_cons, if_pos hne, h2]
        · rw [List.dropWhile_cons, if_pos hne, h3]
        · rw [List.contains_cons, hcb, h4]; rfl
      · refine Or.inr ⟨k + 1, ?_, ?_, ?_, ?_⟩
        · rw [Lib.indexByte, hbn, h1]
          simp
        · rw [List.takeWhile_cons, if_pos hne, h2]; rfl
        · rw [List.dropWhile_cons, if_pos hne, h3]; rfl
        · rw [List.contains_cons, h4]; simp

theorem cut_row (l : Bytes) : (Lib.cut l [10]).1 = row l ∧ (Lib.cut l [10]).2.1 = rest l := by
  unfold Lib.cut row rest
  rw [Lib.index_one]
  rcases idx 10 l with ⟨h1, h2, h3, h4⟩ | ⟨k, h1, h2, h3, h4⟩
  · rw [h1, if_neg (by decide), h2, h3]; exact ⟨rfl, rfl⟩
  · rw [h1, if_pos (by omega), h2, h3]; simp

theorem splitK_succ (n : Nat) (l : Bytes) : Lib.splitK [32] 0 (n + 1) l = if l.contains 32 then l.takeWhile (· != 32) :: Lib.splitK [32] 0 n ((l.dropWhile (· != 32)).drop 1) else [l] := by
  rw [Lib.splitK, Lib.index_one]
  rcases idx 32 l with ⟨h1, h2, h3, h4⟩ | ⟨k, h1, h2, h3, h4⟩
  · rw [h1, h4]; rfl
  · have hk : ¬ (((k : Int) == -1) = true) := by simp
    rw [h1, h4, if_neg hk, h2, h3]; simp

theorem sp_split {l : Bytes} (h : l.contains 32 = true) : l = l.takeWhile (· != 32) ++ 32 :: (l.dropWhile (· != 32)).drop 1 := by
  induction l with
  | nil => simp at h
  | cons b l ih =>
    by_cases hb : b = 32
    · subst hb; simp
    · have hne : (b != 32) = true := by simpa using hb
      have hl : l.contains 32 = true := by
        rw [List.contains_cons] at h
        rcases Bool.or_eq_true _ _ ▸ h with h | h
        · exact absurd (beq_iff_eq.1 h).symm hb
        · exact h
      rw [List.takeWhile_cons, if_pos hne, List.dropWhile_cons, if_pos hne, List.cons_append, ← ih hl]

/-- What four parts say. -/
def fourSay (a b c d : Bytes) : Option (Nat × Nat) := if a = [112] ∧ b = [99, 110, 102] then (match figs c, figs d with | some v, some n => some (v, n) | _, _ => none) else none

theorem head_four {r a b c d : Bytes} (h : Lib.splitK [32] 0 3 r = [a, b, c, d]) : headOf r = fourSay a b c d := by
  rw [splitK_succ] at h
  split at h
  · rename_i h1
    rw [splitK_succ] at h
    split at h
    · rename_i h2
      rw [splitK_succ] at h
      split at h
      · rename_i h3
        simp only [Lib.splitK, List.cons.injEq, and_true] at h
        obtain ⟨ha, hb, hc, hd⟩ := h
        unfold fourSay
        have e1 := sp_split h1
        have e2 := sp_split h2
        rw [ha] at e1
        rw [hb] at e2
        generalize (List.drop 1 (List.dropWhile (fun x => x != 32) r)) = r1 at *
        generalize (List.drop 1 (List.dropWhile (fun x => x != 32) r1)) = r2 at *
        by_cases hab : a = [112] ∧ b = [99, 110, 102]
        · rw [if_pos hab, e1, e2, hab.1, hab.2]
          unfold headOf
          have hl : ¬ (([112] ++ 32 :: ([99, 110, 102] ++ 32 :: r2) : Bytes).length < 6 ∨ ([112] ++ 32 :: ([99, 110, 102] ++ 32 :: r2) : Bytes).take 6 ≠ prefixP) := by simp [prefixP]
          rw [if_neg hl]
          have hdr : ([112] ++ 32 :: ([99, 110, 102] ++ 32 :: r2) : Bytes).drop 6 = r2 := by simp
          rw [hdr, if_pos h3, hc, hd]
          cases figs c <;> cases figs d <;> rfl
        · rw [if_neg hab]
          unfold headOf
          split
          · rfl
          · rename_i hn
            exfalso
            apply hab
            have hn' : ¬ (r.length < 6) ∧ r.take 6 = prefixP := ⟨fun h => hn (Or.inl h), Classical.byContradiction fun h => hn (Or.inr h)⟩
            have hr : r = prefixP ++ r.drop 6 := by rw [← hn'.2, List.take_append_drop]
            have ha' : r.takeWhile (· != 32) = [112] := by rw [hr]; rfl
            have hb' : r1 = [99, 110, 102, 32] ++ r.drop 6 := by
              have : r = [112] ++ 32 :: r1 := by rw [← ha', ha]; exact e1
              rw [hr] at this
              simp [prefixP] at this
              exact this.symm
            refine ⟨ha ▸ ha', ?_⟩
            rw [← hb, hb']
            rfl
      · simp at h
    · simp at h
  · simp at h

theorem head_less {r : Bytes} (h : (Lib.splitK [32] 0 3 r).length ≠ 4) : headOf r = none := by
  unfold headOf
  split
  · rfl
  · rename_i hn
    have hn' : ¬ (r.length < 6) ∧ r.take 6 = prefixP := ⟨fun h => hn (Or.inl h), Classical.byContradiction fun h => hn (Or.inr h)⟩
    have hr : r = prefixP ++ r.drop 6 := by rw [← hn'.2, List.take_append_drop]
    generalize r.drop 6 = r2 at *
    split
    · rename_i h2
      exfalso
      apply h
      rw [hr]
      have e1 : (prefixP ++ r2).contains 32 = true := rfl
      have e2 : ((prefixP ++ r2).dropWhile (· != 32)).drop 1 = [99, 110, 102, 32] ++ r2 := rfl
      have e3 : (([99, 110, 102, 32] ++ r2 : Bytes)).contains 32 = true := rfl
      have e4 : (([99, 110, 102, 32] ++ r2 : Bytes).dropWhile (· != 32)).drop 1 = r2 := rfl
      rw [splitK_succ, if_pos e1, e2, splitK_succ, if_pos e3, e4, splitK_succ, if_pos h2]
      rfl
    · rfl

def headX (l : Bytes) : Int := if headErr (headOf l) = 0 then headV l else 0
def headY (l : Bytes) : Int := if headErr (headOf l) = 0 then headC l else 0

theorem headX_none {l : Bytes} (h : headOf l = none) : headX l = 0 ∧ headY l = 0 ∧ headErr (headOf l) = 1 := by unfold headX headY; rw [h]; exact ⟨rfl, rfl, rfl⟩

end Go.Proofs.YtlodenfdcckemaaDoor
