/-
  Small walks over texts: a line, figures, a number.
-/
import Derived.Test.YtlodenfdcckemaaDoorH4
import Derived.Test.YtlodenfdcckemaaDoorH3
import Derived.Test.YtlodenfdcckemaaDoorH7
import Derived.Deep.QuietTactic
import Derived.BigQuiet
import Derived.Lib.PathFns
namespace Go.Proofs.YtlodenfdcckemaaDoor
open Go.RowKit

/-- The bytes of a text. -/
abbrev bs (s : ByteArray) : Bytes := s.data.toList

theorem size_bs (s : ByteArray) : s.size = (bs s).length := Lib.size_eq s
theorem bs_at (s : ByteArray) (i : Nat) (h : i < s.size) : (bs s)[i]? = some (s[i]'h) := Lib.Pa.at_eq s i h
theorem bs_ext {s t : ByteArray} (h : bs s = bs t) : s = t := by
  obtain ⟨⟨a⟩⟩ := s
  obtain ⟨⟨b⟩⟩ := t
  simp [bs] at h
  rw [h]
theorem bs_extract (s : ByteArray) (a b : Nat) : bs (s.extract a b) = ((bs s).drop a).take (b - a) := by
  rw [← Lib.extract_toList, Lib.toList_data]

/-- What lies ahead of place k is no new line. -/
def noNl (l : Bytes) (k : Nat) : Prop := ∀ b ∈ l.take k, b ≠ 10

theorem noNl_succ {l : Bytes} {k : Nat} {b : UInt8} (h : noNl l k) (hk : l[k]? = some b) (hb : b ≠ 10) : noNl l (k + 1) := by
  intro c hc
  rw [List.take_add_one, hk] at hc
  simp at hc
  rcases hc with hc | rfl
  · exact h c hc
  · exact hb

theorem row_hit {l : Bytes} {k : Nat} (h : noNl l k) (hk : l[k]? = some 10) : row l = l.take k ∧ rest l = l.drop (k + 1) := by
  have hd : l.drop k = 10 :: l.drop (k + 1) := by
    obtain ⟨hlt, he⟩ := List.getElem?_eq_some_iff.1 hk
    rw [List.drop_eq_getElem_cons hlt, he]
  have e : l = l.take k ++ 10 :: l.drop (k + 1) := by rw [← hd, List.take_append_drop]
  have hall : ∀ b ∈ l.take k, (b != 10) = true := fun b hb => by simpa using h b hb
  constructor
  · unfold row
    conv => lhs; rw [e]
    rw [List.takeWhile_append_of_pos hall]
    simp
  · unfold rest
    conv => lhs; rw [e]
    rw [List.dropWhile_append_of_pos hall]
    simp

theorem takeWhile_all {p : UInt8 → Bool} {l : Bytes} (h : ∀ b ∈ l, p b = true) : l.takeWhile p = l := by
  induction l with
  | nil => rfl
  | cons b l ih =>
    rw [List.takeWhile_cons, if_pos (h b (by simp)), ih (fun c hc => h c (by simp [hc]))]
theorem dropWhile_all {p : UInt8 → Bool} {l : Bytes} (h : ∀ b ∈ l, p b = true) : l.dropWhile p = [] := by
  induction l with
  | nil => rfl
  | cons b l ih =>
    rw [List.dropWhile_cons, if_pos (h b (by simp)), ih (fun c hc => h c (by simp [hc]))]

theorem row_none {l : Bytes} (h : noNl l l.length) : row l = l ∧ rest l = [] := by
  have hall : ∀ b ∈ l, (b != 10) = true := fun b hb => by simpa using h b (by rw [List.take_length]; exact hb)
  constructor
  · unfold row
    exact takeWhile_all hall
  · unfold rest
    rw [dropWhile_all hall]
    rfl

theorem byte_eq (b : UInt8) (n : Nat) (hn : n < 256) : ((b.toNat : Int) == (n : Int)) = (b == UInt8.ofNat n) := by
  rw [Bool.eq_iff_iff]
  simp only [beq_iff_eq]
  constructor
  · intro h
    have h' : b.toNat = n := by omega
    apply UInt8.toNat_inj.1
    rw [h', UInt8.toNat_ofNat', Nat.mod_eq_of_lt hn]
  · intro h
    rw [h, UInt8.toNat_ofNat', Nat.mod_eq_of_lt hn]

set_option maxHeartbeats 1000000 in
theorem line_any (s : ByteArray) (hs : s.size ≤ 4000000) (w : World) :
    Calls Tryd.prog 62 #[.string s] w fun e w' => (∃ a b, e = .returned (.tuple #[.string a, .string b]) ∧ bs a = row (bs s) ∧ bs b = rest (bs s)) ∧ Below w.heap.size w w' := by
  go_enter Tryd.func62, Tryd.ntmps62
  go_wp2
  go_loopw [4] (fun i wr => ∃ (k : Nat), k ≤ s.size ∧ i = .int .i64 k ∧ Hid (noNl (bs s) k) ∧ Below w.heap.size w wr) (fun i _ => s.size - (intOf i).toNat)
  case atStart => exact ⟨0, by omega, rfl, fun b hb => by simp at hb, Below.refl _ _⟩
  case round =>
    obtain ⟨k, hk, rfl, hn, hb⟩ := hrel
    by_cases hlt : k < s.size
    · have hat := bs_at s k hlt
      generalize hbb : s[k] = b at hat
      have hbe := byte_eq b 10 (by decide)
      by_cases h10 : b = 10
      · have hx : ((b.toNat : Int) == 10) = true := by rw [h10]; rfl
        go_wp2
        go_quiet (fail)
        go_wp2
        go_ret2
        obtain ⟨h1, h2⟩ := row_hit hn.out (by rw [hat, h10])
        refine ⟨⟨_, _, rfl, ?_, ?_⟩, below_drewN hb _⟩
        · rw [h1, bs_extract]; simp
        · rw [h2, bs_extract, size_bs, List.take_of_length_le (by simp)]
      · have hx : ((b.toNat : Int) == 10) = false := by
          rw [show ((10 : Int)) = ((10 : Nat) : Int) from rfl, hbe]; simpa using h10
        go_wp2
        go_roundw
        case rel => exact ⟨k + 1, by omega, by go_num, noNl_succ hn.out hat h10, hb⟩
        case measure => simp [intOf]; omega
    · obtain rfl : k = s.size := by omega
      have hnn := hn.out
      rw [size_bs] at hnn
      go_wp2
      go_ret2
      obtain ⟨h1, h2⟩ := row_none hnn
      exact ⟨⟨_, _, rfl, h1.symm, h2.symm⟩, hb⟩
end Go.Proofs.YtlodenfdcckemaaDoor
