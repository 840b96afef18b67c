/-
  The head's line as the document's answer reads it.
-/
import Derived.Test.YtlodenfdcckemaaDoorH57
namespace Go.Proofs.YtlodenfdcckemaaDoor
open Go.RowKit

def headV (l : Bytes) : Int := match headOf l with | some (v, _) => v | none => -1
def headC (l : Bytes) : Int := match headOf l with | some (_, c) => c | none => -1

/-- What lies ahead of place k is no blank. -/
def noSp (l : Bytes) (k : Nat) : Prop := ∀ b ∈ l.take k, b ≠ 32

theorem noSp_succ {l : Bytes} {k : Nat} {b : UInt8} (h : noSp l k) (hk : l[k]? = some b) (hb : b ≠ 32) : noSp l (k + 1) := by
  intro c hc
  rw [List.take_add_one, hk] at hc
  simp at hc
  rcases hc with hc | rfl
  · exact h c hc
  · exact hb

theorem sp_hit {l : Bytes} {k : Nat} (h : noSp l k) (hk : l[k]? = some 32) : l.contains 32 = true ∧ l.takeWhile (· != 32) = l.take k ∧ (l.dropWhile (· != 32)).drop 1 = l.drop (k + 1) := by
  have hd : l.drop k = 32 :: l.drop (k + 1) := by
    obtain ⟨hlt, he⟩ := List.getElem?_eq_some_iff.1 hk
    rw [List.drop_eq_getElem_cons hlt, he]
  have e : l = l.take k ++ 32 :: l.drop (k + 1) := by rw [← hd, List.take_append_drop]
  have hall : ∀ b ∈ l.take k, (b != 32) = true := fun b hb => by simpa using h b hb
  refine ⟨?_, ?_, ?_⟩
  · rw [e]; simp
  · conv => lhs; rw [e]
    rw [List.takeWhile_append_of_pos hall]
    simp
  · conv => lhs; rw [e]
    rw [List.dropWhile_append_of_pos hall]
    simp

theorem sp_none {l : Bytes} (h : noSp l l.length) : l.contains 32 = false := by
  rw [List.contains_eq_any_beq, List.any_eq_false]
  intro b hb
  have := h b (by rw [List.take_length]; exact hb)
  simp
  exact fun e => this e.symm

theorem head_short {l : Bytes} (h : l.length < 6) : headOf l = none := by unfold headOf; rw [if_pos (Or.inl h)]
theorem head_other {l : Bytes} (h : l.take 6 ≠ prefixP) : headOf l = none := by unfold headOf; rw [if_pos (Or.inr h)]
theorem head_hit {l : Bytes} {k : Nat} (h6 : 6 ≤ l.length) (hp : l.take 6 = prefixP) (h : noSp (l.drop 6) k) (hk : (l.drop 6)[k]? = some 32) :
    headOf l = match figs ((l.drop 6).take k), figs ((l.drop 6).drop (k + 1)) with | some v, some c => some (v, c) | _, _ => none := by
  obtain ⟨a, b, c⟩ := sp_hit h hk
  unfold headOf
  rw [if_neg (fun h => h.elim (fun h => absurd h (by omega)) (fun h => h hp)), if_pos a, b, c]
  cases figs (List.take k (List.drop 6 l)) <;> cases figs (List.drop (k + 1) (List.drop 6 l)) <;> rfl
theorem head_none {l : Bytes} (h : noSp (l.drop 6) (l.drop 6).length) : headOf l = none := by
  unfold headOf
  split
  · rfl
  · rw [sp_none h]; rfl

theorem figsI_neg {l : Bytes} : figsI l < 0 ↔ figs l = none := by
  unfold figsI
  cases figs l with
  | none => simp
  | some n => simp
theorem figsI_some {l : Bytes} {n : Nat} (h : figs l = some n) : figsI l = n := by unfold figsI; rw [h]
theorem figsI_le (l : Bytes) : -1 ≤ figsI l ∧ figsI l ≤ 999999 := by
  unfold figsI
  cases h : figs l with
  | none => decide
  | some n => have := figs_le h; simp; omega

theorem headV_none {l : Bytes} (h : headOf l = none) : headV l = -1 ∧ headC l = -1 := by unfold headV headC; rw [h]; exact ⟨rfl, rfl⟩

set_option maxHeartbeats 2000000 in
theorem refHead_any (s : ByteArray) (hs : s.size ≤ 4000000) (w : World) :
    Calls Tryd.prog 63 #[.string s] w fun e w' => e = .returned (.tuple #[.int .i64 (headV (bs s)), .int .i64 (headC (bs s))]) ∧ w' = w := by
  by_cases h6 : s.size < 6
  · have hE : Hid (headV (bs s) = -1 ∧ headC (bs s) = -1) := headV_none (head_short (l := bs s) (by rw [← size_bs]; exact h6))
    skip
    go_enter Tryd.func63, Tryd.ntmps63
    go_wp2
    go_ret2
    exact ⟨by rw [hE.out.1, hE.out.2]; rfl, rfl⟩
  · have hpl : (s.extract 0 6).toList = (bs s).take 6 := by rw [Lib.extract_toList]; rfl
    by_cases hp : (bs s).take 6 = prefixP
    · have hq : ((s.extract 0 6).toList == [112, 32, 99, 110, 102, 32]) = true := by rw [hpl, hp]; rfl
      have hx : bs (s.extract 6 s.size) = (bs s).drop 6 := by rw [bs_extract, size_bs, List.take_of_length_le (by simp)]
      have hxs : (s.extract 6 s.size).size ≤ 4000000 := by rw [size_bs, hx, List.length_drop, ← size_bs]; omega
      have h6' : 6 ≤ (bs s).length := by rw [← size_bs]; omega
      have hp' : Hid ((bs s).take 6 = prefixP) := hp
      clear hpl hp
      go_enter Tryd.func63, Tryd.ntmps63
      go_wp2
      clear hq
      generalize s.extract 6 s.size = s1 at *
      go_loop [4] (fun i => ∃ (k : Nat), k ≤ s1.size ∧ i = .int .i64 k ∧ Hid (noSp (bs s1) k)) (fun i => s1.size - (intOf i).toNat)
      case atStart => exact ⟨0, by omega, rfl, fun b hb => by simp at hb⟩
      case round =>
        obtain ⟨k, hk, rfl, hn⟩ := hrel
        by_cases hlt : k < s1.size
        · have hat := bs_at s1 k hlt
          generalize hbb : s1[k] = b at hat
          have hbe := byte_eq b 32 (by decide)
          by_cases h32 : b = 32
          · have hz : ((b.toNat : Int) == 32) = true := by rw [h32]; rfl
            have hA : (s1.extract 0 k).size ≤ 4000000 := by rw [size_bs, bs_extract, List.length_take, List.length_drop, ← size_bs]; omega
            have hB : (s1.extract (k + 1) s1.size).size ≤ 4000000 := by
              rw [size_bs, bs_extract, List.length_take, List.length_drop, ← size_bs]; omega
            have eA : bs (s1.extract 0 k) = ((bs s).drop 6).take k := by rw [bs_extract, hx, Nat.sub_zero, List.drop_zero]
            have eB : bs (s1.extract (k + 1) s1.size) = ((bs s).drop 6).drop (k + 1) := by rw [bs_extract, hx, List.take_of_length_le (by rw [size_bs, hx, List.length_drop]; exact Nat.le_refl _)]
            have hh := head_hit h6' hp'.out (by rw [← hx]; exact hn.out) (by rw [← hx, hat, h32])
            rw [← eA, ← eB] at hh
            have hH : Hid (headOf (bs s) = match figs (bs (s1.extract 0 k)), figs (bs (s1.extract (k + 1) s1.size)) with | some v, some c => some (v, c) | _, _ => none) := hh
            have lA := figsI_le (bs (s1.extract 0 k))
            have lB := figsI_le (bs (s1.extract (k + 1) s1.size))
            clear eA eB hh hx
            generalize hsA : s1.extract 0 k = sA at *
            generalize hsB : s1.extract (k + 1) s1.size = sB at *
            by_cases hA0 : figsI (bs sA) < 0
            · have hE : Hid (headV (bs s) = -1 ∧ headC (bs s) = -1) := headV_none (l := bs s) (by rw [hH.out, figsI_neg.1 hA0])
              skip
              go_wp2_with (first
                | (go_at_call 90; refine (refFigures_any sA hA _).mono ?_; clear hA; rintro e w' ⟨rfl, rfl⟩)
                | (go_at_call 90; refine (refFigures_any sB hB _).mono ?_; rintro e w' ⟨rfl, rfl⟩))
              go_ret2
              exact ⟨by rw [hE.out.1, hE.out.2]; rfl, rfl⟩
            · by_cases hB0 : figsI (bs sB) < 0
              · have hE : Hid (headV (bs s) = -1 ∧ headC (bs s) = -1) := headV_none (l := bs s) (by
                  rw [hH.out, figsI_neg.1 hB0]
                  cases figs (bs sA) <;> rfl)
                skip
                go_wp2_with (first
                  | (go_at_call 90; refine (refFigures_any sA hA _).mono ?_; clear hA; rintro e w' ⟨rfl, rfl⟩)
                  | (go_at_call 90; refine (refFigures_any sB hB _).mono ?_; rintro e w' ⟨rfl, rfl⟩))
                go_ret2
                exact ⟨by rw [hE.out.1, hE.out.2]; rfl, rfl⟩
              · have hv : headV (bs s) = figsI (bs sA) ∧ headC (bs s) = figsI (bs sB) := by
                  have hHo := hH.out
                  unfold headV headC
                  rw [hHo]
                  cases hfA : figs (bs sA) with
                  | none => exact absurd (figsI_neg.2 hfA) hA0
                  | some x =>
                    cases hfB : figs (bs sB) with
                    | none => exact absurd (figsI_neg.2 hfB) hB0
                    | some y => exact ⟨(figsI_some hfA).symm, (figsI_some hfB).symm⟩
                have hE : Hid (headV (bs s) = figsI (bs sA) ∧ headC (bs s) = figsI (bs sB)) := hv
                clear hv
                go_wp2_with (first
                  | (go_at_call 90; refine (refFigures_any sA hA _).mono ?_; clear hA; rintro e w' ⟨rfl, rfl⟩)
                  | (go_at_call 90; refine (refFigures_any sB hB _).mono ?_; rintro e w' ⟨rfl, rfl⟩))
                go_ret2
                exact ⟨by rw [hE.out.1, hE.out.2]; rfl, rfl⟩
          · have hz : ((b.toNat : Int) == 32) = false := by
              rw [show ((32 : Int)) = ((32 : Nat) : Int) from rfl, hbe]; simpa using h32
            go_wp2
            refine ⟨⟨k + 1, by omega, by go_num, noSp_succ hn.out hat h32⟩, ?_⟩
            simp [intOf]; omega
        · obtain rfl : k = s1.size := by omega
          have hnn := hn.out
          rw [size_bs, hx] at hnn
          have hE : Hid (headV (bs s) = -1 ∧ headC (bs s) = -1) := headV_none (head_none hnn)
          skip
          go_wp2
          go_ret2
          exact ⟨by rw [hE.out.1, hE.out.2]; rfl, rfl⟩
    · have hq : ((s.extract 0 6).toList == [112, 32, 99, 110, 102, 32]) = false := by rw [hpl]; simpa [prefixP] using hp
      have hE : Hid (headV (bs s) = -1 ∧ headC (bs s) = -1) := headV_none (head_other hp)
      clear hpl hp
      go_enter Tryd.func63, Tryd.ntmps63
      go_wp2
      go_ret2
      exact ⟨by rw [hE.out.1, hE.out.2]; rfl, rfl⟩
end Go.Proofs.YtlodenfdcckemaaDoor
