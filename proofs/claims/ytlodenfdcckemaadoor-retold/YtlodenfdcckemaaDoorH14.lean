/-
  What follows at once, as the document's answer goes through it (of no program).
-/
import Derived.Test.YtlodenfdcckemaaDoorH13
namespace Go.Proofs.YtlodenfdcckemaaDoor

/-- Where a literal stands in the document's table. -/
def rp (l : Int) : Nat := if l < 0 then (32 - l).toNat else l.toNat

theorem rp_lt {V : Nat} (hV : V ≤ 20) {l : Int} (h : IsLit V l) : rp l < 64 := by obtain ⟨a, b, c⟩ := h; unfold rp; split <;> omega
theorem rp_inj {V : Nat} (hV : V ≤ 20) {l m : Int} (h : IsLit V l) (h' : IsLit V m) (e : rp l = rp m) : l = m := by
  obtain ⟨a, b, c⟩ := h
  obtain ⟨a', b', c'⟩ := h'
  unfold rp at e
  split at e <;> split at e <;> omega

/-- Is a literal in the table? -/
def there (bs : List Bool) (l : Int) : Bool := bs.getD (rp l) false
/-- Is there a conflict? -/
def crash (bs : List Bool) : Bool := bs.getD 64 false

theorem there_set {V : Nat} (hV : V ≤ 20) {bs : List Bool} (hl : bs.length = 65) {l m : Int} (h : IsLit V l) (h' : IsLit V m) : there (bs.set (rp l) true) m = (there bs m || decide (m = l)) := by
  unfold there
  have h1 := rp_lt hV h
  have h2 := rp_lt hV h'
  by_cases e : m = l
  · subst e
    simp [List.getD_eq_getElem?_getD, hl, show rp m < 65 by omega]
  · have : ¬ rp l = rp m := fun hh => e (rp_inj hV h h' hh).symm
    simp [List.getD_eq_getElem?_getD, this, e]

theorem crash_set {V : Nat} (hV : V ≤ 20) {bs : List Bool} {l : Int} (h : IsLit V l) (b : Bool) : crash (bs.set (rp l) b) = crash bs := by
  unfold crash
  have h1 := rp_lt hV h
  have : ¬ rp l = 64 := by omega
  simp [List.getD_eq_getElem?_getD, this]

theorem there_crash {V : Nat} (hV : V ≤ 20) {bs : List Bool} {m : Int} (h : IsLit V m) (b : Bool) : there (bs.set 64 b) m = there bs m := by
  unfold there
  have h1 := rp_lt hV h
  have : ¬ 64 = rp m := by omega
  simp [List.getD_eq_getElem?_getD, this]

theorem crash_crash {bs : List Bool} (hl : bs.length = 65) (b : Bool) : crash (bs.set 64 b) = b := by
  unfold crash
  simp [List.getD_eq_getElem?_getD, hl]

/-- What the document's table holds. -/
structure RCome (V : Nat) (C : List (List Int)) (G : Int → Prop) (bs : List Bool) : Prop where
  len : bs.length = 65
  fol : ∀ l, IsLit V l → there bs l = true → Fol C G l
  conf : crash bs = true → Conf C G
  apart : crash bs = false → ∀ l, IsLit V l → there bs l = true → there bs (-l) = false

/-- The table with a literal more. -/
def addL (bs : List Bool) (l : Int) : List Bool := if there (bs.set (rp l) true) (-l) then (bs.set (rp l) true).set 64 true else bs.set (rp l) true

theorem addL_len (bs : List Bool) (l : Int) : (addL bs l).length = bs.length := by unfold addL; split <;> simp

theorem addL_there {V : Nat} (hV : V ≤ 20) {bs : List Bool} (hl : bs.length = 65) {l m : Int} (h : IsLit V l) (h' : IsLit V m) : there (addL bs l) m = (there bs m || decide (m = l)) := by
  unfold addL
  split
  · rw [there_crash hV h', there_set hV hl h h']
  · rw [there_set hV hl h h']

theorem addL_crash {V : Nat} (hV : V ≤ 20) {bs : List Bool} (hl : bs.length = 65) {l : Int} (h : IsLit V l) : crash (addL bs l) = (crash bs || there bs (-l)) := by
  unfold addL
  have e := there_set hV hl h h.neg
  have : ¬ -l = l := by have := h.1; omega
  simp only [this, decide_false, Bool.or_false] at e
  rw [e]
  split
  · rename_i h1
    rw [crash_crash (by simpa using hl), h1]; simp
  · rename_i h1
    rw [crash_set hV h]
    have h1 : there bs (-l) = false := by simpa using h1
    rw [h1]; simp

theorem RCome.add {V : Nat} (hV : V ≤ 20) {C : List (List Int)} {G : Int → Prop} {bs : List Bool} (h : RCome V C G bs) {l : Int} (hl : IsLit V l) (hf : Fol C G l) : RCome V C G (addL bs l) := by
  refine ⟨by rw [addL_len, h.len], fun m hm ht => ?_, fun hx => ?_, fun hx m hm ht => ?_⟩
  · rw [addL_there hV h.len hl hm, Bool.or_eq_true] at ht
    rcases ht with ht | ht
    · exact h.fol m hm ht
    · have : m = l := by simpa using ht
      rw [this]; exact hf
  · rw [addL_crash hV h.len hl, Bool.or_eq_true] at hx
    rcases hx with hx | hx
    · exact h.conf hx
    · exact .inl ⟨l, hf, h.fol _ hl.neg hx⟩
  · rw [addL_crash hV h.len hl, Bool.or_eq_false_iff] at hx
    rw [addL_there hV h.len hl hm, Bool.or_eq_true] at ht
    rw [addL_there hV h.len hl hm.neg, Bool.or_eq_false_iff]
    rcases ht with ht | ht
    · refine ⟨h.apart hx.1 m hm ht, ?_⟩
      simp only [decide_eq_false_iff_not]
      intro e
      have : m = -l := by omega
      rw [this, hx.2] at ht
      exact absurd ht (by decide)
    · have e : m = l := by simpa using ht
      subst e
      refine ⟨hx.2, ?_⟩
      have := hl.1
      simp only [decide_eq_false_iff_not]
      omega

theorem RCome.crashed {V : Nat} (hV : V ≤ 20) {C : List (List Int)} {G : Int → Prop} {bs : List Bool} (h : RCome V C G bs) (hc : Conf C G) : RCome V C G (bs.set 64 true) := by
  refine ⟨by simpa using h.len, fun m hm ht => ?_, fun _ => hc, fun hx => ?_⟩
  · rw [there_crash hV hm] at ht
    exact h.fol m hm ht
  · rw [crash_crash h.len] at hx
    exact absurd hx (by decide)

theorem RCome.start (V : Nat) (C : List (List Int)) (G : Int → Prop) : RCome V C G (List.replicate 65 false) := by
  have e : ∀ i, (List.replicate 65 false).getD i false = false := fun i => by
    rw [List.getD_eq_getElem?_getD, List.getElem?_replicate]
    split <;> rfl
  refine ⟨by simp, fun m _ ht => ?_, fun hx => ?_, fun _ m _ ht => ?_⟩
  · unfold there at ht; rw [e] at ht; exact absurd ht (by decide)
  · unfold crash at hx; rw [e] at hx; exact absurd hx (by decide)
  · unfold there at ht; rw [e] at ht; exact absurd ht (by decide)

/-- What 'left' tells of a clause. -/
def LeftSpec (bs : List Bool) (c : List Int) (one : Int) (n : Nat) : Prop :=
  (n = 0 ∧ ∀ m ∈ c, there bs (-m) = true) ∨ (n = 1 ∧ one ∈ c ∧ there bs (-one) = false ∧ ∀ m ∈ c, there bs (-m) = false → m = one) ∨ (n = 2 ∧ ∃ a ∈ c, ∃ b ∈ c, a ≠ b ∧ there bs (-a) = false ∧ there bs (-b) = false)

/-- A clause that brings nothing. -/
def Dull (bs : List Bool) (c : List Int) : Prop := (∃ m ∈ c, there bs (-m) = false) ∧ ∀ l ∈ c, (∀ m ∈ c, m ≠ l → there bs (-m) = true) → there bs l = true

theorem LeftSpec.dull1 {bs : List Bool} {c : List Int} {one : Int} (h : LeftSpec bs c one 1) (ht : there bs one = true) : Dull bs c := by
  rcases h with ⟨h, _⟩ | ⟨_, h1, h2, h3⟩ | ⟨h, _⟩
  · omega
  · refine ⟨⟨one, h1, h2⟩, fun l hl hall => ?_⟩
    by_cases e : one = l
    · subst e; exact ht
    · have := hall one h1 e
      rw [h2] at this
      exact absurd this (by decide)
  · omega

theorem LeftSpec.dull2 {bs : List Bool} {c : List Int} {one : Int} (h : LeftSpec bs c one 2) : Dull bs c := by
  rcases h with ⟨h, _⟩ | ⟨h, _⟩ | ⟨_, a, ha, b, hb, hne, h1, h2⟩
  · omega
  · omega
  · refine ⟨⟨a, ha, h1⟩, fun l hl hall => ?_⟩
    by_cases e : a = l
    · have := hall b hb (fun hh => hne (by rw [e, hh]))
      rw [h2] at this
      exact absurd this (by decide)
    · have := hall a ha e
      rw [h1] at this
      exact absurd this (by decide)

theorem RCome.conf0 {V : Nat} {C : List (List Int)} {G : Int → Prop} {bs : List Bool} (h : RCome V C G bs) {c : List Int} (hc : c ∈ C) (hlit : ∀ l ∈ c, IsLit V l) {one : Int} (hs : LeftSpec bs c one 0) : Conf C G := by
  rcases hs with ⟨_, h1⟩ | ⟨h1, _⟩ | ⟨h1, _⟩
  · exact .inr ⟨c, hc, fun m hm => h.fol _ (hlit m hm).neg (h1 m hm)⟩
  · omega
  · omega

theorem RCome.fol1 {V : Nat} {C : List (List Int)} {G : Int → Prop} {bs : List Bool} (h : RCome V C G bs) {c : List Int} (hc : c ∈ C) (hlit : ∀ l ∈ c, IsLit V l) {one : Int} (hs : LeftSpec bs c one 1) : IsLit V one ∧ Fol C G one := by
  rcases hs with ⟨h1, _⟩ | ⟨_, h1, h2, h3⟩ | ⟨h1, _⟩
  · omega
  · refine ⟨hlit one h1, .unit hc h1 fun m hm hne => ?_⟩
    apply h.fol _ (hlit m hm).neg
    cases e : there bs (-m) with
    | true => rfl
    | false => exact absurd (h3 m hm e) hne
  · omega

theorem RCome.shut {V : Nat} {C : List (List Int)} {G : Int → Prop} {bs : List Bool} (h : RCome V C G bs) (hx : crash bs = false) (hC : ∀ c ∈ C, ∀ l ∈ c, IsLit V l) (hG : ∀ l, G l → IsLit V l ∧ there bs l = true) (hd : ∀ c ∈ C, Dull bs c) :
    Shut C G (fun l => IsLit V l ∧ there bs l = true) := by
  refine ⟨hG, fun l hl hl' => ?_, fun c hc => ?_, fun c hc l hl hall => ⟨hC c hc l hl, (hd c hc).2 l hl fun m hm hne => (hall m hm hne).2⟩⟩
  · have := h.apart hx l hl.1 hl.2
    rw [this] at hl'
    exact absurd hl'.2 (by decide)
  · obtain ⟨m, hm, hn⟩ := (hd c hc).1
    exact ⟨m, hm, fun hh => by rw [hn] at hh; exact absurd hh.2 (by decide)⟩

/-- How many places of the table are still free. -/
def room (bs : List Bool) : Nat := 65 - bs.count true

theorem room_set {bs : List Bool} {i : Nat} (hl : bs.length = 65) (hi : i < 65) (h : bs.getD i false = false) : room (bs.set i true) < room bs := by
  unfold room
  have hi' : i < bs.length := by omega
  have h1 : bs[i] = false := by simpa [List.getD_eq_getElem?_getD, hi'] using h
  have h2 : (bs.set i true).count true ≤ (bs.set i true).length := List.count_le_length
  rw [List.length_set, hl] at h2
  rw [List.count_set hi'] at h2 ⊢
  simp [h1] at h2 ⊢
  omega

theorem room_set_le {bs : List Bool} {i : Nat} (hi : i < bs.length) : room (bs.set i true) ≤ room bs := by
  unfold room
  rw [List.count_set hi]
  cases e : bs[i] with
  | false => simp; omega
  | true =>
    have : 0 < bs.count true := List.count_pos_iff.2 (by rw [← e]; exact List.getElem_mem hi)
    simp; omega

theorem room_addL {V : Nat} (hV : V ≤ 20) {bs : List Bool} (hl : bs.length = 65) {l : Int} (h : IsLit V l) (ht : there bs l = false) : room (addL bs l) < room bs := by
  have h1 := rp_lt hV h
  have h2 := room_set hl (by omega : rp l < 65) ht
  unfold addL
  split
  · have := room_set_le (bs := bs.set (rp l) true) (i := 64) (by simp [hl])
    omega
  · exact h2

theorem room_crash {bs : List Bool} (hl : bs.length = 65) : room (bs.set 64 true) ≤ room bs := room_set_le (by omega)

/-! The answer to what follows. -/

/-- The document's answer, and the program's: whether there is a conflict, or what follows. -/
theorem tell_same {V : Nat} (hV : V ≤ 20) {C : List (List Int)} {g : List Int} {S : Nat} {bs : List Bool} (hS : Come V C (fun l => l ∈ g) S) (h1 : Shut C (fun l => l ∈ g) (fun l => IsLit V l ∧ S.testBit (pl l) = true)) (hb : RCome V C (fun l => l ∈ g) bs)
    (h2 : Shut C (fun l => l ∈ g) (fun l => IsLit V l ∧ there bs l = true)) : litsOf 64 S = tellOf V (there bs) := by
  rw [litsOf_short hV hS.small]
  apply litsOf_tell
  intro n hn
  have hlit := atp_lit hn
  cases e : there bs (atp n) with
  | true =>
    have := (h1.fol (hb.fol _ hlit e)).2
    rwa [pl_atp] at this
  | false =>
    cases e2 : S.testBit n with
    | false => rfl
    | true =>
      have := (h2.fol (hS.fol n e2)).2
      rw [e] at this
      exact absurd this (by decide)

end Go.Proofs.YtlodenfdcckemaaDoor
