/-
  Several texts, one behind the other.
-/
import Derived.Test.YtlodenfdcckemabDoorH6
import Derived.Test.YtlodenfdcckemabDoorH9
import Derived.Deep.RegionWith
import Derived.Deep.QuietTactic
import Derived.BigQuiet
/-
  The walks of the document's way through what follows at once.
-/

namespace Go.Proofs.YtlodenfdcckemabDoor
open Go.RowKit

abbrev bvs (bs : List Bool) : List Value := bs.map Value.bool

theorem bvs_get {bs : List Bool} {i : Nat} (hi : i < bs.length) : (bvs bs).getD i undef = .bool (bs.getD i false) := by simp [hi]

/-- While a clause is gone through. -/
def LeftMid (bs : List Bool) (c : List Int) (one n : Int) : Prop := (n = 0 ∧ ∀ m ∈ c, there bs (-m) = true) ∨ (n = 1 ∧ one ∈ c ∧ there bs (-one) = false ∧ ∀ m ∈ c, there bs (-m) = false → m = one)

theorem LeftMid.num {bs : List Bool} {c : List Int} {one n : Int} (h : LeftMid bs c one n) : 0 ≤ n ∧ n ≤ 1 := by
  rcases h with ⟨h, _⟩ | ⟨h, _⟩ <;> omega

theorem LeftMid.same {bs : List Bool} {c : List Int} {one n x : Int} (h : LeftMid bs c one n) (hx : there bs (-x) = true) : LeftMid bs (c ++ [x]) one n := by
  rcases h with ⟨h1, h2⟩ | ⟨h1, h2, h3, h4⟩
  · refine Or.inl ⟨h1, fun m hm => ?_⟩
    rcases List.mem_append.1 hm with hm | hm
    · exact h2 m hm
    · rw [List.mem_singleton] at hm; rw [hm]; exact hx
  · refine Or.inr ⟨h1, List.mem_append_left _ h2, h3, fun m hm hf => ?_⟩
    rcases List.mem_append.1 hm with hm | hm
    · exact h4 m hm hf
    · rw [List.mem_singleton] at hm; rw [hm, hx] at hf; cases hf

theorem LeftMid.first {bs : List Bool} {c : List Int} {one x : Int} (h : LeftMid bs c one 0) (hx : there bs (-x) = false) : LeftMid bs (c ++ [x]) x 1 := by
  rcases h with ⟨_, h2⟩ | ⟨h1, _⟩
  · refine Or.inr ⟨rfl, by simp, hx, fun m hm hf => ?_⟩
    rcases List.mem_append.1 hm with hm | hm
    · rw [h2 m hm] at hf; cases hf
    · rw [List.mem_singleton] at hm; exact hm
  · omega

theorem LeftMid.again {bs : List Bool} {c : List Int} {one : Int} (h : LeftMid bs c one 1) : LeftMid bs (c ++ [one]) one 1 := by
  rcases h with ⟨h1, _⟩ | ⟨h1, h2, h3, h4⟩
  · omega
  · refine Or.inr ⟨h1, by simp, h3, fun m hm hf => ?_⟩
    rcases List.mem_append.1 hm with hm | hm
    · exact h4 m hm hf
    · rw [List.mem_singleton] at hm; exact hm

theorem LeftMid.two {bs : List Bool} {c d : List Int} {one x : Int} (h : LeftMid bs d one 1) (hd : ∀ m ∈ d, m ∈ c) (hxc : x ∈ c) (hx : there bs (-x) = false) (hne : x ≠ one) : LeftSpec bs c 0 2 := by
  rcases h with ⟨h1, _⟩ | ⟨_, h2, h3, _⟩
  · omega
  · exact Or.inr (Or.inr ⟨rfl, one, hd one h2, x, hxc, fun e => hne e.symm, h3, hx⟩)

theorem LeftMid.spec {bs : List Bool} {c : List Int} {one n : Int} (h : LeftMid bs c one n) : LeftSpec bs c one n.toNat := by
  rcases h with ⟨h1, h2⟩ | ⟨h1, h2⟩
  · exact Or.inl ⟨by omega, h2⟩
  · exact Or.inr (Or.inl ⟨by omega, h2⟩)

theorem take_succ_getD (c : List Int) (k : Nat) (hk : k < c.length) : c.take (k + 1) = c.take k ++ [c.getD k 0] := by
  rw [List.take_succ_eq_append_getElem hk, getD_lt _ _ _ hk]

end Go.Proofs.YtlodenfdcckemabDoor

/-
  The walks of the document's passes over clauses.
-/

namespace Go.Proofs.YtlodenfdcckemabDoor
open Go.RowKit

theorem mem_lists' {cs : List (List Int)} {k : Nat} (hk : k < cs.length) : cs.getD k [] ∈ cs := by rw [getD_lt _ _ _ hk]; exact List.getElem_mem hk

/-- What a pass leaves: the table it found, or one with more in it. -/
structure Passed (V : Nat) (C : List (List Int)) (G : Int → Prop) (bs bs' : List Bool) (again : Bool) (seen : List (List Int)) : Prop where
  come : RCome V C G bs'
  more : ∀ l, IsLit V l → there bs l = true → there bs' l = true
  grown : again = true → room bs' < room bs
  le : room bs' ≤ room bs
  calm : again = false → crash bs' = false → bs' = bs ∧ ∀ c ∈ seen, Dull bs c

theorem Passed.start {V : Nat} {C : List (List Int)} {G : Int → Prop} {bs : List Bool} (h : RCome V C G bs) : Passed V C G bs bs false [] :=
  ⟨h, fun _ _ h => h, (fun h => by cases h), Nat.le_refl _, fun _ _ => ⟨rfl, (fun c hc => by cases hc)⟩⟩

theorem Passed.dull {V : Nat} {C : List (List Int)} {G : Int → Prop} {bs bs' : List Bool} {again : Bool} {seen : List (List Int)} (h : Passed V C G bs bs' again seen) {c : List Int} (hd : Dull bs' c) : Passed V C G bs bs' again (seen ++ [c]) :=
  ⟨h.come, h.more, h.grown, h.le, fun h1 h2 => ⟨(h.calm h1 h2).1, fun d hd' => by
    rcases List.mem_append.1 hd' with h3 | h3
    · exact (h.calm h1 h2).2 d h3
    · rw [List.mem_singleton] at h3
      subst h3
      have e := (h.calm h1 h2).1
      rw [e] at hd
      exact hd⟩⟩

theorem Passed.crashed {V : Nat} (hV : V ≤ 20) {C : List (List Int)} {G : Int → Prop} {bs bs' : List Bool} {again : Bool} {seen : List (List Int)} (h : Passed V C G bs bs' again seen) (hc : Conf C G) (c : List Int) : Passed V C G bs (bs'.set 64 true) again (seen ++ [c]) := by
  have hl := h.come.len
  have hr := room_crash hl
  refine ⟨h.come.crashed hV hc, fun l hl' ht => by rw [there_crash hV hl']; exact h.more l hl' ht, fun ha => Nat.lt_of_le_of_lt hr (h.grown ha), Nat.le_trans hr h.le, fun _ hx => ?_⟩
  rw [crash_crash hl] at hx
  cases hx

theorem Passed.added {V : Nat} (hV : V ≤ 20) {C : List (List Int)} {G : Int → Prop} {bs bs' : List Bool} {again : Bool} {seen : List (List Int)} (h : Passed V C G bs bs' again seen) {l : Int} (hl : IsLit V l) (hf : Fol C G l) (ht : there bs' l = false) (c : List Int) : Passed V C G bs (addL bs' l) true (seen ++ [c]) := by
  have hlen := h.come.len
  have hr := room_addL hV hlen hl ht
  refine ⟨h.come.add hV hl hf, fun m hm htm => by rw [addL_there hV hlen hl hm, h.more m hm htm]; rfl, fun _ => Nat.lt_of_lt_of_le hr h.le, Nat.le_trans (Nat.le_of_lt hr) h.le, fun hx => by cases hx⟩

end Go.Proofs.YtlodenfdcckemabDoor
