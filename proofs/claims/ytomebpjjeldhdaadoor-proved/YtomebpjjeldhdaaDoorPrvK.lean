/-
  Elements of a list of lists, in memory, wherever the list itself lies.
-/
import Derived.Test.YtomebpjjeldhdaaDoorAnsK
import Derived.Test.YtomebpjjeldhdaaDoorKAppend
namespace Go.Proofs.YtomebpjjeldhdaaDoor
open Go.RowKit

structure Els (w : World) (N : Nat) (vs : List Value) (cs : List (List Int)) : Prop where
  len : vs.length = cs.length
  els : ∀ i, i < cs.length → ∃ A C, vs.getD i undef = .slice A (cs.getD i []).length C ∧ IntsAt w N A (cs.getD i [])

theorem Els.nil (w : World) (N : Nat) : Els w N [] [] := ⟨rfl, fun i hi => by simp at hi⟩

theorem Els.below {w w' : World} {N : Nat} {vs : List Value} {cs : List (List Int)} (h : Els w N vs cs) (hb : Below N w w') : Els w' N vs cs :=
  ⟨h.len, fun i hi => by obtain ⟨A, C, h1, h2⟩ := h.els i hi; exact ⟨A, C, h1, h2.below hb (Nat.le_refl _)⟩⟩

theorem Els.mono {w : World} {N N' : Nat} {vs : List Value} {cs : List (List Int)} (h : Els w N vs cs) (hb : N ≤ N') : Els w N' vs cs :=
  ⟨h.len, fun i hi => by obtain ⟨A, C, h1, h2⟩ := h.els i hi; exact ⟨A, C, h1, h2.mono hb⟩⟩

theorem Els.append {w : World} {N : Nat} {vs vs' : List Value} {cs cs' : List (List Int)} (h : Els w N vs cs) (h' : Els w N vs' cs') : Els w N (vs ++ vs') (cs ++ cs') := by
  have hl := h.len
  have hl' := h'.len
  refine ⟨by simp [hl, hl'], fun i hi => ?_⟩
  rw [List.length_append] at hi
  by_cases hlt : i < cs.length
  · have := h.els i hlt
    rw [getD_lt _ _ _ (by rw [List.length_append]; omega), List.getElem_append_left (by omega), getD_lt _ _ _ (by rw [List.length_append]; omega), List.getElem_append_left hlt]
    rw [getD_lt _ _ _ (by omega), getD_lt _ _ _ hlt] at this
    exact this
  · have := h'.els (i - cs.length) (by omega)
    rw [getD_lt _ _ _ (by rw [List.length_append]; omega), List.getElem_append_right (by omega), getD_lt _ _ _ (by rw [List.length_append]; omega), List.getElem_append_right (by omega)]
    rw [getD_lt _ _ _ (by omega), getD_lt _ _ _ (by omega)] at this
    simp only [hl]
    exact this

theorem Els.take {w : World} {N : Nat} {vs : List Value} {cs : List (List Int)} (h : Els w N vs cs) (k : Nat) : Els w N (vs.take k) (cs.take k) := by
  have hl := h.len
  refine ⟨by simp [hl], fun i hi => ?_⟩
  rw [List.length_take] at hi
  have := h.els i (by omega)
  rw [getD_lt _ _ _ (by rw [List.length_take]; omega), List.getElem_take, getD_lt _ _ _ (by rw [List.length_take]; omega), List.getElem_take]
  rw [getD_lt _ _ _ (by omega), getD_lt _ _ _ (by omega)] at this
  exact this

theorem Els.one {w : World} {N : Nat} {vs : List Value} {cs : List (List Int)} (h : Els w N vs cs) : ∀ y ∈ vs, y.oneCell' = true := by
  intro y hy
  obtain ⟨i, hi, rfl⟩ := List.getElem_of_mem hy
  obtain ⟨A, C, h1, -⟩ := h.els i (by rw [← h.len]; exact hi)
  rw [getD_lt _ _ _ hi] at h1
  rw [h1]
  rfl

theorem Els.lists {w : World} {N base : Nat} {v : Value} {vs : List Value} {cs : List (List Int)} (h : Els w N vs cs) (hN : N ≤ w.heap.size) (ho : Own w base 24 v vs) : ∃ ao cap, v = .slice ao cs.length cap ∧ ListsAt w w.heap.size ao cs := by
  have hlen := h.len
  rcases ho with ⟨rfl, h0⟩ | ⟨g, cap, rfl, hb, h63, hr⟩
  · have : cs = [] := by rw [h0] at hlen; simpa using hlen.symm
    subst this
    exact ⟨none, 0, rfl, fun h => absurd rfl h⟩
  · refine ⟨some ⟨g, 0, none⟩, cap, by rw [hlen], fun hne => ⟨g, 0, rfl, hr.lt, fun i hi => ?_⟩⟩
    obtain ⟨A, C, h1, h2⟩ := h.els i hi
    exact ⟨A, C, by rw [Nat.zero_add, hr.cell (by omega) undef, h1], h2.mono hN⟩

theorem MadeL.els {w : World} {base : Nat} {v : Value} {vs : List Value} {cs : List (List Int)} (h : MadeL w base v vs cs) : Els w w.heap.size vs cs :=
  ⟨h.len, fun i hi => by obtain ⟨A, C, h1, h2⟩ := (h.ls i (by rw [h.len]; exact hi)).ints (Nat.le_refl _); exact ⟨A, C, h1, h2⟩⟩

theorem MadeS.els {w : World} {base : Nat} {v : Value} {vs : List Value} {cs : List (List Int)} (h : MadeS w base v vs cs) : Els w w.heap.size vs cs :=
  ⟨h.len, fun i hi => by obtain ⟨A, C, h1, h2⟩ := (h.ls i (by rw [h.len]; exact hi)).ints (Nat.le_refl _); exact ⟨A, C, h1, h2⟩⟩

theorem rawC_len (V : Int) (raw : List (List Int)) : (rawC V raw).length ≤ 60 := by unfold rawC; simp; omega

theorem good_append {V : Nat} {a b : List (List Int)} (ha : Good V a) (hb : Good V b) (h1 : a.length ≤ 60) (h2 : b.length ≤ 60) : Good V (a ++ b) := by
  refine ⟨ha.vars, by rw [List.length_append]; omega, fun c hc => ?_, fun c hc => ?_⟩
  · rcases List.mem_append.1 hc with h | h
    · exact ha.long c h
    · exact hb.long c h
  · rcases List.mem_append.1 hc with h | h
    · exact ha.lits c h
    · exact hb.lits c h

theorem dbl_take (p : List (List Int)) (i : Nat) (h : i < p.length) : dbl (p.take (i + 1)) = dbl (p.take i) ++ [p.getD i [], p.getD i []] := by
  rw [take_succ_lists p i h]
  unfold dbl
  rw [List.flatMap_append]
  simp

theorem rawC_steps {V : Nat} (h1 : 1 ≤ V) (h2 : V ≤ 20) (raw : List (List Int)) : ∀ s ∈ rawC V raw, clauseFault V s = 0 ∧ ∀ l ∈ s, l ≠ 0 := fun s hs => by
  have hg := rawC_good h1 h2 raw
  exact ⟨fault_of_lits (hg.long s hs) (hg.lits s hs), fun l hl => (hg.lits s hs l hl).1⟩

theorem proof_three {V : Nat} {C ms ps : List (List Int)} (hp : ∃ p0, ps = p0 ++ [[]]) (h : checkOf V C 0 ps = ((ps.length : Int), 0)) : checkOf V (ms ++ C) 0 ps = ((ps.length : Int), 0) ∧ checkOf V C 0 (ps.take (ps.length - 1)) = (((ps.length - 1 : Nat) : Int), 8) ∧ checkOf V C 0 (dbl ps) = (((2 * ps.length - 1 : Nat) : Int), 0) ∧ 1 ≤ ps.length := by
  obtain ⟨p0, rfl⟩ := hp
  have hl : (p0 ++ [[]]).length = p0.length + 1 := by simp
  have h' : checkOf V C 0 (p0 ++ [[]]) = (((0 + p0.length + 1 : Nat) : Int), 0) := by rw [h, hl, Nat.zero_add]
  refine ⟨?_, ?_, ?_, by omega⟩
  · rw [check_more _ C _ 0 (fun c hc => List.mem_append_right _ hc) (by rw [h]), h]
  · rw [hl, Nat.add_sub_cancel, List.take_left, check_cut p0 C 0 h', Nat.zero_add]
  · rw [check_dbl p0 C C 0 0 (fun c hc => hc) h', hl]
    congr 2
    omega

def dblV (vs : List Value) : List Value := vs.flatMap fun v => [v, v]

theorem dblV_take (vs : List Value) (i : Nat) (h : i < vs.length) : dblV (vs.take (i + 1)) = dblV (vs.take i) ++ [vs.getD i undef, vs.getD i undef] := by
  have : vs.take (i + 1) = vs.take i ++ [vs.getD i undef] := by rw [getD_lt _ _ _ h, List.take_add_one, List.getElem?_eq_getElem h]; rfl
  rw [this]
  unfold dblV
  rw [List.flatMap_append]
  simp

theorem dblV_len (vs : List Value) : (dblV vs).length = 2 * vs.length := by
  induction vs with
  | nil => rfl
  | cons s r ih => simp only [dblV, List.flatMap_cons, List.length_append, List.length_cons, List.length_nil] at ih ⊢; omega

theorem Els.dbl {w : World} {N : Nat} {vs : List Value} {cs : List (List Int)} (h : Els w N vs cs) : Els w N (dblV vs) (dbl cs) := by
  have hl := h.len
  have key : ∀ k, k ≤ cs.length → Els w N (dblV (vs.take k)) (Go.Proofs.YtomebpjjeldhdaaDoor.dbl (cs.take k)) := by
    intro k
    induction k with
    | zero => intro _; exact Els.nil _ _
    | succ k ih =>
      intro hk
      rw [dblV_take vs k (by omega), dbl_take cs k (by omega)]
      refine (ih (by omega)).append ⟨rfl, fun i hi => ?_⟩
      have := h.els k (by omega)
      match i, hi with
      | 0, _ => exact this
      | 1, _ => exact this
      | n + 2, h => exact absurd h (by simp)
  have := key cs.length (Nat.le_refl _)
  rw [List.take_length] at this
  rw [← hl, List.take_length] at this
  exact this

/-- A list in a formula's box that is appended to. -/
theorem app_put {W8 w10 w11 : World} {Gb : Nat} {V v9 v11 : Value} {xs ys : List Value} (hG : Blk w10 Gb 31 [V, v9]) (hC : Chg (fun k => k = Gb) W8 w10) (hO9 : Own w10 W8.heap.size 24 v9 xs) (hO : Own w11 W8.heap.size 24 v11 ys) (hg : w10.grownBy w11 v9.ownBlock) :
    Blk w11 Gb 31 [V, v9] ∧ Chg (fun k => k = Gb) W8 w11 ∧ Blk (w11.setCell ⟨Gb, 1, none⟩ v11) Gb 31 [V, v11] ∧ Own (w11.setCell ⟨Gb, 1, none⟩ v11) W8.heap.size 24 v11 ys ∧ Chg (fun k => k = Gb) W8 (w11.setCell ⟨Gb, 1, none⟩ v11) := by
  have c : Chg (fun k => v9.ownBlock = some k) w10 w11 := Chg.of_grown hg (fun k e => e) (fun k e o ho => hO9.cells e o ho)
  have G11 := hG.chg c (own_blk hO9 hG (by decide))
  have ht : TChg (fun t => t = 31) w11 (w11.setCell ⟨Gb, 1, none⟩ v11) := ⟨fun k => k = Gb, (Chg.refl (fun k => k = Gb) w11).setB Gb 1 rfl _, fun b e _ => by obtain rfl : b = Gb := e; exact ⟨_, _, G11, rfl⟩⟩
  have h11 : Chg (fun k => k = Gb) W8 w11 := hC.trans2 c (fun i hi e => by have := (hO9.lt e).1; omega)
  exact ⟨G11, h11, G11.set 1 v11, ht.own hO (by decide), h11.setB Gb 1 rfl _⟩
end Go.Proofs.YtomebpjjeldhdaaDoor
