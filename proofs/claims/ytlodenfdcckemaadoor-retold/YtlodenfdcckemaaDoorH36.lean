/-
  The walks of the heap.
-/
import Derived.Test.YtlodenfdcckemaaDoorH35
import Derived.Deep.AppendLies
import Derived.Deep.DrawnRows
import Derived.BigRegion
namespace Go.Proofs.YtlodenfdcckemaaDoor
open Go.RowKit

attribute [local go_sem] run_store_float

/-- A variable and its weight in parts. -/
abbrev Itm : Type := Int × Nat

/-- Is a ahead of b: heavier, or as heavy and lesser? -/
def aheadOf (a b : Itm) : Bool := decide (b.2 < a.2) || (a.2 == b.2 && decide (a.1 < b.1))

def itm (a : Itm) : List Value := [.int .i64 a.1, .float .f64 (Fl.W a.2)]
def flat (l : List Itm) : List Value := l.flatMap itm

theorem order_lt {p q : Nat} (hp : p < 9007199254740992) (hq : q < 9007199254740992) (h : p < q) : FloatKind.f64.format.order (Fl.W p) (Fl.W q) = some .lt := by
  show Ieee.double.order _ _ = _
  rw [Fl.order_W p q hp hq, Nat.compare_eq_lt.2 h]
theorem order_gt {p q : Nat} (hp : p < 9007199254740992) (hq : q < 9007199254740992) (h : q < p) : FloatKind.f64.format.order (Fl.W p) (Fl.W q) = some .gt := by
  show Ieee.double.order _ _ = _
  rw [Fl.order_W p q hp hq, Nat.compare_eq_gt.2 h]
theorem order_eq {p : Nat} (hp : p < 9007199254740992) : FloatKind.f64.format.order (Fl.W p) (Fl.W p) = some .eq := by
  show Ieee.double.order _ _ = _
  rw [Fl.order_W p p hp hp, Nat.compare_eq_eq.2 rfl]

set_option maxHeartbeats 400000 in
theorem heavier_any (a b : Itm) (w : World) (ha : a.2 < 9007199254740992) (hb : b.2 < 9007199254740992) :
    Calls Tryd.prog 126 #[.agg #[.int .i64 a.1, .float .f64 (Fl.W a.2)], .agg #[.int .i64 b.1, .float .f64 (Fl.W b.2)]] w fun e w' => e = .returned (.bool (aheadOf a b)) ∧ Below w.heap.size w w' := by
  obtain ⟨x, p⟩ := a
  obtain ⟨y, q⟩ := b
  simp only at ha hb
  have hw : Hid (∀ O O', Below w.heap.size w ((w.alloc O).alloc O')) := fun O O' => ((Below.refl _ _).alloc (Nat.le_refl _) O).alloc (by simp) O'
  rcases Nat.lt_trichotomy p q with h | h | h
  · have hf : Hid (aheadOf (x, p) (y, q) = false) := by unfold Hid; simp [aheadOf]; omega
    have ho := order_lt ha hb h
    clear ha hb h
    go_enter Tryd.func126, Tryd.ntmps126
    go_wp2
    go_ret
    exact ⟨by rw [hf.out]; rfl, hw.out _ _⟩
  · subst h
    have hf : Hid (aheadOf (x, p) (y, p) = decide (x < y)) := by unfold Hid; simp [aheadOf]
    have ho := order_eq ha
    clear ha hb
    go_enter Tryd.func126, Tryd.ntmps126
    go_wp2
    go_ret
    exact ⟨by rw [hf.out]; rfl, hw.out _ _⟩
  · have hf : Hid (aheadOf (x, p) (y, q) = true) := by unfold Hid; simp [aheadOf]; omega
    have ho := order_gt ha hb h
    clear ha hb h
    go_enter Tryd.func126, Tryd.ntmps126
    go_wp2
    go_ret
    exact ⟨by rw [hf.out]; rfl, hw.out _ _⟩

/-- The value of the function 'heavier'. -/
def ahead : Value := .func (.func 126) #[] #[]

/-- The heap at block H holds the items its, which lie at block g, with room for cap. -/
structure HeapIn (w : World) (H g cap : Nat) (its : List Itm) : Prop where
  head : Blk w H 181 [ahead, .slice (some ⟨g, 0, none⟩) its.length cap]
  row : ∃ rest, Blk w g 170 (flat its ++ rest) ∧ (flat its ++ rest).length = cap * 2
  lt : H < g
  cap63 : cap ≤ maxLen
  le : its.length ≤ cap
  some20 : its.length ≤ 20
  some : ∀ a ∈ its, a.2 < 9007199254740992

theorem HeapIn.ne {w : World} {H g cap : Nat} {its : List Itm} (h : HeapIn w H g cap its) : g ≠ H := by have := h.lt; omega
theorem HeapIn.glt {w : World} {H g cap : Nat} {its : List Itm} (h : HeapIn w H g cap its) : g < w.heap.size := h.row.elim fun _ hr => hr.1.lt

theorem flat_length (l : List Itm) : (flat l).length = l.length * 2 := by
  induction l with
  | nil => rfl
  | cons a l ih => simp only [flat, List.flatMap_cons, List.length_append, List.length_cons] at *; simp [itm, ih]; omega

theorem flat_cons (a : Itm) (l : List Itm) : flat (a :: l) = .int .i64 a.1 :: .float .f64 (Fl.W a.2) :: flat l := rfl

theorem flat_even : ∀ (l : List Itm) (rest : List Value) (i : Nat) (d : Itm), i < l.length → (flat l ++ rest).getD (i * 2) undef = .int .i64 (l.getD i d).1
  | a :: l, rest, 0, d, _ => rfl
  | a :: l, rest, i + 1, d, h => by
    rw [flat_cons, show (i + 1) * 2 = i * 2 + 1 + 1 by omega]
    exact flat_even l rest i d (by simpa using h)
  | [], _, _, _, h => by simp at h
theorem flat_odd : ∀ (l : List Itm) (rest : List Value) (i : Nat) (d : Itm), i < l.length → (flat l ++ rest).getD (i * 2 + 1) undef = .float .f64 (Fl.W (l.getD i d).2)
  | a :: l, rest, 0, d, _ => rfl
  | a :: l, rest, i + 1, d, h => by
    rw [flat_cons, show (i + 1) * 2 + 1 = i * 2 + 1 + 1 + 1 by omega]
    exact flat_odd l rest i d (by simpa using h)
  | [], _, _, _, h => by simp at h
theorem flat_set : ∀ (l : List Itm) (rest : List Value) (i : Nat) (a : Itm), i < l.length → ((flat l ++ rest).set (i * 2) (.int .i64 a.1)).set (i * 2 + 1) (.float .f64 (Fl.W a.2)) = flat (l.set i a) ++ rest
  | b :: l, rest, 0, a, _ => rfl
  | b :: l, rest, i + 1, a, h => by
    rw [flat_cons, show (i + 1) * 2 = i * 2 + 1 + 1 by omega]
    simp only [List.cons_append, List.set_cons_succ, flat_cons]
    rw [flat_set l rest i a (by simpa using h)]
  | [], _, _, _, h => by simp at h

def swapL (l : List Itm) (a b : Nat) : List Itm := (l.set a (l.getD b (0, 0))).set b (l.getD a (0, 0))

theorem HeapIn.cells {w : World} {H g cap : Nat} {its : List Itm} (h : HeapIn w H g cap its) {i : Nat} (hi : i < its.length) :
    w.cell? ⟨g, i * 2, none⟩ = .some (.int .i64 (its.getD i (0, 0)).1) ∧ w.cell? ⟨g, i * 2 + 1, none⟩ = .some (.float .f64 (Fl.W (its.getD i (0, 0)).2)) ∧ w.frozen? ⟨g, i * 2, none⟩ = false ∧ w.frozen? ⟨g, i * 2 + 1, none⟩ = false := by
  obtain ⟨rest, hr, _⟩ := h.row
  have hl := flat_length its
  refine ⟨?_, ?_, hr.frozen _, hr.frozen _⟩
  · rw [hr.cell (i := i * 2) (by simp; omega) undef, flat_even its rest i (0, 0) hi]
  · rw [hr.cell (i := i * 2 + 1) (by simp; omega) undef, flat_odd its rest i (0, 0) hi]

theorem HeapIn.fn {w : World} {H g cap : Nat} {its : List Itm} (h : HeapIn w H g cap its) : w.cell? ⟨H, 0, none⟩ = .some ahead := h.head.cell (i := 0) (by simp) undef
theorem HeapIn.items {w : World} {H g cap : Nat} {its : List Itm} (h : HeapIn w H g cap its) : w.cell? ⟨H, 1, none⟩ = .some (.slice (.some ⟨g, 0, none⟩) its.length cap) := h.head.cell (i := 1) (by simp) undef

theorem HeapIn.put {w : World} {H g cap : Nat} {its : List Itm} (h : HeapIn w H g cap its) {i : Nat} (hi : i < its.length) (a : Itm) (ha : a.2 < 9007199254740992) :
    HeapIn ((w.setCell ⟨g, i * 2, none⟩ (.int .i64 a.1)).setCell ⟨g, i * 2 + 1, none⟩ (.float .f64 (Fl.W a.2))) H g cap (its.set i a) := by
  obtain ⟨rest, hr, hrl⟩ := h.row
  have hne := h.ne
  refine ⟨?_, ⟨rest, ?_, ?_⟩, h.lt, h.cap63, by simpa using h.le, by simpa using h.some20, fun b hb => ?_⟩
  · have := (h.head.setOther (a := ⟨g, i * 2, none⟩) (fun e => hne e.symm) (.int .i64 a.1)).setOther (a := ⟨g, i * 2 + 1, none⟩) (fun e => hne e.symm) (.float .f64 (Fl.W a.2))
    simpa using this
  · have := (hr.set (i * 2) (.int .i64 a.1)).set (i * 2 + 1) (.float .f64 (Fl.W a.2))
    rwa [flat_set its rest i a hi] at this
  · rw [List.length_append, flat_length] at *; simpa using hrl
  · rcases List.mem_or_eq_of_mem_set hb with hb | rfl
    · exact h.some b hb
    · exact ha

theorem HeapIn.drew {w : World} {H g cap : Nat} {its : List Itm} (h : HeapIn w H g cap its) : HeapIn w.drew H g cap its := ⟨h.head, h.row, h.lt, h.cap63, h.le, h.some20, h.some⟩

theorem HeapIn.at' {w : World} {H g cap : Nat} {its : List Itm} (h : HeapIn w H g cap its) {i : Nat} (hi : i < its.length) : (its.getD i (0, 0)).2 < 9007199254740992 := by
  rw [getD_lt _ _ _ hi]; exact h.some _ (List.getElem_mem hi)

theorem grown_refl (w : World) (r : Option Nat) : w.grownBy w r := ⟨rfl, rfl, rfl, Nat.le_refl _, fun _ _ _ => rfl⟩
theorem grown_set {w w' : World} {g : Nat} (h : w.grownBy w' (some g)) (i : Nat) (v : Value) : w.grownBy (w'.setCell ⟨g, i, none⟩ v) (some g) :=
  ⟨h.os, h.tape, h.output, by simpa [World.setCell] using h.size, fun k hk hne => (Below.heap_setCell _ _ _ _ (fun e => hne (congrArg some e))).trans (h.block k hk hne)⟩
theorem grown_drew {w w' : World} {r : Option Nat} (h : w.grownBy w' r) : w.grownBy w'.drew r := ⟨h.os, h.tape, h.output, h.size, h.block⟩

set_option maxHeartbeats 1000000 in
theorem swap_any (H g cap : Nat) (its : List Itm) (a b : Nat) (w : World) (h : HeapIn w H g cap its) (ha : a < its.length) (hb : b < its.length) (hab : a ≠ b) :
    Calls Tryd.prog 146 #[.pointer (some ⟨H, 0, none⟩), .int .i64 a, .int .i64 b] w fun e w' => e = .returned (.tuple #[]) ∧ HeapIn w' H g cap (swapL its a b) ∧ w.grownBy w' (some g) := by
  have hit := h.items
  obtain ⟨a0, a1, fa0, fa1⟩ := h.cells ha
  obtain ⟨b0, b1, fb0, fb1⟩ := h.cells hb
  have h20 := h.some20
  generalize hxa : its.getD a (0, 0) = xa at *
  generalize hxb : its.getD b (0, 0) = xb at *
  have HXA : Hid _ := hxa
  have HXB : Hid _ := hxb
  clear hxa hxb
  obtain ⟨n, hn⟩ : ∃ n, n = its.length := ⟨_, rfl⟩
  rw [← hn] at hit ha hb h20
  have i0 : (0 : Int) ≤ (a : Int) := by omega
  have i1 : (a : Int) < (n : Int) := by omega
  have i2 : (0 : Int) ≤ (b : Int) := by omega
  have i3 : (b : Int) < (n : Int) := by omega
  have HN : Hid (n = its.length) := hn
  clear hn
  go_enter Tryd.func146, Tryd.ntmps146
  go_region
  go_end0
  have hbb : b < its.length := by rw [← HN.out]; exact hb
  have haa : a < its.length := by rw [← HN.out]; exact ha
  have p1 := h.put haa xb (by rw [← HXB.out]; exact h.at' hbb)
  have p2 := p1.put (i := b) (by simpa using hbb) xa (by rw [← HXA.out]; exact h.at' haa)
  refine ⟨rfl, ?_, grown_drew (grown_set (grown_set (grown_set (grown_set (grown_refl w _) _ _) _ _) _ _) _ _)⟩
  have e : swapL its a b = (its.set a xb).set b xa := by rw [swapL, HXA.out, HXB.out]
  rw [e]
  exact p2.drew

end Go.Proofs.YtlodenfdcckemaaDoor
