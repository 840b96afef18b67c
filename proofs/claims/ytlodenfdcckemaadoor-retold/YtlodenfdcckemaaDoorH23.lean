/-
  Several texts, one behind the other.
-/
import Derived.Test.YtlodenfdcckemaaDoorH22
import Derived.Deep.AppendLies
import Derived.Deep.DrawnRows
import Derived.BigRegion
import Derived.Test.YtlodenfdcckemaaDoorH7
import Derived.Test.YtlodenfdcckemaaDoorH10
/-
  The walks of the heap.
-/

namespace Go.Proofs.YtlodenfdcckemaaDoor
open Go.RowKit

attribute [local go_sem] run_store_float

/-- A variable and its weight in parts. -/
abbrev Itm : Type := Int × Nat

/-- Is a ahead of b: heavier, or as heavy and lesser? -/
def aheadOf (a b : Itm) : Bool := decide (b.2 < a.2) || (a.2 == b.2 && decide (a.1 < b.1))

def itm (a : Itm) : List Value := [.int .i64 a.1, .float .f64 (Fl.W a.2)]
def flat (l : List Itm) : List Value := l.flatMap itm

theorem order_lt {p q : Nat} (hp : p < 9007199254740992) (hq : q < 9007199254740992) (h : p < q) : FloatKind.f64.format.order (Fl.W p) (Fl.W q) = some .lt := by
  show Ieee.double.order _ _ = _
  rw [Fl.order_W p q hp hq, Nat.compare_eq_lt.2 h]
theorem order_gt {p q : Nat} (hp : p < 9007199254740992) (hq : q < 9007199254740992) (h : q < p) : FloatKind.f64.format.order (Fl.W p) (Fl.W q) = some .gt := by
  show Ieee.double.order _ _ = _
  rw [Fl.order_W p q hp hq, Nat.compare_eq_gt.2 h]
theorem order_eq {p : Nat} (hp : p < 9007199254740992) : FloatKind.f64.format.order (Fl.W p) (Fl.W p) = some .eq := by
  show Ieee.double.order _ _ = _
  rw [Fl.order_W p p hp hp, Nat.compare_eq_eq.2 rfl]

set_option maxHeartbeats 400000 in
theorem heavier_any (a b : Itm) (w : World) (ha : a.2 < 9007199254740992) (hb : b.2 < 9007199254740992) :
    Calls Tryd.prog 126 #[.agg #[.int .i64 a.1, .float .f64 (Fl.W a.2)], .agg #[.int .i64 b.1, .float .f64 (Fl.W b.2)]] w fun e w' => e = .returned (.bool (aheadOf a b)) ∧ Below w.heap.size w w' := by
  obtain ⟨x, p⟩ := a
  obtain ⟨y, q⟩ := b
  simp only at ha hb
  have hw : Hid (∀ O O', Below w.heap.size w ((w.alloc O).alloc O')) := fun O O' => ((Below.refl _ _).alloc (Nat.le_refl _) O).alloc (by simp) O'
  rcases Nat.lt_trichotomy p q with h | h | h
  · have hf : Hid (aheadOf (x, p) (y, q) = false) := by unfold Hid; simp [aheadOf]; omega
    have ho := order_lt ha hb h
    clear ha hb h
    go_enter Tryd.func126, Tryd.ntmps126
    go_wp2
    go_ret
    exact ⟨by rw [hf.out]; rfl, hw.out _ _⟩
  · subst h
    have hf : Hid (aheadOf (x, p) (y, p) = decide (x < y)) := by unfold Hid; simp [aheadOf]
    have ho := order_eq ha
    clear ha hb
    go_enter Tryd.func126, Tryd.ntmps126
    go_wp2
    go_ret
    exact ⟨by rw [hf.out]; rfl, hw.out _ _⟩
  · have hf : Hid (aheadOf (x, p) (y, q) = true) := by unfold Hid; simp [aheadOf]; omega
    have ho := order_gt ha hb h
    clear ha hb h
    go_enter Tryd.func126, Tryd.ntmps126
    go_wp2
    go_ret
    exact ⟨by rw [hf.out]; rfl, hw.out _ _⟩

/-- The value of the function 'heavier'. -/
def ahead : Value := .func (.func 126) #[] #[]

/-- The heap at block H holds the items its, which lie at block g, with room for cap. -/
structure HeapIn (w : World) (H g cap : Nat) (its : List Itm) : Prop where
  head : Blk w H 181 [ahead, .slice (some ⟨g, 0, none⟩) its.length cap]
  row : ∃ rest, Blk w g 170 (flat its ++ rest) ∧ (flat its ++ rest).length = cap * 2
  lt : H < g
  cap63 : cap ≤ maxLen
  le : its.length ≤ cap
  some20 : its.length ≤ 20
  some : ∀ a ∈ its, a.2 < 9007199254740992

theorem HeapIn.ne {w : World} {H g cap : Nat} {its : List Itm} (h : HeapIn w H g cap its) : g ≠ H := by have := h.lt; omega
theorem HeapIn.glt {w : World} {H g cap : Nat} {its : List Itm} (h : HeapIn w H g cap its) : g < w.heap.size := h.row.elim fun _ hr => hr.1.lt

theorem flat_length (l : List Itm) : (flat l).length = l.length * 2 := by
  induction l with
  | nil => rfl
  | cons a l ih => simp only [flat, List.flatMap_cons, List.length_append, List.length_cons] at *; simp [itm, ih]; omega

theorem flat_cons (a : Itm) (l : List Itm) : flat (a :: l) = .int .i64 a.1 :: .float .f64 (Fl.W a.2) :: flat l := rfl

theorem flat_even : ∀ (l : List Itm) (rest : List Value) (i : Nat) (d : Itm), i < l.length → (flat l ++ rest).getD (i * 2) undef = .int .i64 (l.getD i d).1
  | a :: l, rest, 0, d, _ => rfl
  | a :: l, rest, i + 1, d, h => by
    rw [flat_cons, show (i + 1) * 2 = i * 2 + 1 + 1 by omega]
    exact flat_even l rest i d (by simpa using h)
  | [], _, _, _, h => by simp at h
theorem flat_odd : ∀ (l : List Itm) (rest : List Value) (i : Nat) (d : Itm), i < l.length → (flat l ++ rest).getD (i * 2 + 1) undef = .float .f64 (Fl.W (l.getD i d).2)
  | a :: l, rest, 0, d, _ => rfl
  | a :: l, rest, i + 1, d, h => by
    rw [flat_cons, show (i + 1) * 2 + 1 = i * 2 + 1 + 1 + 1 by omega]
    exact flat_odd l rest i d (by simpa using h)
  | [], _, _, _, h => by simp at h
theorem flat_set : ∀ (l : List Itm) (rest : List Value) (i : Nat) (a : Itm), i < l.length → ((flat l ++ rest).set (i * 2) (.int .i64 a.1)).set (i * 2 + 1) (.float .f64 (Fl.W a.2)) = flat (l.set i a) ++ rest
  | b :: l, rest, 0, a, _ => rfl
  | b :: l, rest, i + 1, a, h => by
    rw [flat_cons, show (i + 1) * 2 = i * 2 + 1 + 1 by omega]
    simp only [List.cons_append, List.set_cons_succ, flat_cons]
    rw [flat_set l rest i a (by simpa using h)]
  | [], _, _, _, h => by simp at h

def swapL (l : List Itm) (a b : Nat) : List Itm := (l.set a (l.getD b (0, 0))).set b (l.getD a (0, 0))

theorem HeapIn.cells {w : World} {H g cap : Nat} {its : List Itm} (h : HeapIn w H g cap its) {i : Nat} (hi : i < its.length) :
    w.cell? ⟨g, i * 2, none⟩ = .some (.int .i64 (its.getD i (0, 0)).1) ∧ w.cell? ⟨g, i * 2 + 1, none⟩ = .some (.float .f64 (Fl.W (its.getD i (0, 0)).2)) ∧ w.frozen? ⟨g, i * 2, none⟩ = false ∧ w.frozen? ⟨g, i * 2 + 1, none⟩ = false := by
  obtain ⟨rest, hr, _⟩ := h.row
  have hl := flat_length its
  refine ⟨?_, ?_, hr.frozen _, hr.frozen _⟩
  · rw [hr.cell (i := i * 2) (by simp; omega) undef, flat_even its rest i (0, 0) hi]
  · rw [hr.cell (i := i * 2 + 1) (by simp; omega) undef, flat_odd its rest i (0, 0) hi]

theorem HeapIn.fn {w : World} {H g cap : Nat} {its : List Itm} (h : HeapIn w H g cap its) : w.cell? ⟨H, 0, none⟩ = .some ahead := h.head.cell (i := 0) (by simp) undef
theorem HeapIn.items {w : World} {H g cap : Nat} {its : List Itm} (h : HeapIn w H g cap its) : w.cell? ⟨H, 1, none⟩ = .some (.slice (.some ⟨g, 0, none⟩) its.length cap) := h.head.cell (i := 1) (by simp) undef

theorem HeapIn.put {w : World} {H g cap : Nat} {its : List Itm} (h : HeapIn w H g cap its) {i : Nat} (hi : i < its.length) (a : Itm) (ha : a.2 < 9007199254740992) :
    HeapIn ((w.setCell ⟨g, i * 2, none⟩ (.int .i64 a.1)).setCell ⟨g, i * 2 + 1, none⟩ (.float .f64 (Fl.W a.2))) H g cap (its.set i a) := by
  obtain ⟨rest, hr, hrl⟩ := h.row
  have hne := h.ne
  refine ⟨?_, ⟨rest, ?_, ?_⟩, h.lt, h.cap63, by simpa using h.le, by simpa using h.some20, fun b hb => ?_⟩
  · have := (h.head.setOther (a := ⟨g, i * 2, none⟩) (fun e => hne e.symm) (.int .i64 a.1)).setOther (a := ⟨g, i * 2 + 1, none⟩) (fun e => hne e.symm) (.float .f64 (Fl.W a.2))
    simpa using this
  · have := (hr.set (i * 2) (.int .i64 a.1)).set (i * 2 + 1) (.float .f64 (Fl.W a.2))
    rwa [flat_set its rest i a hi] at this
  · rw [List.length_append, flat_length] at *; simpa using hrl
  · rcases List.mem_or_eq_of_mem_set hb with hb | rfl
    · exact h.some b hb
    · exact ha

theorem HeapIn.drew {w : World} {H g cap : Nat} {its : List Itm} (h : HeapIn w H g cap its) : HeapIn w.drew H g cap its := ⟨h.head, h.row, h.lt, h.cap63, h.le, h.some20, h.some⟩

theorem HeapIn.at' {w : World} {H g cap : Nat} {its : List Itm} (h : HeapIn w H g cap its) {i : Nat} (hi : i < its.length) : (its.getD i (0, 0)).2 < 9007199254740992 := by
  rw [getD_lt _ _ _ hi]; exact h.some _ (List.getElem_mem hi)

theorem grown_refl (w : World) (r : Option Nat) : w.grownBy w r := ⟨rfl, rfl, rfl, Nat.le_refl _, fun _ _ _ => rfl⟩
theorem grown_set {w w' : World} {g : Nat} (h : w.grownBy w' (some g)) (i : Nat) (v : Value) : w.grownBy (w'.setCell ⟨g, i, none⟩ v) (some g) :=
  ⟨h.os, h.tape, h.output, by simpa [World.setCell] using h.size, fun k hk hne => (Below.heap_setCell _ _ _ _ (fun e => hne (congrArg some e))).trans (h.block k hk hne)⟩
theorem grown_drew {w w' : World} {r : Option Nat} (h : w.grownBy w' r) : w.grownBy w'.drew r := ⟨h.os, h.tape, h.output, h.size, h.block⟩

set_option maxHeartbeats 1000000 in
theorem swap_any (H g cap : Nat) (its : List Itm) (a b : Nat) (w : World) (h : HeapIn w H g cap its) (ha : a < its.length) (hb : b < its.length) (hab : a ≠ b) :
    Calls Tryd.prog 146 #[.pointer (some ⟨H, 0, none⟩), .int .i64 a, .int .i64 b] w fun e w' => e = .returned (.tuple #[]) ∧ HeapIn w' H g cap (swapL its a b) ∧ w.grownBy w' (some g) := by
  have hit := h.items
  obtain ⟨a0, a1, fa0, fa1⟩ := h.cells ha
  obtain ⟨b0, b1, fb0, fb1⟩ := h.cells hb
  have h20 := h.some20
  generalize hxa : its.getD a (0, 0) = xa at *
  generalize hxb : its.getD b (0, 0) = xb at *
  have HXA : Hid _ := hxa
  have HXB : Hid _ := hxb
  clear hxa hxb
  obtain ⟨n, hn⟩ : ∃ n, n = its.length := ⟨_, rfl⟩
  rw [← hn] at hit ha hb h20
  have i0 : (0 : Int) ≤ (a : Int) := by omega
  have i1 : (a : Int) < (n : Int) := by omega
  have i2 : (0 : Int) ≤ (b : Int) := by omega
  have i3 : (b : Int) < (n : Int) := by omega
  have HN : Hid (n = its.length) := hn
  clear hn
  go_enter Tryd.func146, Tryd.ntmps146
  go_region
  go_end0
  have hbb : b < its.length := by rw [← HN.out]; exact hb
  have haa : a < its.length := by rw [← HN.out]; exact ha
  have p1 := h.put haa xb (by rw [← HXB.out]; exact h.at' hbb)
  have p2 := p1.put (i := b) (by simpa using hbb) xa (by rw [← HXA.out]; exact h.at' haa)
  refine ⟨rfl, ?_, grown_drew (grown_set (grown_set (grown_set (grown_set (grown_refl w _) _ _) _ _) _ _) _ _)⟩
  have e : swapL its a b = (its.set a xb).set b xa := by rw [swapL, HXA.out, HXB.out]
  rw [e]
  exact p2.drew

end Go.Proofs.YtlodenfdcckemaaDoor

/-
  The walk of the heap's comparison of two places.
-/

namespace Go.Proofs.YtlodenfdcckemaaDoor
open Go.RowKit

/-- Which of two places has the item that is ahead. -/
def foreL (l : List Itm) (a b : Nat) : Nat := if b < l.length ∧ aheadOf (l.getD b (0, 0)) (l.getD a (0, 0)) = true then b else a

set_option maxHeartbeats 1000000 in
theorem foremost_any (H g cap : Nat) (its : List Itm) (a b : Nat) (w : World) (h : HeapIn w H g cap its) (hab : b < its.length → a < its.length) (hb50 : b ≤ 50) (ha50 : a ≤ 50) :
    Calls Tryd.prog 147 #[.pointer (some ⟨H, 0, none⟩), .int .i64 a, .int .i64 b] w fun e w' => e = .returned (.int .i64 (foreL its a b)) ∧ Below w.heap.size w w' := by
  have hit := h.items
  have hfn := h.fn
  have h20 := h.some20
  by_cases hb : b < its.length
  · have ha := hab hb
    obtain ⟨a0, a1, fa0, fa1⟩ := h.cells ha
    obtain ⟨b0, b1, fb0, fb1⟩ := h.cells hb
    have pa := h.at' ha
    have pb := h.at' hb
    have hH := h.head.lt
    have hg : g < w.heap.size := h.glt
    have hf : Hid (foreL its a b = if aheadOf (its.getD b (0, 0)) (its.getD a (0, 0)) = true then b else a) := by unfold Hid; simp [foreL, hb]
    generalize its.getD a (0, 0) = xa at *
    generalize its.getD b (0, 0) = xb at *
    have ht1 : decide ((b : Int) < (its.length : Int)) = true := by simp; omega
    have ht2 : decide (b < its.length) = true := by simp; omega
    have i0 : (0 : Int) ≤ (a : Int) := by omega
    have i1 : (a : Int) < (its.length : Int) := by omega
    have i2 : (0 : Int) ≤ (b : Int) := by omega
    have i3 : (b : Int) < (its.length : Int) := by omega
    unfold ahead at hfn
    have hbel0 : ∀ {w1 : World}, Below w.drew.heap.size w.drew w1 → Below w.heap.size w w1 := fun hb => (Below.refl _ w).drew.trans hb
    clear fa0 fa1 fb0 fb1
    go_enter Tryd.func147, Tryd.ntmps147
    go_wp2
    go_region_held3 (fun w' => w'.cell? ⟨H, 0, none⟩ = some (.func (.func 126) #[] #[]) ∧ w'.cell? ⟨H, 1, none⟩ = some (.slice (some ⟨g, 0, none⟩) its.length cap) ∧ w'.cell? ⟨g, a * 2, none⟩ = some (.int .i64 xa.1) ∧ w'.cell? ⟨g, a * 2 + 1, none⟩ = some (.float .f64 (Fl.W xa.2)) ∧
        w'.cell? ⟨g, b * 2, none⟩ = some (.int .i64 xb.1) ∧ w'.cell? ⟨g, b * 2 + 1, none⟩ = some (.float .f64 (Fl.W xb.2)))
      (first | exact ⟨(hbel.cell hH).trans hfn, (hbel.cell hH).trans hit, (hbel.cell hg).trans a0, (hbel.cell hg).trans a1, (hbel.cell hg).trans b0, (hbel.cell hg).trans b1⟩ | go_keep)
      (first | (go_at_call 126; refine (heavier_any xb xa _ pb pa).mono ?_; rintro e w1 ⟨rfl, hbel⟩))
    cases hah : aheadOf xb xa
    · go_wp2
      go_ret
      exact ⟨by rw [hf.out, hah]; rfl, hbel0 hbel⟩
    · go_wp2
      go_ret
      exact ⟨by rw [hf.out, hah]; rfl, hbel0 hbel⟩
  · have hf : Hid (foreL its a b = a) := by unfold Hid; simp [foreL, hb]
    have ht2 : decide (b < its.length) = false := by simp; omega
    go_enter Tryd.func147, Tryd.ntmps147
    go_wp2
    go_quiet (fail)
    go_wp2
    go_ret
    exact ⟨by rw [hf.out]; rfl, below_drewN (Below.refl _ _) _⟩
end Go.Proofs.YtlodenfdcckemaaDoor

/-
  The walks of the heap's rise and sink.
-/

namespace Go.Proofs.YtlodenfdcckemaaDoor
open Go.RowKit

/-- An item rises from a place. -/
def riseL : Nat → List Itm → Nat → List Itm
  | 0, l, _ => l
  | f + 1, l, k => if k = 0 then l else if aheadOf (l.getD k (0, 0)) (l.getD ((k - 1) / 2) (0, 0)) = true then riseL f (swapL l k ((k - 1) / 2)) ((k - 1) / 2) else l

/-- An item sinks from a place. -/
def sinkL : Nat → List Itm → Nat → List Itm
  | 0, l, _ => l
  | f + 1, l, k => if foreL l k (foreL l (2 * k + 1) (2 * k + 2)) = k then l else sinkL f (swapL l k (foreL l k (foreL l (2 * k + 1) (2 * k + 2)))) (foreL l k (foreL l (2 * k + 1) (2 * k + 2)))

theorem swapL_length (l : List Itm) (a b : Nat) : (swapL l a b).length = l.length := by simp [swapL]

theorem HeapIn.below' {w w' : World} {H g cap : Nat} {its : List Itm} (h : HeapIn w H g cap its) (hb : Below w.heap.size w w') : HeapIn w' H g cap its :=
  ⟨h.head.below' hb, h.row.elim fun r hr => ⟨r, hr.1.below' hb, hr.2⟩, h.lt, h.cap63, h.le, h.some20, h.some⟩

theorem grown_trans {a b c : World} {r : Option Nat} (h : a.grownBy b r) (k : b.grownBy c r) : a.grownBy c r :=
  ⟨k.os.trans h.os, k.tape.trans h.tape, k.output.trans h.output, Nat.le_trans h.size k.size, fun i hi hne => (k.block i (Nat.lt_of_lt_of_le hi h.size) hne).trans (h.block i hi hne)⟩
theorem grown_below {a b : World} (r : Option Nat) (h : Below a.heap.size a b) : a.grownBy b r := ⟨h.os, h.tape, h.output, h.size, fun i hi _ => h.block i hi⟩

theorem foreL_lt (l : List Itm) (k : Nat) (hk : k < l.length) : foreL l k (foreL l (2 * k + 1) (2 * k + 2)) < l.length := by
  unfold foreL
  repeat' split
  all_goals omega
theorem foreL_le (l : List Itm) (k : Nat) : foreL l k (foreL l (2 * k + 1) (2 * k + 2)) ≤ 2 * k + 2 ∧ k ≤ foreL l k (foreL l (2 * k + 1) (2 * k + 2)) := by
  unfold foreL
  repeat' split
  all_goals omega
theorem foreL_in (l : List Itm) (a b : Nat) (h : foreL l a b < l.length → False) : ¬ (b < l.length ∧ aheadOf (l.getD b (0, 0)) (l.getD a (0, 0)) = true) := by
  intro hb
  apply h
  unfold foreL
  rw [if_pos hb]
  exact hb.1

theorem foremost_at (H g cap : Nat) (its : List Itm) (A B : Int) (a b : Nat) (hA : A = a) (hB : B = b) (w : World) (h : HeapIn w H g cap its) (hab : b < its.length → a < its.length) (hb50 : b ≤ 50) (ha50 : a ≤ 50) (m : Nat) (hm : m = foreL its a b) :
    Calls Tryd.prog 147 #[.pointer (some ⟨H, 0, none⟩), .int .i64 A, .int .i64 B] w fun e w' => e = .returned (.int .i64 m) ∧ Below w.heap.size w w' := by
  rw [hA, hB, hm]; exact foremost_any H g cap its a b w h hab hb50 ha50
theorem swap_at (H g cap : Nat) (its : List Itm) (A B : Int) (a b : Nat) (hA : A = a) (hB : B = b) (w : World) (h : HeapIn w H g cap its) (ha : a < its.length) (hb : b < its.length) (hab : a ≠ b) :
    Calls Tryd.prog 146 #[.pointer (some ⟨H, 0, none⟩), .int .i64 A, .int .i64 B] w fun e w' => e = .returned (.tuple #[]) ∧ HeapIn w' H g cap (swapL its a b) ∧ w.grownBy w' (some g) := by
  rw [hA, hB]; exact swap_any H g cap its a b w h ha hb hab

set_option maxHeartbeats 1000000 in
theorem sink_any (H g cap : Nat) (its : List Itm) (w : World) (h : HeapIn w H g cap its) (h0 : its ≠ []) :
    Calls Tryd.prog 138 #[.pointer (some ⟨H, 0, none⟩), .int .i64 0] w fun e w' => e = .returned (.tuple #[]) ∧ HeapIn w' H g cap (sinkL its.length its 0) ∧ w.grownBy w' (some g) := by
  have hlen : 0 < its.length := List.length_pos_iff.2 h0
  go_enter Tryd.func138, Tryd.ntmps138
  go_wp2
  go_loopw [1] (fun i wr => ∃ (k f : Nat) (l : List Itm), i = .int .i64 k ∧ k < l.length ∧ l.length = its.length ∧ HeapIn wr H g cap l ∧ w.grownBy wr (some g) ∧ l.length ≤ k + f ∧ Hid (sinkL its.length its 0 = sinkL f l k)) (fun i _ => its.length - (intOf i).toNat)
  case atStart => exact ⟨0, its.length, its, rfl, hlen, rfl, h, grown_refl _ _, by omega, rfl⟩
  case round =>
    obtain ⟨k, f, l, rfl, hk, hll, hH, hG, hf, hS⟩ := hrel
    have h20 := hH.some20
    have hflt := foreL_lt l k hk
    obtain ⟨hfl1, hfl2⟩ := foreL_le l k
    obtain ⟨f, rfl⟩ : ∃ f', f = f' + 1 := ⟨f - 1, by omega⟩
    have hm : foreL l (2 * k + 1) (2 * k + 2) ≤ 50 ∧ (foreL l (2 * k + 1) (2 * k + 2) < l.length → k < l.length) := ⟨by unfold foreL; split <;> omega, fun _ => hk⟩
    have hst : sinkL (f + 1) l k = if foreL l k (foreL l (2 * k + 1) (2 * k + 2)) = k then l else sinkL f (swapL l k (foreL l k (foreL l (2 * k + 1) (2 * k + 2)))) (foreL l k (foreL l (2 * k + 1) (2 * k + 2))) := rfl
    obtain ⟨m, hmm⟩ : ∃ m, m = foreL l (2 * k + 1) (2 * k + 2) := ⟨_, rfl⟩
    obtain ⟨nx, hnx⟩ : ∃ nx, nx = foreL l k m := ⟨_, rfl⟩
    rw [← hmm, ← hnx] at hst hflt hfl1 hfl2
    rw [← hmm] at hm
    have Hst : Hid _ := hst
    have HM : Hid (m = foreL l (2 * k + 1) (2 * k + 2)) := hmm
    have HX : Hid (nx = foreL l k m) := hnx
    have HLL : Hid (l.length = its.length) := hll
    clear hst hmm hnx hll h h0
    by_cases he : nx = k
    · have he' : ((nx : Int) == (k : Int)) = true := by simp [he]
      have HE : Hid (nx = k) := he
      clear he
      go_wp2_with fail
      refine (foremost_at H g cap l _ _ (2 * k + 1) (2 * k + 2) (by omega) (by omega) _ hH (by omega) (by omega) (by omega) m HM.out).mono ?_
      rintro e w1 ⟨rfl, hb1⟩
      have hH1 := hH.below' hb1
      go_wp2_with fail
      refine (foremost_at H g cap l _ _ k m (by omega) (by omega) _ hH1 hm.2 hm.1 (by omega) nx HX.out).mono ?_
      rintro e w2 ⟨rfl, hb2⟩
      have hH2 := hH1.below' hb2
      go_wp2
      refine bodyPost_ret (v := .tuple #[]) (results_none rfl _ _ _) rfl ?_
      refine ⟨rfl, ?_, grown_trans hG (grown_trans (grown_below _ hb1) (grown_below _ hb2))⟩
      rw [hS.out, Hst.out, if_pos HE.out]
      exact hH2
    · have he' : ((nx : Int) == (k : Int)) = false := by simp; omega
      have HE : Hid (¬ nx = k) := he
      go_wp2_with fail
      refine (foremost_at H g cap l _ _ (2 * k + 1) (2 * k + 2) (by omega) (by omega) _ hH (by omega) (by omega) (by omega) m HM.out).mono ?_
      rintro e w1 ⟨rfl, hb1⟩
      have hH1 := hH.below' hb1
      go_wp2_with fail
      refine (foremost_at H g cap l _ _ k m (by omega) (by omega) _ hH1 hm.2 hm.1 (by omega) nx HX.out).mono ?_
      rintro e w2 ⟨rfl, hb2⟩
      have hH2 := hH1.below' hb2
      go_wp2_with fail
      refine (swap_at H g cap l _ _ k nx (by omega) (by omega) _ hH2 hk hflt (by omega)).mono ?_
      rintro e w3 ⟨rfl, hH3, hg3⟩
      go_wp2
      go_roundw
      case rel => exact ⟨nx, f, swapL l k nx, rfl, by rw [swapL_length]; exact hflt, by rw [swapL_length]; exact HLL.out, hH3, grown_trans hG (grown_trans (grown_below _ hb1) (grown_trans (grown_below _ hb2) hg3)), by rw [swapL_length]; omega, hS.out.trans (Hst.out.trans (if_neg HE.out))⟩
      case measure => have := HLL.out; simp [intOf]; omega
end Go.Proofs.YtlodenfdcckemaaDoor

/-
  The walk of the heap's rise.
-/

namespace Go.Proofs.YtlodenfdcckemaaDoor
open Go.RowKit

set_option maxHeartbeats 1000000 in
theorem rise_any (H g cap : Nat) (its : List Itm) (k0 : Nat) (w : World) (h : HeapIn w H g cap its) (hk0 : k0 < its.length) :
    Calls Tryd.prog 137 #[.pointer (some ⟨H, 0, none⟩), .int .i64 k0] w fun e w' => e = .returned (.tuple #[]) ∧ HeapIn w' H g cap (riseL its.length its k0) ∧ w.grownBy w' (some g) := by
  go_enter Tryd.func137, Tryd.ntmps137
  go_wp2
  go_loopw [1] (fun i wr => ∃ (k f : Nat) (l : List Itm), i = .int .i64 k ∧ k < l.length ∧ l.length = its.length ∧ HeapIn wr H g cap l ∧ w.grownBy wr (some g) ∧ k < f ∧ Hid (riseL its.length its k0 = riseL f l k)) (fun i _ => (intOf i).toNat)
  case atStart => exact ⟨k0, its.length, its, rfl, hk0, rfl, h, grown_refl _ _, by omega, rfl⟩
  case round =>
    clear h hk0
    obtain ⟨k, f, l, rfl, hk, hll, hH, hG, hf, hS⟩ := hrel
    have h20 := hH.some20
    obtain ⟨f, rfl⟩ : ∃ f', f = f' + 1 := ⟨f - 1, by omega⟩
    have HLL : Hid (l.length = its.length) := hll
    clear hll
    by_cases hz : k = 0
    · subst hz
      have hst : Hid (riseL (f + 1) l 0 = l) := by unfold Hid; simp [riseL]
      go_wp2
      go_end0
      refine ⟨rfl, ?_, hG⟩
      rw [hS.out, hst.out]
      exact hH
    · have hst : riseL (f + 1) l k = if aheadOf (l.getD k (0, 0)) (l.getD ((k - 1) / 2) (0, 0)) = true then riseL f (swapL l k ((k - 1) / 2)) ((k - 1) / 2) else l := by
        rw [riseL, if_neg hz]
      obtain ⟨ab, hab⟩ : ∃ ab, ab = (k - 1) / 2 := ⟨_, rfl⟩
      rw [← hab] at hst
      have hk1 : 1 ≤ k := by omega
      have hdv : ((k : Int) - 1) / 2 = (ab : Int) := by omega
      have habk : ab < k := by omega
      clear hab hz
      go_wp2
      simp only [hdv]
      have habl : ab < l.length := by omega
      have hit := hH.items
      have hfn := hH.fn
      obtain ⟨a0, a1, _, _⟩ := hH.cells hk
      obtain ⟨b0, b1, _, _⟩ := hH.cells habl
      have pa := hH.at' hk
      have pb := hH.at' habl
      have hHl := hH.head.lt
      have hgl : g < wr.heap.size := hH.glt
      generalize l.getD k (0, 0) = xa at *
      generalize l.getD ab (0, 0) = xb at *
      have Hst : Hid _ := hst
      unfold ahead at hfn
      have hbel0 : ∀ {w1 : World}, Below wr.drew.heap.size wr.drew w1 → Below wr.heap.size wr w1 := fun hb => (Below.refl _ wr).drew.trans hb
      have i0 : (0 : Int) ≤ (k : Int) := by omega
      have i1 : (k : Int) < (l.length : Int) := by omega
      have i2 : (0 : Int) ≤ (ab : Int) := by omega
      have i3 : (ab : Int) < (l.length : Int) := by omega
      clear hst hdv
      go_region_held3 (fun w' => w'.cell? ⟨H, 0, none⟩ = some (.func (.func 126) #[] #[]) ∧ w'.cell? ⟨H, 1, none⟩ = some (.slice (some ⟨g, 0, none⟩) l.length cap) ∧ w'.cell? ⟨g, k * 2, none⟩ = some (.int .i64 xa.1) ∧ w'.cell? ⟨g, k * 2 + 1, none⟩ = some (.float .f64 (Fl.W xa.2)) ∧
          w'.cell? ⟨g, ab * 2, none⟩ = some (.int .i64 xb.1) ∧ w'.cell? ⟨g, ab * 2 + 1, none⟩ = some (.float .f64 (Fl.W xb.2)))
        (first | exact ⟨(hbel.cell hHl).trans hfn, (hbel.cell hHl).trans hit, (hbel.cell hgl).trans a0, (hbel.cell hgl).trans a1, (hbel.cell hgl).trans b0, (hbel.cell hgl).trans b1⟩ | go_keep)
        (first | (go_at_call 126; refine (heavier_any xa xb _ pa pb).mono ?_; rintro e w1 ⟨rfl, hbel⟩))
      clear a0 a1 b0 b1 hit hfn i0 i1 i2 i3
      have hb1 := hbel0 hbel
      have hH1 := hH.below' hb1
      cases hah : aheadOf xa xb
      · go_wp2
        refine bodyPost_ret (v := .tuple #[]) (results_none rfl _ _ _) rfl ?_
        refine ⟨rfl, ?_, grown_trans hG (grown_below _ hb1)⟩
        rw [hS.out, Hst.out, if_neg (by rw [hah]; decide)]
        exact hH1
      · go_wp2_with fail
        refine (swap_at H g cap l _ _ k ab (by omega) (by omega) _ hH1 hk habl (by omega)).mono ?_
        rintro e w3 ⟨rfl, hH3, hg3⟩
        go_wp2
        go_roundw
        case rel => exact ⟨ab, f, swapL l k ab, rfl, by rw [swapL_length]; exact habl, by rw [swapL_length]; exact HLL.out, hH3, grown_trans hG (grown_trans (grown_below _ hb1) hg3), by omega, hS.out.trans (Hst.out.trans (if_pos hah))⟩
        case measure => simp [intOf]; omega
end Go.Proofs.YtlodenfdcckemaaDoor

/-
  The walks of the heap's making, length and push.
-/

namespace Go.Proofs.YtlodenfdcckemaaDoor
open Go.RowKit

attribute [local go_sem] run_store_float
attribute [local go_sem ↓] Go.wp_at_zero Go.wp_at_succ

theorem Tryd.info170 : (Tryd.prog.info? 170).map (fun i => (i.zero, i.size, i.bytes)) = some (some (.agg #[.int .i64 0, .float .f64 0]), 2, 16) := by kernel_rfl

/-- The heap at block H, its items the value v. -/
def HeapAt (w : World) (H : Nat) (v : Value) (its : List Itm) : Prop :=
  (v = .slice none 0 0 ∧ its = [] ∧ Blk w H 181 [ahead, v]) ∨ ∃ g cap, v = .slice (some ⟨g, 0, none⟩) its.length cap ∧ HeapIn w H g cap its

theorem HeapAt.head {w : World} {H : Nat} {v : Value} {its : List Itm} (h : HeapAt w H v its) : Blk w H 181 [ahead, v] := by
  rcases h with ⟨_, _, h⟩ | ⟨g, cap, rfl, h⟩
  · exact h
  · exact h.head

theorem HeapAt.own {w : World} {H : Nat} {v : Value} {its : List Itm} (h : HeapAt w H v its) : w.ownsRow (H + 1) 170 2 v its.length (flat its) := by
  refine ⟨flat_length its, ?_⟩
  rcases h with ⟨h1, h2, _⟩ | ⟨g, cap, h1, h⟩
  · exact Or.inl ⟨h1, by rw [h2]; rfl⟩
  · obtain ⟨rest, hr, hl⟩ := h.row
    refine Or.inr ⟨g, cap, _, h1, h.lt, hr, h.le, h.cap63, by simpa using hl, ?_⟩
    rw [← flat_length]
    simp

theorem HeapAt.small {w : World} {H : Nat} {v : Value} {its : List Itm} (h : HeapAt w H v its) : its.length ≤ 20 ∧ ∀ a ∈ its, a.2 < 9007199254740992 := by
  rcases h with ⟨_, h2, _⟩ | ⟨g, cap, _, h⟩
  · rw [h2]; simp
  · exact ⟨h.some20, h.some⟩

theorem HeapAt.shape {w : World} {H : Nat} {v : Value} {its : List Itm} (h : HeapAt w H v its) : ∃ ao cap, v = .slice ao its.length cap := by
  rcases h with ⟨h1, h2, _⟩ | ⟨g, cap, h1, h⟩
  · exact ⟨none, 0, by rw [h1, h2]; rfl⟩
  · exact ⟨_, _, h1⟩

theorem heapIn_of {w : World} {H g cap : Nat} {its : List Itm} (hh : Blk w H 181 [ahead, .slice (some ⟨g, 0, none⟩) its.length cap]) (h : w.ownsRow (H + 1) 170 2 (.slice (some ⟨g, 0, none⟩) its.length cap) its.length (flat its)) (h20 : its.length ≤ 20) (hs : ∀ a ∈ its, a.2 < 9007199254740992) : HeapIn w H g cap its := by
  obtain ⟨_, h | ⟨g', cap', cur, he, hb, hg, hle, h63, hcs, htk⟩⟩ := h
  · obtain ⟨h, _⟩ := h; simp at h
  · simp only [Value.slice.injEq, Option.some.injEq, Addr.mk.injEq, and_true, true_and] at he
    obtain ⟨rfl, rfl⟩ := he
    refine ⟨hh, ⟨cur.toList.drop (its.length * 2), ?_, ?_⟩, hb, h63, hle, h20, hs⟩
    · rw [← htk, List.take_append_drop]; exact hg
    · rw [← htk, List.take_append_drop]; simpa using hcs

set_option maxHeartbeats 400000 in
theorem newHeap_any (w : World) : Calls Tryd.prog 125 #[ahead] w fun e w' => e = .returned (.pointer (some ⟨w.heap.size, 0, none⟩)) ∧ HeapAt w' w.heap.size (.slice none 0 0) [] ∧ Below w.heap.size w w' := by
  have hB := blk_new w [ahead, .slice none 0 0] 181
  have hb : Below w.heap.size w (w.alloc (.cells #[ahead, .slice none 0 0] 181)) := (Below.refl _ _).alloc (Nat.le_refl _) _
  unfold ahead at *
  go_enter Tryd.func125, Tryd.ntmps125
  go_wp2
  go_ret
  exact ⟨rfl, Or.inl ⟨rfl, rfl, hB⟩, hb⟩

set_option maxHeartbeats 400000 in
theorem len_any (H : Nat) (v : Value) (its : List Itm) (w : World) (h : HeapAt w H v its) :
    Calls Tryd.prog 129 #[.pointer (some ⟨H, 0, none⟩)] w fun e w' => e = .returned (.int .i64 its.length) ∧ w' = w := by
  obtain ⟨ao, cap, rfl⟩ := h.shape
  have hc := h.head.cell (i := 1) (by simp) undef
  have h20 := h.small.1
  simp only [List.getD_cons_succ, List.getD_cons_zero] at hc
  go_enter Tryd.func129, Tryd.ntmps129
  go_wp2
  go_ret
  exact ⟨rfl, rfl⟩

theorem flat_append (l m : List Itm) : flat (l ++ m) = flat l ++ flat m := by simp [flat]

theorem push_mid {w W w1 : World} {O : Obj} {H g cap : Nat} {v : Value} {its : List Itm} {a : Itm} (hsz : W.heap.size = w.heap.size + 1) (hbW : Below w.heap.size w W) (hhdW : Blk W H 181 [ahead, v])
    (hown1 : w1.ownsRow (H + 1) 170 2 (.slice (some ⟨g, 0, none⟩) (its.length + 1) cap) (its.length + 1) (flat its ++ itm a)) (hgrow : (W.alloc O).drew.grownBy w1 v.ownBlock) (hat : v.ownBlock = some g ∨ g = W.heap.size + 1) (_hlt : g < w1.heap.size) (hneH : v.ownBlock ≠ some H)
    (hn2 : its.length + 1 ≤ 20) (hlo : ∀ k, v.ownBlock = some k → H + 1 ≤ k) (hsm : ∀ a ∈ its, a.2 < 9007199254740992) (ha : a.2 < 9007199254740992) :
    HeapIn (w1.setCell ⟨H, 1, none⟩ (.slice (some ⟨g, 0, none⟩) (its.length + 1) cap)) H g cap (its ++ [a]) ∧ (v.ownBlock = some g ∨ w.heap.size ≤ g) ∧
      (∀ k, k < w.heap.size → k ≠ H → v.ownBlock ≠ some k → (w1.setCell ⟨H, 1, none⟩ (.slice (some ⟨g, 0, none⟩) (its.length + 1) cap)).heap[k]? = w.heap[k]?) ∧ Below H w (w1.setCell ⟨H, 1, none⟩ (.slice (some ⟨g, 0, none⟩) (its.length + 1) cap)) := by
  have hB1 : Blk w1 H 181 [ahead, v] := Blk.grown (hhdW.alloc _).drew hgrow hneH
  have hgH : H + 1 ≤ g := by
    rcases hat with h | h
    · exact hlo g h
    · have := hhdW.lt; omega
  have hfr : ∀ k, k < w.heap.size → k ≠ H → v.ownBlock ≠ some k → (w1.setCell ⟨H, 1, none⟩ (.slice (some ⟨g, 0, none⟩) (its.length + 1) cap)).heap[k]? = w.heap[k]? := by
    intro k hk hkH hkv
    rw [Below.heap_setCell _ _ _ _ hkH, hgrow.block k (by simp [World.drew]; omega) (fun e => hkv e.symm)]
    rw [show ((W.alloc O).drew).heap[k]? = (W.alloc O).heap[k]? from rfl, Below.heap_alloc _ _ _ (by omega), hbW.block k hk]
  refine ⟨?_, ?_, hfr, ?_⟩
  · have hst := hB1.set 1 (.slice (some ⟨g, 0, none⟩) (its.length + 1) cap)
    have how := ownsRow_setCell_below hown1 (a := ⟨H, 1, none⟩) (by simp) (.slice (some ⟨g, 0, none⟩) (its.length + 1) cap)
    have hl : (its ++ [a]).length = its.length + 1 := by simp
    refine heapIn_of (by rw [hl]; exact hst) ?_ (by omega) ?_
    · rw [hl, flat_append]
      have : flat [a] = itm a := by simp [flat]
      rw [this]
      exact how
    · intro b hb
      rcases List.mem_append.1 hb with hb | hb
      · exact hsm b hb
      · simp at hb; rw [hb]; exact ha
  · rcases hat with h | h
    · exact Or.inl h
    · right; omega
  · refine ⟨?_, ?_, ?_, ?_, fun k hk => hfr k (by have := hhdW.lt; omega) (by omega) (fun e => by have := hlo k e; omega)⟩
    · exact (hgrow.os).trans hbW.os
    · exact (hgrow.tape).trans hbW.tape
    · exact (hgrow.output).trans hbW.output
    · have h1 := hgrow.size
      have h2 : W.heap.size ≤ (W.alloc O).drew.heap.size := by simp [World.drew]
      have h3 := hbW.size
      simp only [World.setCell, Array.size_modify]
      omega

theorem push_end {w w2 w3 : World} {H g cap : Nat} {v : Value} {its : List Itm} (hHI : HeapIn w2 H g cap its) (hgg : v.ownBlock = some g ∨ w.heap.size ≤ g) (hfr : ∀ k, k < w.heap.size → k ≠ H → v.ownBlock ≠ some k → w2.heap[k]? = w.heap[k]?) (hbl : Below H w w2) (hg3 : w2.grownBy w3 (some g)) :
    (∀ k, k < w.heap.size → k ≠ H → v.ownBlock ≠ some k → w3.heap[k]? = w.heap[k]?) ∧ Below H w w3 := by
  have hlt := hHI.lt
  have hsz := hbl.size
  refine ⟨fun k hk h1 h2 => ?_, ?_⟩
  · refine (hg3.block k (by omega) ?_).trans (hfr k hk h1 h2)
    intro e
    simp only [Option.some.injEq] at e
    rcases hgg with h | h
    · exact h2 (by rw [h, e])
    · omega
  · refine hbl.trans ⟨hg3.os, hg3.tape, hg3.output, hg3.size, fun k hk => hg3.block k (by have := hHI.head.lt; omega) ?_⟩
    intro e
    simp only [Option.some.injEq] at e
    omega

set_option maxHeartbeats 1000000 in
theorem push_any (H : Nat) (v : Value) (its : List Itm) (a : Itm) (w : World) (h : HeapAt w H v its) (hn : its.length < 20) (ha : a.2 < 9007199254740992) :
    Calls Tryd.prog 128 #[.pointer (some ⟨H, 0, none⟩), .agg #[.int .i64 a.1, .float .f64 (Fl.W a.2)]] w fun e w' => e = .returned (.tuple #[]) ∧
      ∃ g cap, HeapIn w' H g cap (riseL (its.length + 1) (its ++ [a]) its.length) ∧ (v.ownBlock = some g ∨ w.heap.size ≤ g) ∧ (∀ k, k < w.heap.size → k ≠ H → v.ownBlock ≠ some k → w'.heap[k]? = w.heap[k]?) ∧ Below H w w' := by
  have hown := h.own
  have hhd := h.head
  obtain ⟨hsm, hsm2⟩ := h.small
  have hHl := hhd.lt
  have hit : w.cell? ⟨H, 1, none⟩ = some v := hhd.cell (i := 1) (by simp) undef
  obtain ⟨ao, cap0, hv⟩ := h.shape
  obtain ⟨i0, hi, hz0, hz1, hz2⟩ := info_parts Tryd.info170
  have hone : ∀ u ∈ itm a, u.oneCell' = true := by intro u hu; simp [itm] at hu; rcases hu with rfl | rfl <;> rfl
  go_enter Tryd.func128, Tryd.ntmps128
  go_wp2
  generalize hW : w.alloc (Obj.cells #[Value.int IntKind.i64 a.1, Value.float FloatKind.f64 (Fl.W a.2)] 170) = W
  have hsz : W.heap.size = w.heap.size + 1 := by rw [← hW]; simp
  have c0 : W.cell? ⟨w.heap.size, 0, none⟩ = some (.int .i64 a.1) := by rw [← hW]; simp
  have c1 : W.cell? ⟨w.heap.size, 1, none⟩ = some (.float .f64 (Fl.W a.2)) := by rw [← hW]; simp
  have hbW : Below w.heap.size w W := by rw [← hW]; exact (Below.refl _ _).alloc (Nat.le_refl _) _
  have hownW : W.ownsRow (H + 1) 170 2 v its.length (flat its) := by rw [← hW]; exact hown.alloc _
  have hitW : W.cell? ⟨H, 1, none⟩ = some v := (hbW.cell (p := ⟨H, 1, none⟩) hHl).trans hit
  have hhdW := hhd.below' hbW
  clear hW hown hit
  have hHW : H + 1 ≤ W.heap.size := by omega
  have hHW' : H < W.heap.size := hHW
  have hNW : w.heap.size < W.heap.size := by omega
  have HV : Hid (v = .slice ao its.length cap0) := hv
  have HSZ : Hid (W.heap.size = w.heap.size + 1) := hsz
  clear hv hsz
  have hn2 : its.length + 1 ≤ 20 := hn
  have hneH : v.ownBlock ≠ some H := fun e => by have := (hownW.lt H e).1; omega
  have hfrH : W.frozen? ⟨H, 1, none⟩ = false := hhdW.frozen 1
  go_region_law ((refine step_append_lies _ (by rfl) (.tmp 8) (.tmp 10) 179 (by rfl) (H + 1) 170 i0 (.agg #[.int .i64 0, .float .f64 0]) 2 16 Tryd.underlying179 hi hz0 hz1 hz2 (by rfl) (by decide) v its.length (flat its) (by rfl) (by exact hownW.alloc _) ⟨W.heap.size, 0, none⟩ 1 1 (itm a) (by rfl) (by rfl) (by exact World.news_of_block (heap_alloc_new W _)) hone (by decide) (by unfold maxLen; omega) (by omega) (by simp; omega) (W.heap.size + 1) (by simp) ?_; intro g cap w1 hown1 hgrow hat hlt; have B1 := Blk.grown (hhdW.alloc _).drew hgrow hneH; have d1 : w1.cell? ⟨H, 1, none⟩ = some v := B1.cell (i := 1) (by simp) undef; have d2 : w1.frozen? ⟨H, 1, none⟩ = false := B1.frozen 1))
  all_goals
    have hr := push_mid HSZ.out hbW hhdW hown1 hgrow hat hlt hneH hn2 (fun k e => (hownW.lt k e).1) hsm2 ha
    obtain ⟨hHI, hgg, hfrm, hbl⟩ := hr
    have hit2 := hHI.items
    go_wp2_with fail
    refine (rise_any H g cap (its ++ [a]) its.length _ hHI (by simp)).mono ?_
    rintro e w3 ⟨rfl, hH3, hg3⟩
    go_wp2
    go_end0
    have hp := push_end hHI hgg hfrm hbl hg3
    rw [List.length_append, List.length_singleton] at hH3
    exact ⟨rfl, g, cap, hH3, hgg, hp.1, hp.2⟩
end Go.Proofs.YtlodenfdcckemaaDoor

/-
  The walk of the heap's pop.
-/

namespace Go.Proofs.YtlodenfdcckemaaDoor
open Go.RowKit

attribute [local go_sem] run_store_float

set_option maxHeartbeats 400000 in
theorem sink_nil (H g cap : Nat) (w : World) (h : HeapIn w H g cap []) :
    Calls Tryd.prog 138 #[.pointer (some ⟨H, 0, none⟩), .int .i64 0] w fun e w' => e = .returned (.tuple #[]) ∧ HeapIn w' H g cap [] ∧ w.grownBy w' (some g) := by
  go_enter Tryd.func138, Tryd.ntmps138
  go_wp2
  refine wp_loop_rounds 1 ?_
  rw [rounds_succ]
  go_wp2_with fail
  refine (foremost_at H g cap [] _ _ 1 2 (by omega) (by omega) _ h (by simp) (by omega) (by omega) 1 rfl).mono ?_
  rintro e w1 ⟨rfl, hb1⟩
  have hH1 := h.below' hb1
  go_wp2_with fail
  refine (foremost_at H g cap [] _ _ 0 1 (by omega) (by omega) _ hH1 (by simp) (by omega) (by omega) 0 rfl).mono ?_
  rintro e w2 ⟨rfl, hb2⟩
  have hH2 := hH1.below' hb2
  go_wp2
  refine bodyPost_ret (v := .tuple #[]) (results_none rfl _ _ _) rfl ?_
  exact ⟨rfl, hH2, grown_trans (grown_below _ hb1) (grown_below _ hb2)⟩

/-- What is left when the foremost item is taken out and the last laid in its place. -/
def popL (l : List Itm) : List Itm := (l.set 0 (l.getD (l.length - 1) (0, 0))).take (l.length - 1)

theorem popL_length (l : List Itm) : (popL l).length = l.length - 1 := by simp [popL]

theorem sink_both (H g cap : Nat) (its : List Itm) (w : World) (h : HeapIn w H g cap its) :
    Calls Tryd.prog 138 #[.pointer (some ⟨H, 0, none⟩), .int .i64 0] w fun e w' => e = .returned (.tuple #[]) ∧ HeapIn w' H g cap (sinkL its.length its 0) ∧ w.grownBy w' (some g) := by
  by_cases h0 : its = []
  · subst h0; exact sink_nil H g cap w h
  · exact sink_any H g cap its w h h0

theorem flat_take : ∀ (l : List Itm) (m : Nat), (flat l).take (m * 2) = flat (l.take m)
  | [], m => by simp [flat]
  | a :: l, 0 => by simp [flat]
  | a :: l, m + 1 => by
    rw [flat_cons, List.take_succ_cons, flat_cons, show (m + 1) * 2 = m * 2 + 1 + 1 by omega, List.take_succ_cons, List.take_succ_cons, flat_take l m]

theorem HeapIn.cutTo {w : World} {H g cap : Nat} {its : List Itm} (h : HeapIn w H g cap its) (m : Nat) (hm : m ≤ its.length) : HeapIn (w.setCell ⟨H, 1, none⟩ (.slice (.some ⟨g, 0, none⟩) m cap)) H g cap (its.take m) := by
  obtain ⟨rest, hr, hl⟩ := h.row
  have hle := h.le
  have h20 := h.some20
  have hlen : (its.take m).length = m := by simp; omega
  have hrow : flat its ++ rest = flat (its.take m) ++ ((flat its).drop (m * 2) ++ rest) := by
    rw [← flat_take, ← List.append_assoc, List.take_append_drop]
  refine ⟨?_, ⟨(flat its).drop (m * 2) ++ rest, ?_, ?_⟩, h.lt, h.cap63, by omega, by omega, fun a ha => h.some a (List.mem_of_mem_take ha)⟩
  · rw [hlen]; exact h.head.set 1 _
  · rw [← hrow]; exact hr.setOther (a := ⟨H, 1, none⟩) h.ne _
  · rw [← hrow]; exact hl

theorem W_zero : Fl.W 0 = 0 := Fl.nearest_zero _

theorem HeapIn.setOther {w : World} {H g cap : Nat} {its : List Itm} (h : HeapIn w H g cap its) {a : Addr} (h1 : H ≠ a.block) (h2 : g ≠ a.block) (v : Value) : HeapIn (w.setCell a v) H g cap its :=
  ⟨h.head.setOther h1 v, h.row.elim fun r hr => ⟨r, hr.1.setOther h2 v, hr.2⟩, h.lt, h.cap63, h.le, h.some20, h.some⟩

theorem pop_frame {w W W4 W5 W6 w8 : World} {H g : Nat} {x : Value} (hsz : W.heap.size = w.heap.size + 2) (hH : H < w.heap.size) (_hg : g < w.heap.size) (hbW : Below w.heap.size w W) (hb4 : Below W.heap.size W W4) (hg5 : W4.grownBy W5 (some g)) (hg6 : W5.grownBy W6 (some g))
    (hg8 : (W6.setCell ⟨H, 1, none⟩ x).grownBy w8 (some g)) (hlt : H < g) (u v : Value) :
    (∀ k, k < w.heap.size → k ≠ H → k ≠ g → ((w8.setCell ⟨w.heap.size, 0, none⟩ u).setCell ⟨w.heap.size, 1, none⟩ v).heap[k]? = w.heap[k]?) ∧ Below H w ((w8.setCell ⟨w.heap.size, 0, none⟩ u).setCell ⟨w.heap.size, 1, none⟩ v) := by
  have s4 := hb4.size
  have s5 := hg5.size
  have s6 := hg6.size
  have s8 : W6.heap.size ≤ w8.heap.size := by have := hg8.size; simpa [World.setCell] using this
  have hfr : ∀ k, k < w.heap.size → k ≠ H → k ≠ g → ((w8.setCell ⟨w.heap.size, 0, none⟩ u).setCell ⟨w.heap.size, 1, none⟩ v).heap[k]? = w.heap[k]? := by
    intro k hk h1 h2
    rw [Below.heap_setCell _ _ _ _ (by simp; omega), Below.heap_setCell _ _ _ _ (by simp; omega), hg8.block k (by simp [World.setCell]; omega) (by simp; omega), Below.heap_setCell _ _ _ _ (by simp; omega),
      hg6.block k (by omega) (by simp; omega), hg5.block k (by omega) (by simp; omega), hb4.block k (by omega), hbW.block k hk]
  refine ⟨hfr, ⟨?_, ?_, ?_, ?_, fun k hk => hfr k (by omega) (by omega) (by omega)⟩⟩
  · exact hg8.os.trans (hg6.os.trans (hg5.os.trans (hb4.os.trans hbW.os)))
  · exact hg8.tape.trans (hg6.tape.trans (hg5.tape.trans (hb4.tape.trans hbW.tape)))
  · exact hg8.output.trans (hg6.output.trans (hg5.output.trans (hb4.output.trans hbW.output)))
  · simp only [World.setCell, Array.size_modify]; omega

set_option maxHeartbeats 1000000 in
theorem pop_any (H g cap : Nat) (its : List Itm) (w : World) (h : HeapIn w H g cap its) (h0 : 0 < its.length) :
    Calls Tryd.prog 130 #[.pointer (some ⟨H, 0, none⟩)] w fun e w' => e = .returned (.tuple #[.agg #[.int .i64 (its.getD 0 (0, 0)).1, .float .f64 (Fl.W (its.getD 0 (0, 0)).2)], .bool true]) ∧
      HeapIn w' H g cap (sinkL (its.length - 1) (popL its) 0) ∧ (∀ k, k < w.heap.size → k ≠ H → k ≠ g → w'.heap[k]? = w.heap[k]?) ∧ Below H w w' := by
  obtain ⟨m, hm⟩ : ∃ m, its.length = m + 1 := ⟨its.length - 1, by omega⟩
  have hit := h.items
  have h20 := h.some20
  have hHl := h.head.lt
  have hgl := h.glt
  obtain ⟨a0, a1, _, _⟩ := h.cells h0
  rw [hm] at hit h20
  have HM : Hid (its.length = m + 1) := hm
  clear hm
  have hle0 : (((m + 1 : Nat) : Int) == 0) = false := by simp; omega
  go_enter Tryd.func130, Tryd.ntmps130
  go_wp2
  generalize hW : (w.alloc (Obj.cells #[Value.int IntKind.i64 0, Value.float FloatKind.f64 0] 170)).alloc (Obj.cells #[Value.int IntKind.i64 0, Value.float FloatKind.f64 0] 170) = W
  have hsz : W.heap.size = w.heap.size + 2 := by rw [← hW]; simp
  have hbW : Below w.heap.size w W := by rw [← hW]; exact ((Below.refl _ _).alloc (Nat.le_refl _) _).alloc (by simp) _
  have BZ : Blk W (w.heap.size + 1) 170 [.int .i64 0, .float .f64 0] := by
    rw [← hW]
    have := blk_new (w.alloc (Obj.cells #[Value.int IntKind.i64 0, Value.float FloatKind.f64 0] 170)) [.int .i64 0, .float .f64 0] 170
    simpa using this
  have BR : Blk W w.heap.size 170 [.int .i64 0, .float .f64 0] := by
    rw [← hW]
    exact (blk_new w [.int .i64 0, .float .f64 0] 170).alloc _
  have hHW := h.below' hbW
  have hitW : W.cell? ⟨H, 1, none⟩ = some (.slice (some ⟨g, 0, none⟩) (m + 1) cap) := (hbW.cell (p := ⟨H, 1, none⟩) hHl).trans hit
  have a0W : W.cell? ⟨g, 0, none⟩ = some (.int .i64 (its.getD 0 (0, 0)).1) := (hbW.cell (p := ⟨g, 0, none⟩) hgl).trans a0
  have a1W : W.cell? ⟨g, 1, none⟩ = some (.float .f64 (Fl.W (its.getD 0 (0, 0)).2)) := (hbW.cell (p := ⟨g, 1, none⟩) hgl).trans a1
  obtain ⟨x0, hx0⟩ : ∃ x, x = its.getD 0 (0, 0) := ⟨_, rfl⟩
  rw [← hx0] at a0W a1W
  have HX0 : Hid (x0 = its.getD 0 (0, 0)) := hx0
  have HSZ : Hid (W.heap.size = w.heap.size + 2) := hsz
  have hHW1 : H < W.heap.size := by omega
  have hgW1 : g < W.heap.size := by omega
  clear hW hit a0 a1 hx0
  have hN : w.heap.size < W.heap.size ∧ w.heap.size + 1 < W.heap.size := by omega
  clear hsz
  go_region
  have hb4 : Below W.heap.size W (W.alloc (Obj.cells #[Value.int IntKind.i64 x0.1, Value.float FloatKind.f64 (Fl.W x0.2)] 170)).drew := ((Below.refl _ _).alloc (Nat.le_refl _) _).drew
  have BF : Blk (W.alloc (Obj.cells #[Value.int IntKind.i64 x0.1, Value.float FloatKind.f64 (Fl.W x0.2)] 170)).drew W.heap.size 170 [.int .i64 x0.1, .float .f64 (Fl.W x0.2)] := blk_new W [.int .i64 x0.1, .float .f64 (Fl.W x0.2)] 170
  generalize (W.alloc (Obj.cells #[Value.int IntKind.i64 x0.1, Value.float FloatKind.f64 (Fl.W x0.2)] 170)).drew = W4 at *
  have hH4 := hHW.below' hb4
  replace BZ := BZ.below' hb4
  replace BR := BR.below' hb4
  clear hHW hitW a0W a1W
  have hit4 := hH4.items
  have hml : m < its.length := by rw [HM.out]; omega
  rw [HM.out] at hit4
  obtain ⟨b0, b1, fb0, fb1⟩ := hH4.cells hml
  obtain ⟨a0, a1, fa0, fa1⟩ := hH4.cells h0
  have pl := hH4.at' hml
  obtain ⟨xl, hxl⟩ : ∃ x, x = its.getD m (0, 0) := ⟨_, rfl⟩
  rw [← hxl] at b0 b1 pl
  have HXL : Hid (xl = its.getD m (0, 0)) := hxl
  simp only [Nat.zero_mul, Nat.zero_add] at a0 a1 fa0 fa1
  clear hxl
  have i0 : (0 : Int) ≤ (m : Int) := by omega
  have i1 : (m : Int) < ((m : Int) + 1) := by omega
  go_wp2
  go_region
  have hH5 : HeapIn ((W4.setCell ⟨g, 0, none⟩ (.int .i64 xl.1)).setCell ⟨g, 1, none⟩ (.float .f64 (Fl.W xl.2))).drew H g cap (its.set 0 xl) := (hH4.put h0 xl pl).drew
  have hg5 : W4.grownBy ((W4.setCell ⟨g, 0, none⟩ (.int .i64 xl.1)).setCell ⟨g, 1, none⟩ (.float .f64 (Fl.W xl.2))).drew (some g) := grown_drew (grown_set (grown_set (grown_refl _ _) _ _) _ _)
  generalize ((W4.setCell ⟨g, 0, none⟩ (.int .i64 xl.1)).setCell ⟨g, 1, none⟩ (.float .f64 (Fl.W xl.2))).drew = W5 at *
  replace BZ := BZ.grown hg5 (by simp; omega)
  replace BR := BR.grown hg5 (by simp; omega)
  replace BF := BF.grown hg5 (by simp; omega)
  clear a0 a1 fa0 fa1 b0 b1 fb0 fb1 hit4
  have hit5 := hH5.items
  rw [List.length_set, HM.out] at hit5
  obtain ⟨b0, b1, fb0, fb1⟩ := hH5.cells (i := m) (by rw [List.length_set]; exact hml)
  have z0 : W5.cell? ⟨w.heap.size + 1, 0, none⟩ = some (.int .i64 0) := BZ.cell (i := 0) (by simp) undef
  have z1 : W5.cell? ⟨w.heap.size + 1, 1, none⟩ = some (.float .f64 0) := BZ.cell (i := 1) (by simp) undef
  generalize (its.set 0 xl).getD m (0, 0) = xq at *
  go_wp2
  go_region
  have hH6 := (hH5.put (i := m) (by rw [List.length_set]; exact hml) (0, 0) (by decide)).drew
  simp only [W_zero] at hH6
  have hg6 : W5.grownBy ((W5.setCell ⟨g, m * 2, none⟩ (.int .i64 0)).setCell ⟨g, m * 2 + 1, none⟩ (.float .f64 0)).drew (some g) := grown_drew (grown_set (grown_set (grown_refl _ _) _ _) _ _)
  generalize ((W5.setCell ⟨g, m * 2, none⟩ (.int .i64 0)).setCell ⟨g, m * 2 + 1, none⟩ (.float .f64 0)).drew = W6 at *
  replace BR := BR.grown hg6 (by simp; omega)
  replace BF := BF.grown hg6 (by simp; omega)
  clear b0 b1 fb0 fb1 hit5 z0 z1 BZ
  have hit6 := hH6.items
  have fr6 := hH6.head.frozen 1
  rw [List.length_set, List.length_set, HM.out] at hit6
  have hcap : m + 1 ≤ cap := by have := hH6.le; rw [List.length_set, List.length_set, HM.out] at this; exact this
  have hH7 := hH6.cutTo m (by rw [List.length_set, List.length_set, HM.out]; omega)
  have hpop : ((its.set 0 xl).set m (0, 0)).take m = popL its := by
    unfold popL
    rw [show its.length - 1 = m by rw [HM.out]; omega, ← HXL.out, List.take_set_of_le (by omega)]
  rw [hpop] at hH7
  have HH7 : Hid (HeapIn (W6.setCell ⟨H, 1, none⟩ (.slice (some ⟨g, 0, none⟩) m cap)) H g cap (popL its)) := hH7
  clear hH7 hpop
  go_wp2_with fail
  refine (sink_both H g cap (popL its) _ HH7.out).mono ?_
  rintro e w8 ⟨rfl, hH8, hg8⟩
  have hlt := hH8.lt
  replace BR := (BR.setOther (a := ⟨H, 1, none⟩) (by simp; omega) (.slice (some ⟨g, 0, none⟩) m cap)).grown hg8 (by simp; omega)
  replace BF := (BF.setOther (a := ⟨H, 1, none⟩) (by simp; omega) (.slice (some ⟨g, 0, none⟩) m cap)).grown hg8 (by simp; omega)
  have f0 : w8.cell? ⟨W.heap.size, 0, none⟩ = some (.int .i64 x0.1) := BF.cell (i := 0) (by simp) undef
  have f1 : w8.cell? ⟨W.heap.size, 1, none⟩ = some (.float .f64 (Fl.W x0.2)) := BF.cell (i := 1) (by simp) undef
  have r0 : w8.cell? ⟨w.heap.size, 0, none⟩ = some (.int .i64 0) := BR.cell (i := 0) (by simp) undef
  have r1 : w8.cell? ⟨w.heap.size, 1, none⟩ = some (.float .f64 0) := BR.cell (i := 1) (by simp) undef
  have g0 := BR.frozen 0
  have g1 := BR.frozen 1
  have hfr := pop_frame HSZ.out hHl hgl hbW hb4 hg5 hg6 hg8 hlt
  have HFR : Hid _ := hfr
  have hH9 := (hH8.setOther (a := ⟨w.heap.size, 0, none⟩) (by simp; omega) (by simp; omega) (.int .i64 x0.1)).setOther (a := ⟨w.heap.size, 1, none⟩) (by simp; omega) (by simp; omega) (.float .f64 (Fl.W x0.2))
  rw [popL_length] at hH9
  have HH9 : Hid _ := hH9
  clear hH9 hfr hit6 fr6 HH7
  go_wp2
  refine bodyPost_ret (v := .tuple #[.agg #[.int .i64 x0.1, .float .f64 (Fl.W x0.2)], .bool true]) (by simp [results, Tryd.results130, go_sem, r0, r1]) rfl ⟨by rw [HX0.out], HH9.out, (HFR.out _ _).1, (HFR.out _ _).2⟩
end Go.Proofs.YtlodenfdcckemaaDoor

/-
  The walk of the program's order of variables.
-/

namespace Go.Proofs.YtlodenfdcckemaaDoor
open Go.RowKit

attribute [local go_sem] run_store_float

theorem riseL_length : ∀ (f : Nat) (l : List Itm) (k : Nat), (riseL f l k).length = l.length
  | 0, _, _ => rfl
  | f + 1, l, k => by
    unfold riseL
    split
    · rfl
    · split
      · rw [riseL_length f, swapL_length]
      · rfl

theorem sinkL_length : ∀ (f : Nat) (l : List Itm) (k : Nat), (sinkL f l k).length = l.length
  | 0, _, _ => rfl
  | f + 1, l, k => by
    unfold sinkL
    split
    · rfl
    · rw [sinkL_length f, swapL_length]

/-- The heap when the first i variables are in. -/
def built (wt : Nat → Nat) : Nat → List Itm
  | 0 => []
  | i + 1 => riseL (i + 1) (built wt i ++ [((i : Int) + 1, wt i)]) i

theorem built_length (wt : Nat → Nat) : ∀ i, (built wt i).length = i
  | 0 => rfl
  | i + 1 => by rw [built, riseL_length]; simp [built_length wt i]

/-- What comes out of a heap. -/
def drain : Nat → List Itm → List Int
  | 0, _ => []
  | f + 1, l => (l.getD 0 (0, 0)).1 :: drain f (sinkL (l.length - 1) (popL l) 0)

theorem HeapAt.push {w w' : World} {H : Nat} {v : Value} {wt : Nat → Nat} {k : Nat} {g cap : Nat} (_h : HeapAt w H v (built wt k)) (h : HeapIn w' H g cap (riseL ((built wt k).length + 1) (built wt k ++ [((k : Int) + 1, wt k)]) (built wt k).length)) :
    HeapAt w' H (.slice (some ⟨g, 0, none⟩) (k + 1) cap) (built wt (k + 1)) := by
  rw [built_length] at h
  exact Or.inr ⟨g, cap, by rw [built_length], h⟩

theorem HeapAt.low {w : World} {H : Nat} {v : Value} {its : List Itm} (h : HeapAt w H v its) {k : Nat} (e : v.ownBlock = some k) : H < k ∧ k < w.heap.size := by
  have := h.own.lt k e
  omega

def lenOf : Value → Nat | .slice _ n _ => n | _ => 0

theorem HeapAt.inn {w : World} {H : Nat} {v : Value} {its : List Itm} (h : HeapAt w H v its) (h0 : 0 < its.length) : ∃ g cap, v = .slice (some ⟨g, 0, none⟩) its.length cap ∧ HeapIn w H g cap its := by
  rcases h with ⟨_, h, _⟩ | h
  · rw [h] at h0; simp at h0
  · exact h

theorem HeapIn.alloc {w : World} {H g cap : Nat} {its : List Itm} (h : HeapIn w H g cap its) (o : Obj) : HeapIn (w.alloc o) H g cap its := h.below' ((Below.refl _ _).alloc (Nat.le_refl _) o)
theorem HeapIn.grown {w w' : World} {H g cap : Nat} {its : List Itm} {r : Nat} (h : HeapIn w H g cap its) (hg : w.grownBy w' (Option.some r)) (h1 : r ≠ H) (h2 : r ≠ g) : HeapIn w' H g cap its :=
  ⟨h.head.grown hg (by simpa using h1), h.row.elim fun x hx => ⟨x, hx.1.grown hg (by simpa using h2), hx.2⟩, h.lt, h.cap63, h.le, h.some20, h.some⟩
theorem HeapIn.toAt {w : World} {H g cap : Nat} {its : List Itm} (h : HeapIn w H g cap its) : HeapAt w H (.slice (Option.some ⟨g, 0, none⟩) its.length cap) its := Or.inr ⟨g, cap, rfl, h⟩

theorem row1_full {w : World} {g cap : Nat} {t : TypeId} {xs : List Value} (h : Row1 w g t cap xs) (hl : xs.length = cap) : Blk w g t xs := by
  obtain ⟨r, h1, h2⟩ := h
  have : r = [] := by rw [List.length_append] at h2; exact List.eq_nil_of_length_eq_zero (by omega)
  rw [this, List.append_nil] at h1
  exact h1

set_option maxHeartbeats 1000000 in
theorem order_any (n : Nat) (ao : Option Addr) (cap : Nat) (cs : List (List Int)) (w : World) (hc : ListsAt w w.heap.size ao cs) (hg : Good n cs) :
    Calls Tryd.prog 114 #[.agg #[.int .i64 n, .slice ao cs.length cap]] w fun e w' => ∃ g, e = .returned (.slice (some ⟨g, 0, none⟩) n n) ∧ w.heap.size ≤ g ∧
      Blk w' g 3 ((drain n (built (weight cs) n)).map (Value.int .i64)) ∧ Below w.heap.size w w' := by
  have hn := hg.vars
  have hw1 : Below w.heap.size w (w.alloc (.cells #[.int .i64 n, .slice ao cs.length cap] 31)) := (Below.refl _ _).alloc (Nat.le_refl _) _
  have B0 := blk_new w [.int .i64 n, .slice ao cs.length cap] 31
  have hW0 : (w.alloc (.cells #[.int .i64 n, .slice ao cs.length cap] 31)).heap.size = w.heap.size + 1 := by simp
  go_enter Tryd.func114, Tryd.ntmps114
  go_wp2_with fail
  change Blk (w.alloc (.cells #[.int .i64 n, .slice ao cs.length cap] 31)) w.heap.size 31 _ at B0
  generalize w.alloc (.cells #[.int .i64 n, .slice ao cs.length cap] 31) = W at *
  refine (newHeap_any W).mono ?_
  rintro e w1 ⟨rfl, hH1, hb1⟩
  have hbw1 := hw1.trans (hb1.mono (by omega))
  have B1 := B0.below' hb1
  have c0 : w1.cell? ⟨w.heap.size, 0, none⟩ = some (.int .i64 n) := B1.cell (i := 0) (by simp) undef
  have c1 : w1.cell? ⟨w.heap.size, 1, none⟩ = some (.slice ao cs.length cap) := B1.cell (i := 1) (by simp) undef
  have hc1 := (hc.below hbw1 (Nat.le_refl _)).mono hbw1.size
  have HS : Hid (W.heap.size = w.heap.size + 1) := hW0
  clear hW0 hc
  go_wp2_with fail
  refine (ofVariables_any n ao cap cs w1 hc1 hg).mono ?_
  rintro e w2 ⟨g2, rfl, hg2, hB2, hb2⟩
  have hH2 : HeapAt w2 W.heap.size (.slice none 0 0) [] := Or.inl ⟨rfl, rfl, hH1.head.below' hb2⟩
  have B2 := B1.below' hb2
  have hbw2 := hbw1.trans (hb2.mono hbw1.size)
  have hHg : W.heap.size < g2 := Nat.lt_of_lt_of_le hH1.head.lt hg2
  clear c0 c1 hc1 B1 B0 hH1 hb1 hb2 hw1
  go_wp2
  go_loopw [13] (fun i wr => ∃ (k : Nat) (v : Value), k ≤ n ∧ i = .int .i64 k ∧ HeapAt wr W.heap.size v (built (weight cs) k) ∧ v.ownBlock ≠ some g2 ∧ Blk wr g2 159 (varCells n cs n) ∧ Blk wr w.heap.size 31 [.int .i64 n, .slice ao cs.length cap] ∧ Below w.heap.size w wr) (fun i _ => n - (intOf i).toNat)
  case atStart => exact ⟨0, _, by omega, rfl, hH2, by simp [Value.ownBlock], hB2, B2, hbw2⟩
  case round =>
    clear hH2 hB2 B2
    obtain ⟨k, v, hk, rfl, hHv, hv2, hBv, hB0, hb⟩ := hrel
    by_cases hlt : k < n
    · have hcell := hBv.cell (i := k) (by simp [varCells]; omega) undef
      have hval : (varCells n cs n).getD k undef = .float .f64 (Fl.W (weight cs k)) := by unfold varCells; rw [range_getD _ _ _ _ hlt, if_pos hlt]
      rw [hval] at hcell
      have hwt := hg.weight_le k
      clear hval
      go_wp2_with fail
      refine (push_any W.heap.size v (built (weight cs) k) ((k : Int) + 1, weight cs k) wr hHv (by rw [built_length]; omega) (by simp only; omega)).mono ?_
      rintro e w3 ⟨rfl, g3, cap3, hH3, hg3, hfr3, hbl3⟩
      have hH3' := hHv.push hH3
      go_wp2
      go_roundw
      case rel =>
        refine ⟨k + 1, _, by omega, by go_num, hH3', ?_, ?_, ?_, hb.trans (hbl3.mono (by have := HS.out; omega))⟩
        · intro e
          simp [Value.ownBlock] at e
          rcases hg3 with h | h
          · exact hv2 (by rw [h, e])
          · have := hBv.lt; omega
        · exact hBv.of_block (hfr3 g2 hBv.lt (by omega) hv2)
        · exact hB0.of_block (hfr3 _ hB0.lt (by have := HS.out; omega) (fun e => by have := (hHv.low e).1; have := HS.out; omega))
      case measure => simp [intOf]; omega
    · obtain rfl : k = n := by omega
      have c0 : wr.cell? ⟨w.heap.size, 0, none⟩ = some (.int .i64 k) := hB0.cell (i := 0) (by simp) undef
      go_wp2_with (at_make; refine wpList_make_blk2 _ rfl (.const (.int .i64 0)) (.tmp 26) 24 rfl 3 (.int .i64 0) 8 Tryd.underlying24 Tryd.info3 rfl .i64 .i64 0 k _ _ rfl rfl (by omega) (by omega) (by omega) (by omega) (by omega) ?_; intro w4 hB4 hb4 hs4)
      have hsz3 : (Tryd.prog.info? 3).map (·.size) = some 1 := by kernel_rfl
      have hbw4 := hb.trans (hb4.mono hb.size)
      have hH4 : HeapAt w4 W.heap.size v (built (weight cs) k) := by
        rcases hHv with ⟨h1, h2, h3⟩ | ⟨gg, cc, h1, h2⟩
        · exact Or.inl ⟨h1, h2, h3.below' hb4⟩
        · exact Or.inr ⟨gg, cc, h1, h2.below' hb4⟩
      have hvG : v.ownBlock ≠ some wr.heap.size := fun e => by have := (hHv.low e).2; omega
      have hGH : W.heap.size < wr.heap.size := hHv.head.lt
      have hGw : w.heap.size ≤ wr.heap.size := hb.size
      have hR4 : Row1 w4 wr.heap.size 3 k (([] : List Int).map (Value.int .i64)) := ⟨_, hB4, by simp⟩
      generalize wr.heap.size = G at *
      go_loopw [6] (fun x wr => ∃ (outs : List Int) (l : List Itm) (v : Value), outs.length + l.length = k ∧ x = .slice (some ⟨G, 0, none⟩) outs.length k ∧ HeapAt wr W.heap.size v l ∧ v.ownBlock ≠ some G ∧ Row1 wr G 3 k (outs.map (Value.int .i64)) ∧ Hid (drain k (built (weight cs) k) = outs ++ drain l.length l) ∧ Below w.heap.size w wr) (fun x _ => k - lenOf x)
      case atStart => exact ⟨[], built (weight cs) k, v, by simp [built_length], rfl, hH4, hvG, hR4, by unfold Hid; rw [built_length]; rfl, hbw4⟩
      case round =>
        clear hH4 hR4 hB4 hHv hBv hB0 hv2 hb hbw2 hs4 hvG hbw4
        obtain ⟨outs, l, v, hlen, rfl, hHv, hvG, hR, hD, hb⟩ := hrel
        have hsm := hHv.small.1
        by_cases h0 : 0 < l.length
        · obtain ⟨g5, cap5, rfl, hI⟩ := hHv.inn h0
          go_wp2_with fail
          refine (len_any W.heap.size _ l _ hHv).mono ?_
          rintro e w' ⟨rfl, rfl⟩
          go_wp2_with fail
          refine (pop_any W.heap.size g5 cap5 l _ hI h0).mono ?_
          rintro e w5 ⟨rfl, hI5, hfr5, hbl5⟩
          have hgG : g5 ≠ G := by simpa [Value.ownBlock] using hvG
          have hR5 := hR.of_block (hfr5 G hR.lt (by omega) (fun e => hgG e.symm))
          obtain ⟨f, hf⟩ : ∃ f, l.length = f + 1 := ⟨l.length - 1, by omega⟩
          have hdr : drain (f + 1) l = (l.getD 0 (0, 0)).1 :: drain f (sinkL (l.length - 1) (popL l) 0) := rfl
          obtain ⟨x0, hx0⟩ : ∃ x0, x0 = l.getD 0 (0, 0) := ⟨_, rfl⟩
          rw [← hx0] at hdr ⊢
          have HDR : Hid _ := hdr
          have HF : Hid (l.length = f + 1) := hf
          have hol : outs.length + 1 ≤ k := by omega
          have HDD : Hid (drain k (built (weight cs) k) = outs ++ drain l.length l) := hD
          clear hx0 hdr hf hR hI hfr5 hD
          have hRa := (hR5.alloc (Obj.cells #[Value.int IntKind.i64 x0.1, Value.float FloatKind.f64 (Fl.W x0.2)] 170)).alloc (Obj.cells #[Value.int IntKind.i64 x0.1] 3)
          have hIa := (hI5.alloc (Obj.cells #[Value.int IntKind.i64 x0.1, Value.float FloatKind.f64 (Fl.W x0.2)] 170)).alloc (Obj.cells #[Value.int IntKind.i64 x0.1] 3)
          have hba : Below w.heap.size w ((w5.alloc (Obj.cells #[Value.int IntKind.i64 x0.1, Value.float FloatKind.f64 (Fl.W x0.2)] 170)).alloc (Obj.cells #[Value.int IntKind.i64 x0.1] 3)) :=
            ((hb.trans (hbl5.mono (by have := HS.out; omega))).alloc (by have := hb.size; have := hbl5.size; omega) _).alloc (by have := hb.size; have := hbl5.size; simp; omega) _
          have HRa : Hid _ := hRa
          clear hRa hR5
          go_wp2_with (at_builtin; refine wpList_append_one (.tmp 36) (.tmp 39) 24 3 Tryd.underlying24 hsz3 G k (w5.heap.size + 1) (outs.map (Value.int .i64)) (.int .i64 x0.1) outs.length (by simp) (by rfl) (by rfl) HRa.out (by unfold maxLen; omega) (by simp) rfl hol ?_; intro w6 hR6 hg6)
          go_roundw
          case rel =>
            have hI6 := hIa.grown hg6 (by omega) (fun e => hgG e.symm)
            refine ⟨outs ++ [x0.1], sinkL (l.length - 1) (popL l) 0, _, ?_, by simp, hI6.toAt, ?_, by simpa using hR6, ?_, hba.grown hg6 ?_ ?_⟩
            · rw [sinkL_length, popL_length, List.length_append, HF.out]; simp; have := HF.out; omega
            · simpa [Value.ownBlock] using hgG
            · show drain k (built (weight cs) k) = _
              rw [HDD.out, HF.out, HDR.out, sinkL_length, popL_length, HF.out, List.append_assoc]
              rfl
            · have := hba.size; omega
            · intro j e; simp at e; omega
          case measure => simp [lenOf]; omega
        · have hl0 : l = [] := List.eq_nil_of_length_eq_zero (by omega)
          subst hl0
          go_wp2_with fail
          refine (len_any W.heap.size _ [] _ hHv).mono ?_
          rintro e w' ⟨rfl, rfl⟩
          go_wp2
          go_ret
          simp only [List.length_nil, Nat.add_zero] at hlen
          refine ⟨G, by rw [← hlen]; rfl, hGw, ?_, hb⟩
          have hd := hD.out
          simp only [List.length_nil, drain, List.append_nil] at hd
          rw [hd]
          exact row1_full hR (by simp [hlen])
end Go.Proofs.YtlodenfdcckemaaDoor

/-
  A formula as it is handed in.
-/

namespace Go.Proofs.YtlodenfdcckemaaDoor
open Go.RowKit

/-- A formula's value. -/
abbrev fm (vars : Int) (ao : Option Addr) (cap : Nat) (cs : List (List Int)) : Value := .agg #[.int .i64 vars, .slice ao cs.length cap]
end Go.Proofs.YtlodenfdcckemaaDoor
