/-
  Several texts, one behind the other.
-/
import Derived.Test.YtlodenfdcckemaaDoorH29
import Derived.Test.YtlodenfdcckemaaDoorH9
/-
  The program's head and its next line.
-/

namespace Go.Proofs.YtlodenfdcckemaaDoor
open Go.RowKit

theorem remark_prefix (r : Bytes) : Lib.hasPrefix r [99] = remark r := by
  cases r with
  | nil => rfl
  | cons b r =>
    simp [Lib.hasPrefix, remark, List.isPrefixOf]
    rw [Bool.eq_iff_iff, beq_iff_eq, beq_iff_eq]
    exact eq_comm

theorem alloc_below' (w : World) (o : Obj) : Below w.heap.size w (w.alloc o) := (Below.refl _ _).alloc (Nat.le_refl _) o

/-- How long the text that is left is. -/
def leftOf (w : World) (L : Nat) : Nat := match w.cell? ⟨L, 0, none⟩ with | some (.string s) => s.size | _ => 0
theorem leftOf_eq {w : World} {L : Nat} {s : ByteArray} {v : Value} (h : Blk w L 117 [.string s, v]) : leftOf w L = s.size := by
  unfold leftOf
  rw [h.cell (i := 0) (by simp) undef]; rfl

/-- What next answers, and what it leaves. -/
def Next (L : Nat) (k : Int) (s : ByteArray) (e : Ending) (w' : World) : Prop := ∃ s' : ByteArray, s'.size ≤ s.size ∧
  (((rows (bs s)).dropWhile remark = [] ∧ e = .returned (.tuple #[.string ByteArray.empty, .bool false]) ∧ Blk w' L 117 [.string s', .int .i64 (k + (rows (bs s)).length)]) ∨
   (∃ a : ByteArray, (rows (bs s)).dropWhile remark = bs a :: rows (bs s') ∧ a.size ≤ s.size ∧ ((rows (bs s)).takeWhile remark).length + 1 + s'.size ≤ s.size ∧ e = .returned (.tuple #[.string a, .bool true]) ∧ Blk w' L 117 [.string s', .int .i64 (k + ((rows (bs s)).takeWhile remark).length + 1)]))

/-- Some lines have been passed by. -/
def Passed (s s' : ByteArray) (j : Nat) : Prop := ∃ pre, rows (bs s) = pre ++ rows (bs s') ∧ (∀ r ∈ pre, remark r = true) ∧ pre.length = j

theorem Passed.step {s s' : ByteArray} {j : Nat} (h : Passed s s' j) (hne : bs s' ≠ []) (hr : remark (row (bs s')) = true) : Passed s ⟨(rest (bs s')).toArray⟩ (j + 1) := by
  obtain ⟨pre, h1, h2, h3⟩ := h
  refine ⟨pre ++ [row (bs s')], ?_, ?_, by simp [h3]⟩
  · rw [h1, rows_eq _ hne]; simp [bs]
  · intro r hr'
    rcases List.mem_append.1 hr' with h | h
    · exact h2 r h
    · simp at h; rw [h]; exact hr

theorem Passed.done {s s' : ByteArray} {j : Nat} (h : Passed s s' j) (he : bs s' = []) : (rows (bs s)).dropWhile remark = [] ∧ (rows (bs s)).length = j := by
  obtain ⟨pre, h1, h2, h3⟩ := h
  rw [he] at h1
  simp [rows] at h1
  rw [h1]
  refine ⟨?_, h3⟩
  clear h1 h3
  induction pre with
  | nil => rfl
  | cons p pre ih => rw [List.dropWhile_cons, if_pos (h2 p (by simp))]; exact ih (fun r hr => h2 r (by simp [hr]))

theorem Passed.hit {s s' : ByteArray} {j : Nat} (h : Passed s s' j) (hne : bs s' ≠ []) (hr : remark (row (bs s')) = false) : (rows (bs s)).dropWhile remark = row (bs s') :: rows (rest (bs s')) ∧ ((rows (bs s)).takeWhile remark).length = j := by
  obtain ⟨pre, h1, h2, h3⟩ := h
  rw [h1, rows_eq _ hne, List.dropWhile_append_of_pos h2, List.takeWhile_append_of_pos h2]
  simp [hr, h3]

set_option maxHeartbeats 2000000 in
theorem next_any (L : Nat) (s : ByteArray) (k : Int) (m : Int) (w : World) (hB : Blk w L 117 [.string s, .int .i64 k]) (hs : s.size ≤ 2000000) (hk : 0 ≤ k ∧ k ≤ 4000000) (hm : w.cell? ⟨1, 0, none⟩ = some (.int .i64 m)) (hL : L ≠ 1) :
    Calls Tryd.prog 86 #[.pointer (some ⟨L, 0, none⟩)] w fun e w' => Next L k s e w' ∧ Chg (· = L) w w' := by
  go_enter Tryd.func86, Tryd.ntmps86
  go_wp2
  go_loopw [4] (fun _ wr => ∃ (s' : ByteArray) (j : Nat), s'.size ≤ s.size ∧ (j : Int) + s'.size ≤ s.size ∧ Blk wr L 117 [.string s', .int .i64 (k + j)] ∧ Hid (Passed s s' j) ∧ Chg (· = L) w wr) (fun _ wr => leftOf wr L)
  case atStart => exact ⟨s, 0, Nat.le_refl _, by omega, by simpa using hB, ⟨[], rfl, by simp, rfl⟩, Chg.refl _ _⟩
  case round =>
    obtain ⟨s', j, hle, hj, hB', hp, hC⟩ := hrel
    have c0 : wr.cell? ⟨L, 0, none⟩ = some (.string s') := hB'.cell (i := 0) (by simp) undef
    have c1 : wr.cell? ⟨L, 1, none⟩ = some (.int .i64 (k + j)) := hB'.cell (i := 1) (by simp) undef
    have f0 := hB'.frozen 0
    have f1 := hB'.frozen 1
    have hemp := empty_bs s'
    by_cases hz : s'.size = 0
    · have he : s'.toList.isEmpty = true := by rw [hemp]; exact decide_eq_true hz
      have hbs : bs s' = [] := List.length_eq_zero_iff.1 (by rw [← size_bs]; exact hz)
      have hbs' : Hid (bs s' = []) := hbs
      clear hemp hbs
      go_wp2
      go_ret2
      refine ⟨⟨s', hle, Or.inl ?_⟩, hC⟩
      obtain ⟨h1, h2⟩ := hp.out.done hbs'.out
      exact ⟨h1, rfl, by rw [h2]; exact hB'⟩
    · have he : s'.toList.isEmpty = false := by rw [hemp]; exact decide_eq_false hz
      have hne : bs s' ≠ [] := fun e => hz (by rw [size_bs, e]; rfl)
      obtain ⟨e1, e2⟩ := cut_row (bs s')
      have hs4 : s'.size < 4294967281 := by omega
      have hm' : wr.cell? ⟨1, 0, none⟩ = some (.int .i64 m) := hC.cell (fun e => hL e.symm) hm
      have hrl : (⟨(row (bs s')).toArray⟩ : ByteArray).size ≤ s'.size := by rw [size_bs, size_bs]; exact row_length _
      have hre : (⟨(rest (bs s')).toArray⟩ : ByteArray).size < s'.size := by rw [size_bs, size_bs]; exact rest_length _ hne
      have hpre := remark_prefix (row (bs s'))
      cases hrm : remark (row (bs s')) with
      | true =>
        rw [hrm] at hpre
        have hstep := hp.out.step hne hrm
        clear hemp
        go_wp2_with (first
          | (go_at_call 102; refine (Tryd.strings_Cut _ _ m _ hs4 hm').mono ?_; rintro e w' ⟨rfl, n, rfl⟩; rw [show (Lib.cut s'.data.toList [10]).1 = row (bs s') from e1, show (Lib.cut s'.data.toList [10]).2.1 = rest (bs s') from e2])
          | (go_at_call 103; refine (Tryd.strings_HasPrefix _ _ _).mono ?_; rintro e w' ⟨rfl, rfl⟩; rw [show Lib.hasPrefix _ _ = true from hpre]))
        have hset := ((hB'.drewN n).set 0 (.string ⟨(rest (bs s')).toArray⟩)).set 1 (.int .i64 (k + j + 1))
        go_roundw
        case rel => exact ⟨⟨(rest (bs s')).toArray⟩, j + 1, by omega, by omega, by rw [show k + ((j + 1 : Nat) : Int) = k + j + 1 by omega]; exact hset, hstep, ((hC.drewN n).set (p := ⟨L, 0, none⟩) rfl _).set (p := ⟨L, 1, none⟩) rfl _⟩
        case measure =>
          rw [leftOf_eq hB']
          refine Nat.lt_of_le_of_lt (Nat.le_of_eq (leftOf_eq (v := .int .i64 (k + j + 1)) hset)) hre
      | false =>
        rw [hrm] at hpre
        obtain ⟨h1, h2⟩ := hp.out.hit hne hrm
        have h1' : Hid ((rows (bs s)).dropWhile remark = row (bs s') :: rows (rest (bs s'))) := h1
        have h2' : Hid (((rows (bs s)).takeWhile remark).length = j) := h2
        clear hemp h1 h2
        go_wp2_with (first
          | (go_at_call 102; refine (Tryd.strings_Cut _ _ m _ hs4 hm').mono ?_; rintro e w' ⟨rfl, n, rfl⟩; rw [show (Lib.cut s'.data.toList [10]).1 = row (bs s') from e1, show (Lib.cut s'.data.toList [10]).2.1 = rest (bs s') from e2])
          | (go_at_call 103; refine (Tryd.strings_HasPrefix _ _ _).mono ?_; rintro e w' ⟨rfl, rfl⟩; rw [show Lib.hasPrefix _ _ = false from hpre]))
        go_ret2
        have hset := ((hB'.drewN n).set 0 (.string ⟨(rest (bs s')).toArray⟩)).set 1 (.int .i64 (k + j + 1))
        refine ⟨⟨⟨(rest (bs s')).toArray⟩, by omega, Or.inr ⟨⟨(row (bs s')).toArray⟩, h1'.out, by omega, by rw [h2'.out]; omega, rfl, ?_⟩⟩, ((hC.drewN n).set (p := ⟨L, 0, none⟩) rfl _).set (p := ⟨L, 1, none⟩) rfl _⟩
        rw [h2'.out]
        exact hset

theorem piece_le (n : Nat) (l : Bytes) : ∀ x ∈ Lib.splitK [32] 0 n l, x.length ≤ l.length := by
  induction n generalizing l with
  | zero => intro x hx; simp [Lib.splitK] at hx; rw [hx]; exact Nat.le_refl _
  | succ n ih =>
    intro x hx
    rw [splitK_succ] at hx
    split at hx
    · rcases List.mem_cons.1 hx with rfl | hx
      · exact (List.takeWhile_prefix _).length_le
      · have h1 := ih _ x hx
        have h2 : (l.dropWhile (· != 32)).length ≤ l.length := (List.dropWhile_suffix _).length_le
        rw [List.length_drop] at h1
        omega
    · simp at hx; rw [hx]; exact Nat.le_refl _

theorem cells_four (a b c d : ByteArray) : Lib.cellsOf [a, b, c, d] 4 = #[.string a, .string b, .string c, .string d] := rfl

theorem four_of {X : List ByteArray} (h : X.length = 4) : ∃ a b c d, X = [a, b, c, d] := by
  match X, h with
  | [a, b, c, d], _ => exact ⟨a, b, c, d, rfl⟩

theorem list_eq_beq (a : ByteArray) (l : Bytes) (h : bs a = l) : (a.toList == l) = true := by rw [Lib.toList_data]; simpa using h
theorem list_ne_beq (a : ByteArray) (l : Bytes) (h : bs a ≠ l) : (a.toList == l) = false := by rw [Lib.toList_data]; simpa using h

theorem headX_some {l : Bytes} {v c : Nat} (h : headOf l = some (v, c)) : headErr (headOf l) = (if 20 < v then 3 else if 200 < c then 4 else 0) ∧ headV l = v ∧ headC l = c := by
  unfold headErr headV headC; rw [h]; exact ⟨rfl, rfl, rfl⟩

theorem figsN_some {l : Bytes} {n : Nat} (h : figs l = some n) : figsN l = n := by unfold figsN; rw [h]

set_option maxHeartbeats 4000000 in
theorem head_any (s : ByteArray) (m : Int) (w : World) (hs : s.size ≤ 2000000) (hm : w.cell? ⟨1, 0, none⟩ = some (.int .i64 m)) :
    Calls Tryd.prog 87 #[.string s] w fun e w' => e = .returned (.tuple #[.int .i64 (headX (bs s)), .int .i64 (headY (bs s)), .int .i64 (headErr (headOf (bs s)))]) ∧ Below w.heap.size w w' := by
  have call := Tryd.strings_SplitN s ⟨#[32]⟩ 4 m w (by omega) hm (by decide) (by decide) (by decide)
  obtain ⟨X, hX⟩ : ∃ X, X = Lib.splitB ⟨#[32]⟩ 0 (min 4 (s.size + 1) - 1) s := ⟨_, rfl⟩
  rw [← hX] at call
  have hmap : 3 ≤ s.size → X.map (·.data.toList) = Lib.splitK [32] 0 3 (bs s) := by
    intro h3
    rw [hX, show min 4 (s.size + 1) - 1 = 3 by omega]
    exact Lib.splitB_data _ _ _ _
  have hlen : X.length ≤ min 4 (s.size + 1) - 1 + 1 := by rw [hX]; exact Lib.splitB_length_le _ _ _ _
  by_cases h4 : X.length = 4
  · obtain ⟨a, b, c, d, rfl⟩ := four_of h4
    have h3 : 3 ≤ s.size := by simp at hlen; omega
    have hh := head_four (hmap h3).symm
    rw [show min 4 (s.size + 1) = 4 by omega, cells_four] at call
    have hc : c.size ≤ 4000000 := by
      have := piece_le 3 (bs s) (bs c) (by rw [← hmap h3]; simp)
      rw [← size_bs, ← size_bs] at this; omega
    have hd : d.size ≤ 4000000 := by
      have := piece_le 3 (bs s) (bs d) (by rw [← hmap h3]; simp)
      rw [← size_bs, ← size_bs] at this; omega
    clear hlen hX hmap h4
    by_cases ha : bs a = [112]
    · have ha' := list_eq_beq a _ ha
      by_cases hb' : bs b = [99, 110, 102]
      · have hb'' := list_eq_beq b _ hb'
        have hh' : Hid (headOf (bs s) = match figs (bs c), figs (bs d) with | some v, some n => some (v, n) | _, _ => none) := by
          show headOf (bs s) = _
          rw [hh]; unfold fourSay; rw [if_pos ⟨ha, hb'⟩]
          cases figs (bs c) <;> cases figs (bs d) <;> rfl
        clear hh ha hb'
        cases hfc : figs (bs c) with
        | none =>
          have hE : Hid (headX (bs s) = 0 ∧ headY (bs s) = 0 ∧ headErr (headOf (bs s)) = 1) := headX_none (by rw [hh'.out, hfc])
          have hso : (figs (bs c)).isSome = false := by rw [hfc]; rfl
          clear hfc
          go_enter Tryd.func87, Tryd.ntmps87
          go_wp2_with (first
            | (go_at_call 104; refine call.mono ?_; clear call; rintro e w' ⟨rfl, rfl⟩)
            | (go_at_call 105; refine (figures_any c hc _).mono ?_; clear hc; rintro e w' ⟨rfl, rfl⟩)
            | (go_at_call 105; refine (figures_any d hd _).mono ?_; rintro e w' ⟨rfl, rfl⟩))
          go_ret3
          refine ⟨?_, alloc_below' w _⟩
          rw [hE.out.1, hE.out.2.1, hE.out.2.2]; rfl
        | some v =>
          have hso : (figs (bs c)).isSome = true := by rw [hfc]; rfl
          have hvv := figsN_some hfc
          have hv6 := figs_le hfc
          cases hfd : figs (bs d) with
          | none =>
            have hE : Hid (headX (bs s) = 0 ∧ headY (bs s) = 0 ∧ headErr (headOf (bs s)) = 1) := headX_none (by rw [hh'.out, hfc, hfd])
            have hso' : (figs (bs d)).isSome = false := by rw [hfd]; rfl
            clear hfc hfd
            go_enter Tryd.func87, Tryd.ntmps87
            go_wp2_with (first
              | (go_at_call 104; refine call.mono ?_; clear call; rintro e w' ⟨rfl, rfl⟩)
              | (go_at_call 105; refine (figures_any c hc _).mono ?_; clear hc; rintro e w' ⟨rfl, rfl⟩)
              | (go_at_call 105; refine (figures_any d hd _).mono ?_; rintro e w' ⟨rfl, rfl⟩))
            go_ret3
            refine ⟨?_, alloc_below' w _⟩
            rw [hE.out.1, hE.out.2.1, hE.out.2.2]; rfl
          | some n =>
            have hso' : (figs (bs d)).isSome = true := by rw [hfd]; rfl
            have hnn := figsN_some hfd
            have hn6 := figs_le hfd
            have hE0 := headX_some (l := bs s) (v := v) (c := n) (by rw [hh'.out, hfc, hfd])
            have hE : Hid (headX (bs s) = (if (if 20 < v then (3 : Int) else if 200 < n then 4 else 0) = 0 then (v : Int) else 0) ∧ headY (bs s) = (if (if 20 < v then (3 : Int) else if 200 < n then 4 else 0) = 0 then (n : Int) else 0) ∧ headErr (headOf (bs s)) = (if 20 < v then 3 else if 200 < n then 4 else 0)) := by
              refine ⟨?_, ?_, hE0.1⟩
              · unfold headX; rw [hE0.1, hE0.2.1]
              · unfold headY; rw [hE0.1, hE0.2.2]
            clear hE0 hfc hfd
            by_cases hv20 : 20 < v
            · go_enter Tryd.func87, Tryd.ntmps87
              go_wp2_with (first
                | (go_at_call 104; refine call.mono ?_; clear call; rintro e w' ⟨rfl, rfl⟩)
                | (go_at_call 105; refine (figures_any c hc _).mono ?_; clear hc; rintro e w' ⟨rfl, rfl⟩)
                | (go_at_call 105; refine (figures_any d hd _).mono ?_; rintro e w' ⟨rfl, rfl⟩))
              go_ret3
              refine ⟨?_, alloc_below' w _⟩
              rw [hE.out.1, hE.out.2.1, hE.out.2.2]; simp only [hv20, if_true]; rfl
            · by_cases hn200 : 200 < n
              · go_enter Tryd.func87, Tryd.ntmps87
                go_wp2_with (first
                  | (go_at_call 104; refine call.mono ?_; clear call; rintro e w' ⟨rfl, rfl⟩)
                  | (go_at_call 105; refine (figures_any c hc _).mono ?_; clear hc; rintro e w' ⟨rfl, rfl⟩)
                  | (go_at_call 105; refine (figures_any d hd _).mono ?_; rintro e w' ⟨rfl, rfl⟩))
                go_ret3
                refine ⟨?_, alloc_below' w _⟩
                rw [hE.out.1, hE.out.2.1, hE.out.2.2]; simp only [hv20, hn200, if_true, if_false]; rfl
              · go_enter Tryd.func87, Tryd.ntmps87
                go_wp2_with (first
                  | (go_at_call 104; refine call.mono ?_; clear call; rintro e w' ⟨rfl, rfl⟩)
                  | (go_at_call 105; refine (figures_any c hc _).mono ?_; clear hc; rintro e w' ⟨rfl, rfl⟩)
                  | (go_at_call 105; refine (figures_any d hd _).mono ?_; rintro e w' ⟨rfl, rfl⟩))
                go_ret3
                refine ⟨?_, alloc_below' w _⟩
                rw [hE.out.1, hE.out.2.1, hE.out.2.2]; simp only [hv20, hn200, if_true, if_false]; rfl
      · have hb'' := list_ne_beq b _ hb'
        have hE : Hid (headX (bs s) = 0 ∧ headY (bs s) = 0 ∧ headErr (headOf (bs s)) = 1) := headX_none (by rw [hh]; unfold fourSay; rw [if_neg (fun h => hb' h.2)])
        clear hh ha hb'
        go_enter Tryd.func87, Tryd.ntmps87
        go_wp2_with (go_at_call 104; refine call.mono ?_; rintro e w' ⟨rfl, rfl⟩)
        go_ret3
        refine ⟨?_, alloc_below' w _⟩
        rw [hE.out.1, hE.out.2.1, hE.out.2.2]; rfl
    · have ha' := list_ne_beq a _ ha
      have hE : Hid (headX (bs s) = 0 ∧ headY (bs s) = 0 ∧ headErr (headOf (bs s)) = 1) := headX_none (by rw [hh]; unfold fourSay; rw [if_neg (fun h => ha h.1)])
      clear hh ha
      go_enter Tryd.func87, Tryd.ntmps87
      go_wp2_with (go_at_call 104; refine call.mono ?_; rintro e w' ⟨rfl, rfl⟩)
      go_ret3
      refine ⟨?_, alloc_below' w _⟩
      rw [hE.out.1, hE.out.2.1, hE.out.2.2]; rfl
  · have hno : headOf (bs s) = none := by
      by_cases h3 : 3 ≤ s.size
      · exact head_less (by rw [← hmap h3, List.length_map]; exact h4)
      · exact head_short (by rw [← size_bs]; omega)
    have hE : Hid (headX (bs s) = 0 ∧ headY (bs s) = 0 ∧ headErr (headOf (bs s)) = 1) := headX_none hno
    have hne : ((X.length : Int) != 4) = true := by simp; omega
    have hXl : X.length ≤ 4 := by omega
    clear hX hmap hno hlen
    generalize min 4 (s.size + 1) = N at call
    go_enter Tryd.func87, Tryd.ntmps87
    go_wp2_with (go_at_call 104; refine call.mono ?_; rintro e w' ⟨rfl, rfl⟩)
    go_ret3
    refine ⟨?_, alloc_below' w _⟩
    rw [hE.out.1, hE.out.2.1, hE.out.2.2]; rfl
end Go.Proofs.YtlodenfdcckemaaDoor

/-
  Clauses that are being made, in memory.
-/

namespace Go.Proofs.YtlodenfdcckemaaDoor
open Go.RowKit

/-- The blocks of the clauses. -/
def OB (vs : List Value) (vO : Value) (k : Nat) : Prop := ∃ y ∈ vs ++ [vO], y.ownBlock = some k
theorem OB.last {vs : List Value} {vO : Value} {k : Nat} (e : vO.ownBlock = some k) : OB vs vO k := ⟨vO, by simp, e⟩

structure Made (w : World) (base : Nat) (vE vO : Value) (vs : List Value) (s : St) : Prop where
  oe : Own w base 24 vE vs
  len : vs.length = s.ended.length
  ls : ∀ i, i < vs.length → Own w base 3 (vs.getD i undef) (ints (s.ended.getD i []))
  oo : Own w base 3 vO (ints s.opened)
  nd : ((vs ++ [vO]).filterMap Value.ownBlock).Nodup

namespace Made
variable {w w' : World} {base : Nat} {vE vO : Value} {vs : List Value} {s : St}

theorem start (w : World) (base : Nat) : Made w base (.slice none 0 0) (.slice none 0 0) [] ⟨[], []⟩ :=
  ⟨Own.nil _ _ _, rfl, fun i hi => absurd hi (by simp), Own.nil _ _ _, List.nodup_nil⟩

theorem chg {S : Nat → Prop} (h : Made w base vE vO vs s) (hc : Chg S w w') (hn : ∀ k, base ≤ k → k < w.heap.size → ¬ S k) : Made w' base vE vO vs s :=
  ⟨h.oe.chg hc (fun k e => hn k (h.oe.lt e).1 (h.oe.lt e).2), h.len, fun i hi => (h.ls i hi).chg hc (fun k e => hn k ((h.ls i hi).lt e).1 ((h.ls i hi).lt e).2), h.oo.chg hc (fun k e => hn k (h.oo.lt e).1 (h.oo.lt e).2), h.nd⟩

theorem chg' {S : Nat → Prop} (h : Made w base vE vO vs s) (hc : Chg S w w') (hE : ∀ k, vE.ownBlock = some k → ¬ S k) (hn : ∀ k, OB vs vO k → ¬ S k) : Made w' base vE vO vs s :=
  ⟨h.oe.chg hc (fun k e => hE k e), h.len, fun i hi => (h.ls i hi).chg hc (fun k e => hn k ⟨vs[i], List.mem_append.2 (Or.inl (List.getElem_mem hi)), by rw [getD_lt _ _ _ hi] at e; exact e⟩), h.oo.chg hc (fun k e => hn k (OB.last e)), h.nd⟩

theorem ob_lt (h : Made w base vE vO vs s) {k : Nat} (e : OB vs vO k) : base ≤ k ∧ k < w.heap.size := by
  obtain ⟨y, hy, e⟩ := e
  rcases List.mem_append.1 hy with hy | hy
  · obtain ⟨i, hi, rfl⟩ := List.getElem_of_mem hy
    have := h.ls i hi
    rw [getD_lt _ _ _ hi] at this
    exact this.lt e
  · simp at hy; subst hy; exact h.oo.lt e

/-- No block of the clauses has another type. -/
theorem ob_ne {B : Nat} {t : TypeId} {L : List Value} (h : Made w base vE vO vs s) (hB : Blk w B t L) (ht : t ≠ 3) : ¬ OB vs vO B := by
  rintro ⟨y, hy, e⟩
  rcases List.mem_append.1 hy with hy | hy
  · obtain ⟨i, hi, rfl⟩ := List.getElem_of_mem hy
    have := h.ls i hi
    rw [getD_lt _ _ _ hi] at this
    exact own_blk this hB (fun e => ht e.symm) e
  · simp at hy; subst hy; exact own_blk h.oo hB (fun e => ht e.symm) e

theorem below' (h : Made w base vE vO vs s) (hb : Below w.heap.size w w') : Made w' base vE vO vs s := h.chg (S := fun _ => False) (Chg.of_below hb) (fun _ _ _ e => e)

theorem drewN (h : Made w base vE vO vs s) (n : Nat) : Made (w.drewN n) base vE vO vs s := h.chg (S := fun _ => False) ((Chg.refl _ _).drewN n) (fun _ _ _ e => e)

theorem open_ne (h : Made w base vE vO vs s) {i : Nat} (hi : i < vs.length) {k : Nat} (e : vO.ownBlock = some k) : (vs.getD i undef).ownBlock ≠ some k := by
  intro e'
  have hnd := h.nd
  rw [List.filterMap_append, List.nodup_append] at hnd
  refine hnd.2.2 k ?_ k (by simp [e]) rfl
  rw [List.mem_filterMap]
  exact ⟨_, by rw [getD_lt _ _ _ hi]; exact List.getElem_mem hi, e'⟩

/-- A number more in the open clause. -/
theorem more {B : Nat} {t : TypeId} {L : List Value} {x : Int} {g cap : Nat} (h : Made w base vE vO vs s) (hB : Blk w B t L) (ht : t ≠ 3 ∧ t ≠ 24)
    (hown : Own w' base 3 (.slice (some ⟨g, 0, none⟩) (s.opened.length + 1) cap) (ints s.opened ++ [.int .i64 x])) (hC : Chg (fun k => vO.ownBlock = some k) w w') (hat : vO.ownBlock = some g ∨ w.heap.size ≤ g) :
    Made w' base vE (.slice (some ⟨g, 0, none⟩) (s.opened.length + 1) cap) vs ⟨s.ended, s.opened ++ [x]⟩ ∧ Blk w' B t L ∧ (∀ k, OB vs (.slice (some ⟨g, 0, none⟩) (s.opened.length + 1) cap) k → OB vs vO k ∨ w.heap.size ≤ k) := by
  refine ⟨⟨h.oe.chg hC (fun k e e' => own_ne h.oe h.oo (by decide) e e'), h.len, fun i hi => (h.ls i hi).chg hC (fun k e e' => h.open_ne hi e' e), ?_, ?_⟩, ?_, ?_⟩
  · simpa [ints] using hown
  · have hnd := h.nd
    rw [List.filterMap_append, List.nodup_append] at hnd ⊢
    refine ⟨hnd.1, by simp [Value.ownBlock], ?_⟩
    intro a ha b hb
    simp [Value.ownBlock] at hb
    subst hb
    rcases hat with e | e
    · exact hnd.2.2 a ha b (by simp [e])
    · obtain ⟨v, hv, hva⟩ := List.mem_filterMap.1 ha
      obtain ⟨i, hi, rfl⟩ := List.getElem_of_mem hv
      have := ((h.ls i hi).lt (g := a) (by rw [getD_lt _ _ _ hi]; exact hva)).2
      omega
  · exact hB.chg hC (fun e => own_blk h.oo hB (fun e => ht.1 e.symm) e)
  · rintro k ⟨y, hy, e⟩
    rcases List.mem_append.1 hy with hy | hy
    · exact Or.inl ⟨y, by simp [hy], e⟩
    · simp at hy
      rw [hy] at e
      simp [Value.ownBlock] at e
      subst e
      exact hat.imp (fun e => OB.last e) (fun e => e)

/-- The open clause has ended. -/
theorem ends {B : Nat} {t : TypeId} {L : List Value} {g cap : Nat} (h : Made w base vE vO vs s) (hB : Blk w B t L) (ht : t ≠ 3 ∧ t ≠ 24)
    (hown : Own w' base 24 (.slice (some ⟨g, 0, none⟩) (vs.length + 1) cap) (vs ++ [vO])) (hC : Chg (fun k => vE.ownBlock = some k) w w') :
    Made w' base (.slice (some ⟨g, 0, none⟩) (vs.length + 1) cap) (.slice none 0 0) (vs ++ [vO]) ⟨s.ended ++ [s.opened], []⟩ ∧ Blk w' B t L ∧ (∀ k, OB (vs ++ [vO]) (.slice none 0 0) k → OB vs vO k) := by
  have hl := h.len
  refine ⟨⟨hown, by simp [hl], fun i hi => ?_, Own.nil _ _ _, ?_⟩, ?_, ?_⟩
  · by_cases hlt : i < vs.length
    · have := (h.ls i hlt).chg hC (fun k e e' => own_ne h.oe (h.ls i hlt) (by decide) e' e)
      rw [getD_lt _ _ _ hi, List.getElem_append_left hlt, getD_lt _ _ _ (by simp; omega), List.getElem_append_left (by omega)]
      rw [getD_lt _ _ _ hlt, getD_lt _ _ _ (by omega)] at this
      exact this
    · have hi' : i = vs.length := by simp at hi; omega
      subst hi'
      have := h.oo.chg hC (fun k e e' => own_ne h.oe h.oo (by decide) e' e)
      rw [getD_lt _ _ _ hi, getD_lt _ _ _ (by simp; omega)]
      simpa [hl] using this
  · have hnd := h.nd
    rw [List.filterMap_append, show List.filterMap Value.ownBlock [Value.slice none 0 0] = [] from rfl, List.append_nil]
    exact hnd
  · exact hB.chg hC (fun e => own_blk h.oe hB (fun e => ht.2 e.symm) e)
  · rintro k ⟨y, hy, e⟩
    rcases List.mem_append.1 hy with hy | hy
    · exact ⟨y, hy, e⟩
    · simp at hy
      rw [hy] at e
      simp [Value.ownBlock] at e

end Made
end Go.Proofs.YtlodenfdcckemaaDoor
