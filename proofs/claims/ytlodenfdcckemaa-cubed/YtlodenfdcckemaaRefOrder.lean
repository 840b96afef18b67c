/-
  The walk of the document's order of variables.
-/
import Derived.Test.YtlodenfdcckemaaRefScores
import Derived.Test.YtlodenfdcckemaaSort
namespace Go.Proofs.Ytlodenfdcckemaa
open Go.RowKit

theorem Try.info4 : (Try.prog.info? 4).map (fun i => (i.zero, i.size, i.bytes)) = some (some (.bool false), 1, 1) := by kernel_rfl

def item (wt : Nat → Nat) (j : Nat) : Itm := ((j : Int) + 1, wt j)

/-- Variables that were taken, the heaviest first. -/
structure Sel (n : Nat) (wt : Nat → Nat) (outs : List Nat) : Prop where
  nodup : outs.Nodup
  lt : ∀ i ∈ outs, i < n
  sorted : (outs.map (item wt)).Pairwise Le
  rest : ∀ i ∈ outs, ∀ j, j < n → j ∉ outs → Le (item wt i) (item wt j)

/-- The best of the first i that are not taken; -1: there is none. -/
def BestTo (wt : Nat → Nat) (outs : List Nat) (i : Nat) (s : Int) : Prop :=
  (s = -1 ∧ ∀ j, j < i → j ∈ outs) ∨ ∃ b : Nat, s = b ∧ b < i ∧ b ∉ outs ∧ ∀ j, j < i → j ∉ outs → wt j < wt b ∨ (wt j = wt b ∧ b ≤ j)

theorem best_skip {wt : Nat → Nat} {outs : List Nat} {i : Nat} {s : Int} (h : BestTo wt outs i s) (hi : i ∈ outs) : BestTo wt outs (i + 1) s := by
  rcases h with ⟨h1, h2⟩ | ⟨b, h1, h2, h3, h4⟩
  · refine Or.inl ⟨h1, fun j hj => ?_⟩
    by_cases e : j = i
    · rw [e]; exact hi
    · exact h2 j (by omega)
  · refine Or.inr ⟨b, h1, by omega, h3, fun j hj hn => ?_⟩
    by_cases e : j = i
    · rw [e] at hn; exact absurd hi hn
    · exact h4 j (by omega) hn
theorem best_first {wt : Nat → Nat} {outs : List Nat} {i : Nat} (h : ∀ j, j < i → j ∈ outs) (hi : i ∉ outs) : BestTo wt outs (i + 1) i := by
  refine Or.inr ⟨i, rfl, by omega, hi, fun j hj hn => ?_⟩
  by_cases e : j = i
  · rw [e]; right; omega
  · exact absurd (h j (by omega)) hn
theorem best_more {wt : Nat → Nat} {outs : List Nat} {i b : Nat} (h : ∀ j, j < i → j ∉ outs → wt j < wt b ∨ (wt j = wt b ∧ b ≤ j)) (hi : i ∉ outs) (hw : wt b < wt i) : BestTo wt outs (i + 1) i := by
  refine Or.inr ⟨i, rfl, by omega, hi, fun j hj hn => ?_⟩
  by_cases e : j = i
  · rw [e]; right; omega
  · have := h j (by omega) hn; left; omega
theorem best_stay {wt : Nat → Nat} {outs : List Nat} {i b : Nat} (hb : b < i) (hbo : b ∉ outs) (h : ∀ j, j < i → j ∉ outs → wt j < wt b ∨ (wt j = wt b ∧ b ≤ j)) (hw : wt i ≤ wt b) : BestTo wt outs (i + 1) b := by
  refine Or.inr ⟨b, rfl, by omega, hbo, fun j hj hn => ?_⟩
  by_cases e : j = i
  · rw [e]; omega
  · exact h j (by omega) hn

theorem sel_step {n : Nat} {wt : Nat → Nat} {outs : List Nat} {b : Nat} (h : Sel n wt outs) (hb : b < n) (hbo : b ∉ outs) (hbest : ∀ j, j < n → j ∉ outs → wt j < wt b ∨ (wt j = wt b ∧ b ≤ j)) : Sel n wt (outs ++ [b]) := by
  refine ⟨?_, ?_, ?_, ?_⟩
  · rw [List.nodup_append]
    refine ⟨h.nodup, by simp, fun x hx y hy => ?_⟩
    simp at hy
    rw [hy]
    exact fun e => hbo (e ▸ hx)
  · intro i hi
    rcases List.mem_append.1 hi with hi | hi
    · exact h.lt i hi
    · simp at hi; omega
  · rw [List.map_append, List.pairwise_append]
    refine ⟨h.sorted, by simp, fun x hx y hy => ?_⟩
    obtain ⟨i, hi, rfl⟩ := List.mem_map.1 hx
    simp at hy
    rw [hy]
    exact h.rest i hi b hb hbo
  · intro i hi j hj hn
    have hj1 : j ∉ outs := fun e => hn (List.mem_append_left _ e)
    have hjb : j ≠ b := fun e => hn (by simp [e])
    rcases List.mem_append.1 hi with hi | hi
    · exact h.rest i hi j hj hj1
    · simp at hi
      subst hi
      have := hbest j hj hj1
      unfold Le aheadOf item
      simp only [Bool.or_eq_false_iff, Bool.and_eq_false_iff, decide_eq_false_iff_not, beq_eq_false_iff_ne, ne_eq]
      omega

theorem sel_room {n : Nat} {wt : Nat → Nat} {outs : List Nat} (_h : Sel n wt outs) (hl : outs.length < n) : ¬ ∀ j, j < n → j ∈ outs := by
  intro ha
  have := List.Nodup.length_le_of_subset (l₁ := List.range n) (l₂ := outs) List.nodup_range (fun j hj => ha j (List.mem_range.1 hj))
  simp at this
  omega

theorem sel_all {n : Nat} {wt : Nat → Nat} {outs : List Nat} (h : Sel n wt outs) (hl : n ≤ outs.length) : ∀ i, i ∈ outs ↔ i < n := by
  intro i
  refine ⟨h.lt i, fun hi => ?_⟩
  refine Classical.byContradiction fun hn => ?_
  have := List.Nodup.length_le_of_subset (l₁ := i :: outs) (l₂ := List.range n) (List.nodup_cons.2 ⟨hn, h.nodup⟩) (fun j hj => by
    rcases List.mem_cons.1 hj with rfl | hj
    · exact List.mem_range.2 hi
    · exact List.mem_range.2 (h.lt j hj))
  simp at this
  omega

theorem sel_len {n : Nat} {wt : Nat → Nat} {outs : List Nat} (h : Sel n wt outs) : outs.length ≤ n := by
  have := List.Nodup.length_le_of_subset (l₁ := outs) (l₂ := List.range n) h.nodup (fun j hj => List.mem_range.2 (h.lt j hj))
  simpa using this

def doneCells (n : Nat) (outs : List Nat) : List Value := (List.range n).map fun i => .bool (decide (i ∈ outs))
theorem done_start (n : Nat) : List.replicate n (Value.bool false) = doneCells n [] := by
  rw [replicate_range]; exact range_congr _ _ _ fun i _ => by simp
theorem done_step (n : Nat) (outs : List Nat) (b : Nat) : (doneCells n outs).set b (.bool true) = doneCells n (outs ++ [b]) := by
  unfold doneCells
  rw [range_set]
  refine range_congr _ _ _ fun i _ => ?_
  by_cases e : i = b
  · subst e; simp
  · simp [e]
theorem done_get (n : Nat) (outs : List Nat) (i : Nat) (h : i < n) : (doneCells n outs).getD i undef = .bool (decide (i ∈ outs)) := range_getD _ _ _ _ h

def outCells (outs : List Nat) : List Value := outs.map fun (j : Nat) => .int .i64 ((j : Int) + 1)

set_option maxHeartbeats 2000000 in
theorem refOrder_any (n : Nat) (ao : Option Addr) (cap : Nat) (cs : List (List Int)) (w : World) (hc : ListsAt w w.heap.size ao cs) (hg : Good n cs) :
    Calls Try.prog 13 #[.agg #[.int .i64 n, .slice ao cs.length cap]] w fun e w' => ∃ v, e = .returned v ∧ Own w' w.heap.size 3 v ((drain n (built (weight cs) n)).map (Value.int .i64)) ∧ Below w.heap.size w w' := by
  have hn := hg.vars
  have hw1 : Below w.heap.size w (w.alloc (.cells #[.int .i64 n, .slice ao cs.length cap] 24)) := (Below.refl _ _).alloc (Nat.le_refl _) _
  have hW0 : (w.alloc (.cells #[.int .i64 n, .slice ao cs.length cap] 24)).heap.size = w.heap.size + 1 := by simp
  have B0 : Blk (w.alloc (.cells #[.int .i64 n, .slice ao cs.length cap] 24)) w.heap.size 24 [.int .i64 n, .slice ao cs.length cap] := blk_new w [.int .i64 n, .slice ao cs.length cap] 24
  go_enter Try.func13, Try.ntmps13
  go_wp2_with fail
  generalize w.alloc (.cells #[.int .i64 n, .slice ao cs.length cap] 24) = W at *
  have hc1 := (hc.below hw1 (Nat.le_refl _)).mono hw1.size
  refine (whole_any n ao cap cs W hc1 hg).mono ?_
  rintro e w1 ⟨v1, rfl, hO1, hb1⟩
  have hbw1 := hw1.trans (hb1.mono (by omega))
  have B1 := B0.below' hb1
  have c0 : w1.cell? ⟨w.heap.size, 0, none⟩ = some (.int .i64 n) := B1.cell (i := 0) (by simp) undef
  obtain ⟨vo, vc, rfl, hI1⟩ := hO1.ints (Nat.le_refl _)
  rw [wholeL_length]
  have hL : Hid (List.replicate n (Value.bool false) = doneCells n []) := done_start n
  have hN1 := B1.lt
  clear hW0 hc hc1 hw1 hb1 hO1 B0
  go_wp2_with (at_make; refine wpList_make_blk _ rfl (.tmp 11) (.tmp 11) 58 rfl 4 (.bool false) 1 Try.underlying58 Try.info4 rfl .i64 .i64 n _ _ rfl rfl (by omega) (by omega) (by omega) (by omega) ?_; rw [hL.out]; intro w2 hB2 hb2 hs2)
  have hsz1 := hbw1.size
  go_loopw [4] (fun v wr => ∃ (outs : List Nat), Sel n (weight cs) outs ∧ Own wr (w1.heap.size + 1) 3 v (outCells outs) ∧ Blk wr w1.heap.size 4 (doneCells n outs) ∧ IntsAt wr w1.heap.size vo (wholeL cs n) ∧ Blk wr w.heap.size 24 [.int .i64 n, .slice ao cs.length cap] ∧ Below w.heap.size w wr) (fun v _ => n - lenOf v)
  case atStart => exact ⟨[], ⟨by simp, by simp, by simp, by simp⟩, Own.nil _ _ _, hB2, hI1.below hb2 (Nat.le_refl _), B1.below' hb2, hbw1.trans (hb2.mono hsz1)⟩
  case round =>
    clear hB2 hb2 hs2 hI1 B1 hbw1 hL c0
    obtain ⟨outs, hSel, hO, hD, hI, hB, hb⟩ := hrel
    obtain ⟨uo, uc, hv⟩ := hO.shape
    have hol : (outCells outs).length = outs.length := by simp [outCells]
    rw [hol] at hv
    subst hv
    have c0 : wr.cell? ⟨w.heap.size, 0, none⟩ = some (.int .i64 n) := hB.cell (i := 0) (by simp) undef
    have hlen := sel_len hSel
    by_cases hlt : outs.length < n
    · go_wp2
      obtain ⟨w3, rfl⟩ : ∃ x, x = wr := ⟨wr, rfl⟩
      go_loopw [7, 6] (fun i s wr => ∃ (k : Nat) (x : Int), k ≤ n ∧ i = .int .i64 k ∧ s = .int .i64 x ∧ BestTo (weight cs) outs k x ∧ Below w3.heap.size w3 wr) (fun i _ _ => n - (intOf i).toNat)
      case atStart => exact ⟨0, -1, by omega, rfl, rfl, Or.inl ⟨rfl, fun j hj => by omega⟩, Below.refl _ _⟩
      case round =>
        obtain ⟨k, x, hk, rfl, rfl, hBest, hbw⟩ := hrel
        have hD2 := hD.below' hbw
        have hB2 := hB.below' hbw
        have hI2 := hI.below hbw (Nat.le_of_lt hD.lt)
        have d0 : wr.cell? ⟨w.heap.size, 0, none⟩ = some (.int .i64 n) := hB2.cell (i := 0) (by simp) undef
        clear c0
        by_cases hkn : k < n
        · have hdc := hD2.cell (i := k) (by simp [doneCells]; omega) undef
          rw [done_get _ _ _ hkn] at hdc
          have hi0 : (0 : Int) ≤ (k : Int) := by omega
          have hi1 : (k : Int) < (n : Int) := by omega
          by_cases hin : k ∈ outs
          · rw [decide_eq_true hin] at hdc
            have HB : Hid (BestTo (weight cs) outs (k + 1) x) := best_skip hBest hin
            clear hBest hin hSel
            go_wp2
            go_quiet (fail)
            go_wp2
            go_roundw
            case rel => exact ⟨k + 1, x, by omega, by go_num, rfl, HB.out, below_drewN hbw _⟩
            case measure => simp [intOf]; omega
          · rw [decide_eq_false hin] at hdc
            rcases hBest with ⟨rfl, hall⟩ | ⟨b, rfl, hbk, hbo, hmax⟩
            · have HB : Hid (BestTo (weight cs) outs (k + 1) k) := best_first hall hin
              have hneg : decide ((-1 : Int) < 0) = true := by decide
              clear hall hin hSel
              go_wp2
              go_quiet (fail)
              go_wp2
              go_roundw
              case rel => exact ⟨k + 1, k, by omega, by go_num, rfl, HB.out, below_drewN hbw _⟩
              case measure => simp [intOf]; omega
            · obtain ⟨bb, oo, rfl, hbl, hcell⟩ := hI2 (by intro h; have := congrArg List.length h; rw [wholeL_length] at this; simp at this; omega)
              have hck := hcell k (by rw [wholeL_length]; exact hkn)
              have hcb := hcell b (by rw [wholeL_length]; omega)
              rw [show (wholeL cs n).getD k 0 = ((weight cs k : Nat) : Int) from range_getD _ _ _ _ hkn] at hck
              rw [show (wholeL cs n).getD b 0 = ((weight cs b : Nat) : Int) from range_getD _ _ _ _ (by omega)] at hcb
              have hneg : decide ((b : Int) < 0) = false := by simp
              have hi2 : (0 : Int) ≤ (b : Int) := by omega
              have hi3 : (b : Int) < (n : Int) := by omega
              by_cases hw : weight cs b < weight cs k
              · have HB : Hid (BestTo (weight cs) outs (k + 1) k) := best_more hmax hin hw
                have ht : decide (weight cs b < weight cs k) = true := by simp [hw]
                clear hin hSel hmax hbo hcell
                generalize weight cs b = pb at *
                generalize weight cs k = pk at *
                go_wp2
                go_quiet (fail)
                go_wp2
                go_roundw
                case rel => exact ⟨k + 1, k, by omega, by go_num, rfl, HB.out, below_drewN hbw _⟩
                case measure => simp [intOf]; omega
              · have HB : Hid (BestTo (weight cs) outs (k + 1) b) := best_stay hbk hbo hmax (by omega)
                have ht : decide (weight cs b < weight cs k) = false := by simp; omega
                clear hin hSel hmax hbo hcell
                generalize weight cs b = pb at *
                generalize weight cs k = pk at *
                go_wp2
                go_quiet (fail)
                go_wp2
                go_roundw
                case rel => exact ⟨k + 1, b, by omega, by go_num, rfl, HB.out, below_drewN hbw _⟩
                case measure => simp [intOf]; omega
        · obtain rfl : k = n := by omega
          obtain ⟨b, rfl, hbk, hbo, hmax⟩ := hBest.resolve_left (fun h => sel_room hSel hlt h.2)
          have hnew := sel_step hSel hbk hbo hmax
          have hdc := hD2.cell (i := b) (by simp [doneCells]; omega) undef
          have hfr := hD2.frozen b
          have hset := hD2.set b (.bool true)
          rw [done_step] at hset
          have hO2 := hO.below' hbw
          have hbw2 := hb.trans (hbw.mono hb.size)
          have hst : Below w1.heap.size wr (wr.setCell ⟨w1.heap.size, b, none⟩ (.bool true)) := (Below.refl w1.heap.size wr).setCell (p := ⟨w1.heap.size, b, none⟩) (Nat.le_refl _) _
          have hO3 : Own (wr.setCell ⟨w1.heap.size, b, none⟩ (.bool true)) (w1.heap.size + 1) 3 (.slice uo outs.length uc) (outCells outs) := hO2.grown (grown_set (grown_refl wr (some w1.heap.size)) b _) (by
            cases hh : (Value.slice uo outs.length uc).ownBlock with
            | none => left; rfl
            | some g => right; intro e; have := (hO2.lt hh).1; simp at e; omega)
          have hB3 := hB2.setOther (a := ⟨w1.heap.size, b, none⟩) (by simp; omega) (.bool true)
          have hI3 := hI2.below hst (Nat.le_refl _)
          have hbw3 := hbw2.setCell (p := ⟨w1.heap.size, b, none⟩) hsz1 (.bool true)
          have hsz3 : (wr.setCell ⟨w1.heap.size, b, none⟩ (.bool true)).heap.size = wr.heap.size := by simp [World.setCell]
          generalize (doneCells k outs).getD b undef = old at *
          have hi2 : (0 : Int) ≤ (b : Int) := by omega
          have hi3 : (b : Int) < (k : Int) := by omega
          clear hD hI hO hB hmax hbo hSel hbw hb
          have hOa := hO3.alloc (Obj.cells #[.int .i64 ((b : Int) + 1)] 3)
          have hBa := hB3.alloc (Obj.cells #[.int .i64 ((b : Int) + 1)] 3)
          have hDa := hset.alloc (Obj.cells #[.int .i64 ((b : Int) + 1)] 3)
          have hbA : Below wr.heap.size (wr.setCell ⟨w1.heap.size, b, none⟩ (.bool true)) ((wr.setCell ⟨w1.heap.size, b, none⟩ (.bool true)).alloc (Obj.cells #[.int .i64 ((b : Int) + 1)] 3)) := (Below.refl _ _).alloc (by rw [hsz3]; exact Nat.le_refl _) _
          have hIa := hI3.below hbA (Nat.le_of_lt hD2.lt)
          have hbwa := hbw3.trans (hbA.mono hbw2.size)
          have hNa : Blk ((wr.setCell ⟨w1.heap.size, b, none⟩ (.bool true)).alloc (Obj.cells #[.int .i64 ((b : Int) + 1)] 3)) wr.heap.size 3 [.int .i64 ((b : Int) + 1)] := by
            have := blk_new (wr.setCell ⟨w1.heap.size, b, none⟩ (.bool true)) [.int .i64 ((b : Int) + 1)] 3
            rwa [hsz3] at this
          have hone : ∀ u ∈ [Value.int .i64 ((b : Int) + 1)], u.oneCell' = true := by intro u hu; simp at hu; rw [hu]; rfl
          have hDl := hD2.lt
          have HSZ : Hid _ := hsz3
          clear hO3 hB3 hset hI3 hbA hsz3 hst hbw3 hbw2 hB2 hI2 hO2
          go_wp2_with (at_builtin; refine wpList_append_new (.tmp 48) (.tmp 51) 30 3 (.int .i64 0) 8 Try.underlying30 Try.info3 rfl (w1.heap.size + 1) wr.heap.size _ _ [.int .i64 ((b : Int) + 1)] 1 outs.length hol rfl (by decide) (by rfl) (by rfl) hOa hNa hone (by unfold maxLen; omega) (by omega) (by simp [World.setCell]; omega) ?_; intro g4 cap4 w4 hO4 hg4 hat4 hlt4)
          have hsza : wr.heap.size + 1 = ((wr.setCell ⟨w1.heap.size, b, none⟩ (.bool true)).alloc (Obj.cells #[.int .i64 ((b : Int) + 1)] 3)).heap.size := by simp [World.setCell]
          have hno : ∀ j, (Value.slice uo outs.length uc).ownBlock = some j → w1.heap.size + 1 ≤ j := fun j e => (hOa.lt e).1
          go_roundw
          case rel =>
            refine ⟨outs ++ [b], hnew, ?_, ?_, ?_, ?_, ?_⟩
            · have e : outCells (outs ++ [b]) = outCells outs ++ [.int .i64 ((b : Int) + 1)] := by simp [outCells]
              rw [e]; exact hO4
            · exact hDa.grown hg4 (fun e => by have := hno _ e; omega)
            · exact hIa.below (B' := w1.heap.size) ((Below.refl _ _).grown hg4 (by omega) (fun j e => by have := hno j e; omega)) (Nat.le_refl _)
            · exact hBa.grown hg4 (fun e => by have := hno _ e; omega)
            · exact hbwa.grown hg4 (by omega) (fun j e => by have := hno j e; omega)
          case measure => simp [lenOf]; omega
    · have heq : outs.length = n := by omega
      go_wp2
      go_ret
      refine ⟨_, rfl, ?_, hb⟩
      have hd := drain_eq (weight cs) n outs hSel.nodup (sel_all hSel (by omega)) hSel.sorted
      rw [hd, List.map_map]
      rcases hO with h | ⟨g, cap', h1, h2, h3, h4⟩
      · exact Or.inl h
      · exact Or.inr ⟨g, cap', h1, by omega, h3, h4⟩
end Go.Proofs.Ytlodenfdcckemaa
