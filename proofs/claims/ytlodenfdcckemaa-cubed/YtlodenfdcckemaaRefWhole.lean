/-
  The walks of the document's scores and of its weights of variables.
-/
import Derived.Test.YtlodenfdcckemaaRefParts
namespace Go.Proofs.Ytlodenfdcckemaa
open Go.RowKit

attribute [local go_sem] run_store_float

/-- The weights of the first k variables, in parts. -/
def wholeL (cs : List (List Int)) (k : Nat) : List Int := (List.range k).map fun i => ((weight cs i : Nat) : Int)
theorem wholeL_succ (cs : List (List Int)) (k : Nat) : wholeL cs (k + 1) = wholeL cs k ++ [((weight cs k : Nat) : Int)] := by simp [wholeL, List.range_succ]
theorem wholeL_length (cs : List (List Int)) (k : Nat) : (wholeL cs k).length = k := by simp [wholeL]

theorem litAt_even (k : Nat) : litAt (2 * k) = (k : Int) + 1 := by unfold litAt; rw [if_pos (by omega)]; omega
theorem litAt_odd (k : Nat) : litAt (2 * k + 1) = -((k : Int) + 1) := by unfold litAt; rw [if_neg (by omega)]; omega

theorem parts_at (n : Nat) (ao : Option Addr) (cap : Nat) (cs : List (List Int)) (l : Int) (w : World) (hc : ListsAt w w.heap.size ao cs) (hg : Good n cs) (p : Nat) (hp : p = partsOf cs l) :
    Calls Try.prog 31 #[.agg #[.int .i64 n, .slice ao cs.length cap], .int .i64 l] w fun e w' => e = .returned (.int .i64 p) ∧ Below w.heap.size w w' := by
  rw [hp]; exact parts_any n ao cap cs l w hc hg

set_option maxHeartbeats 1000000 in
theorem whole_any (n : Nat) (ao : Option Addr) (cap : Nat) (cs : List (List Int)) (w : World) (hc : ListsAt w w.heap.size ao cs) (hg : Good n cs) :
    Calls Try.prog 32 #[.agg #[.int .i64 n, .slice ao cs.length cap]] w fun e w' => ∃ v, e = .returned v ∧ Own w' w.heap.size 3 v ((wholeL cs n).map (Value.int .i64)) ∧ Below w.heap.size w w' := by
  have hn := hg.vars
  have hw1 : Below w.heap.size w (w.alloc (.cells #[.int .i64 n, .slice ao cs.length cap] 24)) := (Below.refl _ _).alloc (Nat.le_refl _) _
  have B0 : Blk (w.alloc (.cells #[.int .i64 n, .slice ao cs.length cap] 24)) w.heap.size 24 [.int .i64 n, .slice ao cs.length cap] := blk_new w [.int .i64 n, .slice ao cs.length cap] 24
  go_enter Try.func32, Try.ntmps32
  go_wp2
  generalize w.alloc (.cells #[.int .i64 n, .slice ao cs.length cap] 24) = W at *
  go_loopw [3, 4] (fun v i wr => ∃ (k : Nat), k ≤ n ∧ i = .int .i64 ((k : Int) + 1) ∧ Own wr (w.heap.size + 1) 3 v ((wholeL cs k).map (Value.int .i64)) ∧ Blk wr w.heap.size 24 [.int .i64 n, .slice ao cs.length cap] ∧ Below w.heap.size w wr) (fun _ i _ => n + 1 - (intOf i).toNat)
  case atStart => exact ⟨0, by omega, rfl, Own.nil _ _ _, B0, hw1⟩
  case round =>
    clear B0 hw1
    obtain ⟨k, hk, rfl, hO, hB, hb⟩ := hrel
    have c0 : wr.cell? ⟨w.heap.size, 0, none⟩ = some (.int .i64 n) := hB.cell (i := 0) (by simp) undef
    have c1 : wr.cell? ⟨w.heap.size, 1, none⟩ = some (.slice ao cs.length cap) := hB.cell (i := 1) (by simp) undef
    obtain ⟨vo, vc, hv⟩ := hO.shape
    rw [List.length_map, wholeL_length] at hv
    subst hv
    by_cases hlt : k < n
    · have hc1 := (hc.below hb (Nat.le_refl _)).mono hb.size
      obtain ⟨p, hp⟩ : ∃ p, p = partsOf cs ((k : Int) + 1) := ⟨_, rfl⟩
      obtain ⟨q, hq⟩ : ∃ q, q = partsOf cs (-((k : Int) + 1)) := ⟨_, rfl⟩
      have hpb := hg.parts_le ((k : Int) + 1)
      have hqb := hg.parts_le (-((k : Int) + 1))
      rw [← hp] at hpb
      rw [← hq] at hqb
      have hwt : Hid ((weight cs k : Nat) = p + q) := by unfold Hid weight; rw [litAt_even, litAt_odd, ← hp, ← hq]
      have HP : Hid (p = partsOf cs ((k : Int) + 1)) := hp
      have HQ : Hid (q = partsOf cs (-((k : Int) + 1))) := hq
      clear hp hq
      go_wp2_with fail
      refine (parts_at n ao cap cs _ wr hc1 hg p HP.out).mono ?_
      rintro e w2 ⟨rfl, hb2⟩
      have hB2 := hB.below' hb2
      have hO2 := hO.below' hb2
      have d0 : w2.cell? ⟨w.heap.size, 0, none⟩ = some (.int .i64 n) := hB2.cell (i := 0) (by simp) undef
      have d1 : w2.cell? ⟨w.heap.size, 1, none⟩ = some (.slice ao cs.length cap) := hB2.cell (i := 1) (by simp) undef
      have hbw2 := hb.trans (hb2.mono hb.size)
      have hc2 := (hc.below hbw2 (Nat.le_refl _)).mono hbw2.size
      clear c0 c1
      go_wp2_with fail
      refine (parts_at n ao cap cs _ w2 hc2 hg q HQ.out).mono ?_
      rintro e w3 ⟨rfl, hb3⟩
      have hB3 := hB2.below' hb3
      have hO3 := hO2.below' hb3
      have hbw3 := hbw2.trans (hb3.mono hbw2.size)
      have hsz3 := hB3.lt
      clear hO hO2 hB hB2 d0 d1 hc1 hc2
      have hOa := hO3.alloc (Obj.cells #[Value.int IntKind.i64 ((p : Int) + (q : Int))] 3)
      have hBa := hB3.alloc (Obj.cells #[Value.int IntKind.i64 ((p : Int) + (q : Int))] 3)
      have hNa : Blk (w3.alloc (Obj.cells #[Value.int IntKind.i64 ((p : Int) + (q : Int))] 3)) w3.heap.size 3 [Value.int IntKind.i64 ((p : Int) + (q : Int))] := blk_new w3 [Value.int IntKind.i64 ((p : Int) + (q : Int))] 3
      have hbwa : Below w.heap.size w (w3.alloc (Obj.cells #[Value.int IntKind.i64 ((p : Int) + (q : Int))] 3)) := hbw3.alloc hbw3.size _
      have hone : ∀ u ∈ [Value.int IntKind.i64 ((p : Int) + (q : Int))], u.oneCell' = true := by intro u hu; simp at hu; rw [hu]; rfl
      go_wp2_with (at_builtin; refine wpList_append_new (.tmp 20) (.tmp 24) 30 3 (.int .i64 0) 8 Try.underlying30 Try.info3 rfl (w.heap.size + 1) w3.heap.size _ _ [.int .i64 ((p : Int) + (q : Int))] 1 k (by simp [wholeL_length]) rfl (by decide) (by rfl) (by rfl) hOa hNa hone (by unfold maxLen; omega) (by omega) (by simp; omega) ?_; intro g4 cap4 w4 hO4 hg4 hat4 hlt4)
      go_roundw
      case rel =>
        refine ⟨k + 1, by omega, by go_num, ?_, ?_, ?_⟩
        · rw [wholeL_succ, List.map_append, hwt.out]
          simpa using hO4
        · exact hBa.grown hg4 (fun e => by have := (hOa.lt e).1; omega)
        · exact hbwa.grown hg4 hbwa.size (fun j e => by have := (hOa.lt e).1; omega)
      case measure => simp [intOf]; omega
    · obtain rfl : k = n := by omega
      go_wp2
      go_ret
      refine ⟨_, rfl, ?_, hb⟩
      rcases hO with h | ⟨g, cap', h1, h2, h3, h4⟩
      · exact Or.inl h
      · exact Or.inr ⟨g, cap', h1, by omega, h3, h4⟩
end Go.Proofs.Ytlodenfdcckemaa
