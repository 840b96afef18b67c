/-
  The walks of the heap's making, length and push.
-/
import Derived.Test.YtlodenfdcckemaaDoorH39
namespace Go.Proofs.YtlodenfdcckemaaDoor
open Go.RowKit

attribute [local go_sem] run_store_float
attribute [local go_sem ↓] Go.wp_at_zero Go.wp_at_succ

theorem Tryd.info170 : (Tryd.prog.info? 170).map (fun i => (i.zero, i.size, i.bytes)) = some (some (.agg #[.int .i64 0, .float .f64 0]), 2, 16) := by kernel_rfl

/-- The heap at block H, its items the value v. -/
def HeapAt (w : World) (H : Nat) (v : Value) (its : List Itm) : Prop :=
  (v = .slice none 0 0 ∧ its = [] ∧ Blk w H 181 [ahead, v]) ∨ ∃ g cap, v = .slice (some ⟨g, 0, none⟩) its.length cap ∧ HeapIn w H g cap its

theorem HeapAt.head {w : World} {H : Nat} {v : Value} {its : List Itm} (h : HeapAt w H v its) : Blk w H 181 [ahead, v] := by
  rcases h with ⟨_, _, h⟩ | ⟨g, cap, rfl, h⟩
  · exact h
  · exact h.head

theorem HeapAt.own {w : World} {H : Nat} {v : Value} {its : List Itm} (h : HeapAt w H v its) : w.ownsRow (H + 1) 170 2 v its.length (flat its) := by
  refine ⟨flat_length its, ?_⟩
  rcases h with ⟨h1, h2, _⟩ | ⟨g, cap, h1, h⟩
  · exact Or.inl ⟨h1, by rw [h2]; rfl⟩
  · obtain ⟨rest, hr, hl⟩ := h.row
    refine Or.inr ⟨g, cap, _, h1, h.lt, hr, h.le, h.cap63, by simpa using hl, ?_⟩
    rw [← flat_length]
    simp

theorem HeapAt.small {w : World} {H : Nat} {v : Value} {its : List Itm} (h : HeapAt w H v its) : its.length ≤ 20 ∧ ∀ a ∈ its, a.2 < 9007199254740992 := by
  rcases h with ⟨_, h2, _⟩ | ⟨g, cap, _, h⟩
  · rw [h2]; simp
  · exact ⟨h.some20, h.some⟩

theorem HeapAt.shape {w : World} {H : Nat} {v : Value} {its : List Itm} (h : HeapAt w H v its) : ∃ ao cap, v = .slice ao its.length cap := by
  rcases h with ⟨h1, h2, _⟩ | ⟨g, cap, h1, h⟩
  · exact ⟨none, 0, by rw [h1, h2]; rfl⟩
  · exact ⟨_, _, h1⟩

theorem heapIn_of {w : World} {H g cap : Nat} {its : List Itm} (hh : Blk w H 181 [ahead, .slice (some ⟨g, 0, none⟩) its.length cap]) (h : w.ownsRow (H + 1) 170 2 (.slice (some ⟨g, 0, none⟩) its.length cap) its.length (flat its)) (h20 : its.length ≤ 20) (hs : ∀ a ∈ its, a.2 < 9007199254740992) : HeapIn w H g cap its := by
  obtain ⟨_, h | ⟨g', cap', cur, he, hb, hg, hle, h63, hcs, htk⟩⟩ := h
  · obtain ⟨h, _⟩ := h; simp at h
  · simp only [Value.slice.injEq, Option.some.injEq, Addr.mk.injEq, and_true, true_and] at he
    obtain ⟨rfl, rfl⟩ := he
    refine ⟨hh, ⟨cur.toList.drop (its.length * 2), ?_, ?_⟩, hb, h63, hle, h20, hs⟩
    · rw [← htk, List.take_append_drop]; exact hg
    · rw [← htk, List.take_append_drop]; simpa using hcs

set_option maxHeartbeats 400000 in
theorem newHeap_any (w : World) : Calls Tryd.prog 125 #[ahead] w fun e w' => e = .returned (.pointer (some ⟨w.heap.size, 0, none⟩)) ∧ HeapAt w' w.heap.size (.slice none 0 0) [] ∧ Below w.heap.size w w' := by
  have hB := blk_new w [ahead, .slice none 0 0] 181
  have hb : Below w.heap.size w (w.alloc (.cells #[ahead, .slice none 0 0] 181)) := (Below.refl _ _).alloc (Nat.le_refl _) _
  unfold ahead at *
  go_enter Tryd.func125, Tryd.ntmps125
  go_wp2
  go_ret
  exact ⟨rfl, Or.inl ⟨rfl, rfl, hB⟩, hb⟩

set_option maxHeartbeats 400000 in
theorem len_any (H : Nat) (v : Value) (its : List Itm) (w : World) (h : HeapAt w H v its) :
    Calls Tryd.prog 129 #[.pointer (some ⟨H, 0, none⟩)] w fun e w' => e = .returned (.int .i64 its.length) ∧ w' = w := by
  obtain ⟨ao, cap, rfl⟩ := h.shape
  have hc := h.head.cell (i := 1) (by simp) undef
  have h20 := h.small.1
  simp only [List.getD_cons_succ, List.getD_cons_zero] at hc
  go_enter Tryd.func129, Tryd.ntmps129
  go_wp2
  go_ret
  exact ⟨rfl, rfl⟩

theorem flat_append (l m : List Itm) : flat (l ++ m) = flat l ++ flat m := by simp [flat]

theorem push_mid {w W w1 : World} {O : Obj} {H g cap : Nat} {v : Value} {its : List Itm} {a : Itm} (hsz : W.heap.size = w.heap.size + 1) (hbW : Below w.heap.size w W) (hhdW : Blk W H 181 [ahead, v])
    (hown1 : w1.ownsRow (H + 1) 170 2 (.slice (some ⟨g, 0, none⟩) (its.length + 1) cap) (its.length + 1) (flat its ++ itm a)) (hgrow : (W.alloc O).drew.grownBy w1 v.ownBlock) (hat : v.ownBlock = some g ∨ g = W.heap.size + 1) (_hlt : g < w1.heap.size) (hneH : v.ownBlock ≠ some H)
    (hn2 : its.length + 1 ≤ 20) (hlo : ∀ k, v.ownBlock = some k → H + 1 ≤ k) (hsm : ∀ a ∈ its, a.2 < 9007199254740992) (ha : a.2 < 9007199254740992) :
    HeapIn (w1.setCell ⟨H, 1, none⟩ (.slice (some ⟨g, 0, none⟩) (its.length + 1) cap)) H g cap (its ++ [a]) ∧ (v.ownBlock = some g ∨ w.heap.size ≤ g) ∧
      (∀ k, k < w.heap.size → k ≠ H → v.ownBlock ≠ some k → (w1.setCell ⟨H, 1, none⟩ (.slice (some ⟨g, 0, none⟩) (its.length + 1) cap)).heap[k]? = w.heap[k]?) ∧ Below H w (w1.setCell ⟨H, 1, none⟩ (.slice (some ⟨g, 0, none⟩) (its.length + 1) cap)) := by
  have hB1 : Blk w1 H 181 [ahead, v] := Blk.grown (hhdW.alloc _).drew hgrow hneH
  have hgH : H + 1 ≤ g := by
    rcases hat with h | h
    · exact hlo g h
    · have := hhdW.lt; omega
  have hfr : ∀ k, k < w.heap.size → k ≠ H → v.ownBlock ≠ some k → (w1.setCell ⟨H, 1, none⟩ (.slice (some ⟨g, 0, none⟩) (its.length + 1) cap)).heap[k]? = w.heap[k]? := by
    intro k hk hkH hkv
    rw [Below.heap_setCell _ _ _ _ hkH, hgrow.block k (by simp [World.drew]; omega) (fun e => hkv e.symm)]
    rw [show ((W.alloc O).drew).heap[k]? = (W.alloc O).heap[k]? from rfl, Below.heap_alloc _ _ _ (by omega), hbW.block k hk]
  refine ⟨?_, ?_, hfr, ?_⟩
  · have hst := hB1.set 1 (.slice (some ⟨g, 0, none⟩) (its.length + 1) cap)
    have how := ownsRow_setCell_below hown1 (a := ⟨H, 1, none⟩) (by simp) (.slice (some ⟨g, 0, none⟩) (its.length + 1) cap)
    have hl : (its ++ [a]).length = its.length + 1 := by simp
    refine heapIn_of (by rw [hl]; exact hst) ?_ (by omega) ?_
    · rw [hl, flat_append]
      have : flat [a] = itm a := by simp [flat]
      rw [this]
      exact how
    · intro b hb
      rcases List.mem_append.1 hb with hb | hb
      · exact hsm b hb
      · simp at hb; rw [hb]; exact ha
  · rcases hat with h | h
    · exact Or.inl h
    · right; omega
  · refine ⟨?_, ?_, ?_, ?_, fun k hk => hfr k (by have := hhdW.lt; omega) (by omega) (fun e => by have := hlo k e; omega)⟩
    · exact (hgrow.os).trans hbW.os
    · exact (hgrow.tape).trans hbW.tape
    · exact (hgrow.output).trans hbW.output
    · have h1 := hgrow.size
      have h2 : W.heap.size ≤ (W.alloc O).drew.heap.size := by simp [World.drew]
      have h3 := hbW.size
      simp only [World.setCell, Array.size_modify]
      omega

theorem push_end {w w2 w3 : World} {H g cap : Nat} {v : Value} {its : List Itm} (hHI : HeapIn w2 H g cap its) (hgg : v.ownBlock = some g ∨ w.heap.size ≤ g) (hfr : ∀ k, k < w.heap.size → k ≠ H → v.ownBlock ≠ some k → w2.heap[k]? = w.heap[k]?) (hbl : Below H w w2) (hg3 : w2.grownBy w3 (some g)) :
    (∀ k, k < w.heap.size → k ≠ H → v.ownBlock ≠ some k → w3.heap[k]? = w.heap[k]?) ∧ Below H w w3 := by
  have hlt := hHI.lt
  have hsz := hbl.size
  refine ⟨fun k hk h1 h2 => ?_, ?_⟩
  · refine (hg3.block k (by omega) ?_).trans (hfr k hk h1 h2)
    intro e
    simp only [Option.some.injEq] at e
    rcases hgg with h | h
    · exact h2 (by rw [h, e])
    · omega
  · refine hbl.trans ⟨hg3.os, hg3.tape, hg3.output, hg3.size, fun k hk => hg3.block k (by have := hHI.head.lt; omega) ?_⟩
    intro e
    simp only [Option.some.injEq] at e
    omega

set_option maxHeartbeats 1000000 in
theorem push_any (H : Nat) (v : Value) (its : List Itm) (a : Itm) (w : World) (h : HeapAt w H v its) (hn : its.length < 20) (ha : a.2 < 9007199254740992) :
    Calls Tryd.prog 128 #[.pointer (some ⟨H, 0, none⟩), .agg #[.int .i64 a.1, .float .f64 (Fl.W a.2)]] w fun e w' => e = .returned (.tuple #[]) ∧
      ∃ g cap, HeapIn w' H g cap (riseL (its.length + 1) (its ++ [a]) its.length) ∧ (v.ownBlock = some g ∨ w.heap.size ≤ g) ∧ (∀ k, k < w.heap.size → k ≠ H → v.ownBlock ≠ some k → w'.heap[k]? = w.heap[k]?) ∧ Below H w w' := by
  have hown := h.own
  have hhd := h.head
  obtain ⟨hsm, hsm2⟩ := h.small
  have hHl := hhd.lt
  have hit : w.cell? ⟨H, 1, none⟩ = some v := hhd.cell (i := 1) (by simp) undef
  obtain ⟨ao, cap0, hv⟩ := h.shape
  obtain ⟨i0, hi, hz0, hz1, hz2⟩ := info_parts Tryd.info170
  have hone : ∀ u ∈ itm a, u.oneCell' = true := by intro u hu; simp [itm] at hu; rcases hu with rfl | rfl <;> rfl
  go_enter Tryd.func128, Tryd.ntmps128
  go_wp2
  generalize hW : w.alloc (Obj.cells #[Value.int IntKind.i64 a.1, Value.float FloatKind.f64 (Fl.W a.2)] 170) = W
  have hsz : W.heap.size = w.heap.size + 1 := by rw [← hW]; simp
  have c0 : W.cell? ⟨w.heap.size, 0, none⟩ = some (.int .i64 a.1) := by rw [← hW]; simp
  have c1 : W.cell? ⟨w.heap.size, 1, none⟩ = some (.float .f64 (Fl.W a.2)) := by rw [← hW]; simp
  have hbW : Below w.heap.size w W := by rw [← hW]; exact (Below.refl _ _).alloc (Nat.le_refl _) _
  have hownW : W.ownsRow (H + 1) 170 2 v its.length (flat its) := by rw [← hW]; exact hown.alloc _
  have hitW : W.cell? ⟨H, 1, none⟩ = some v := (hbW.cell (p := ⟨H, 1, none⟩) hHl).trans hit
  have hhdW := hhd.below' hbW
  clear hW hown hit
  have hHW : H + 1 ≤ W.heap.size := by omega
  have hHW' : H < W.heap.size := hHW
  have hNW : w.heap.size < W.heap.size := by omega
  have HV : Hid (v = .slice ao its.length cap0) := hv
  have HSZ : Hid (W.heap.size = w.heap.size + 1) := hsz
  clear hv hsz
  have hn2 : its.length + 1 ≤ 20 := hn
  have hneH : v.ownBlock ≠ some H := fun e => by have := (hownW.lt H e).1; omega
  have hfrH : W.frozen? ⟨H, 1, none⟩ = false := hhdW.frozen 1
  go_region_law ((refine step_append_lies _ (by rfl) (.tmp 8) (.tmp 10) 179 (by rfl) (H + 1) 170 i0 (.agg #[.int .i64 0, .float .f64 0]) 2 16 Tryd.underlying179 hi hz0 hz1 hz2 (by rfl) (by decide) v its.length (flat its) (by rfl) (by exact hownW.alloc _) ⟨W.heap.size, 0, none⟩ 1 1 (itm a) (by rfl) (by rfl) (by exact World.news_of_block (heap_alloc_new W _)) hone (by decide) (by unfold maxLen; omega) (by omega) (by simp; omega) (W.heap.size + 1) (by simp) ?_; intro g cap w1 hown1 hgrow hat hlt; have B1 := Blk.grown (hhdW.alloc _).drew hgrow hneH; have d1 : w1.cell? ⟨H, 1, none⟩ = some v := B1.cell (i := 1) (by simp) undef; have d2 : w1.frozen? ⟨H, 1, none⟩ = false := B1.frozen 1))
  all_goals
    have hr := push_mid HSZ.out hbW hhdW hown1 hgrow hat hlt hneH hn2 (fun k e => (hownW.lt k e).1) hsm2 ha
    obtain ⟨hHI, hgg, hfrm, hbl⟩ := hr
    have hit2 := hHI.items
    go_wp2_with fail
    refine (rise_any H g cap (its ++ [a]) its.length _ hHI (by simp)).mono ?_
    rintro e w3 ⟨rfl, hH3, hg3⟩
    go_wp2
    go_end0
    have hp := push_end hHI hgg hfrm hbl hg3
    rw [List.length_append, List.length_singleton] at hH3
    exact ⟨rfl, g, cap, hH3, hgg, hp.1, hp.2⟩
end Go.Proofs.YtlodenfdcckemaaDoor
