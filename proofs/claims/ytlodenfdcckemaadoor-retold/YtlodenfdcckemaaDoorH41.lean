/-
  The walk of the heap's pop.
-/
import Derived.Test.YtlodenfdcckemaaDoorH40
namespace Go.Proofs.YtlodenfdcckemaaDoor
open Go.RowKit

attribute [local go_sem] run_store_float

set_option maxHeartbeats 400000 in
theorem sink_nil (H g cap : Nat) (w : World) (h : HeapIn w H g cap []) :
    Calls Tryd.prog 138 #[.pointer (some ⟨H, 0, none⟩), .int .i64 0] w fun e w' => e = .returned (.tuple #[]) ∧ HeapIn w' H g cap [] ∧ w.grownBy w' (some g) := by
  go_enter Tryd.func138, Tryd.ntmps138
  go_wp2
  refine wp_loop_rounds 1 ?_
  rw [rounds_succ]
  go_wp2_with fail
  refine (foremost_at H g cap [] _ _ 1 2 (by omega) (by omega) _ h (by simp) (by omega) (by omega) 1 rfl).mono ?_
  rintro e w1 ⟨rfl, hb1⟩
  have hH1 := h.below' hb1
  go_wp2_with fail
  refine (foremost_at H g cap [] _ _ 0 1 (by omega) (by omega) _ hH1 (by simp) (by omega) (by omega) 0 rfl).mono ?_
  rintro e w2 ⟨rfl, hb2⟩
  have hH2 := hH1.below' hb2
  go_wp2
  refine bodyPost_ret (v := .tuple #[]) (results_none rfl _ _ _) rfl ?_
  exact ⟨rfl, hH2, grown_trans (grown_below _ hb1) (grown_below _ hb2)⟩

/-- What is left when the foremost item is taken out and the last laid in its place. -/
def popL (l : List Itm) : List Itm := (l.set 0 (l.getD (l.length - 1) (0, 0))).take (l.length - 1)

theorem popL_length (l : List Itm) : (popL l).length = l.length - 1 := by simp [popL]

theorem sink_both (H g cap : Nat) (its : List Itm) (w : World) (h : HeapIn w H g cap its) :
    Calls Tryd.prog 138 #[.pointer (some ⟨H, 0, none⟩), .int .i64 0] w fun e w' => e = .returned (.tuple #[]) ∧ HeapIn w' H g cap (sinkL its.length its 0) ∧ w.grownBy w' (some g) := by
  by_cases h0 : its = []
  · subst h0; exact sink_nil H g cap w h
  · exact sink_any H g cap its w h h0

theorem flat_take : ∀ (l : List Itm) (m : Nat), (flat l).take (m * 2) = flat (l.take m)
  | [], m => by simp [flat]
  | a :: l, 0 => by simp [flat]
  | a :: l, m + 1 => by
    rw [flat_cons, List.take_succ_cons, flat_cons, show (m + 1) * 2 = m * 2 + 1 + 1 by omega, List.take_succ_cons, List.take_succ_cons, flat_take l m]

theorem HeapIn.cutTo {w : World} {H g cap : Nat} {its : List Itm} (h : HeapIn w H g cap its) (m : Nat) (hm : m ≤ its.length) : HeapIn (w.setCell ⟨H, 1, none⟩ (.slice (.some ⟨g, 0, none⟩) m cap)) H g cap (its.take m) := by
  obtain ⟨rest, hr, hl⟩ := h.row
  have hle := h.le
  have h20 := h.some20
  have hlen : (its.take m).length = m := by simp; omega
  have hrow : flat its ++ rest = flat (its.take m) ++ ((flat its).drop (m * 2) ++ rest) := by
    rw [← flat_take, ← List.append_assoc, List.take_append_drop]
  refine ⟨?_, ⟨(flat its).drop (m * 2) ++ rest, ?_, ?_⟩, h.lt, h.cap63, by omega, by omega, fun a ha => h.some a (List.mem_of_mem_take ha)⟩
  · rw [hlen]; exact h.head.set 1 _
  · rw [← hrow]; exact hr.setOther (a := ⟨H, 1, none⟩) h.ne _
  · rw [← hrow]; exact hl

theorem W_zero : Fl.W 0 = 0 := Fl.nearest_zero _

theorem HeapIn.setOther {w : World} {H g cap : Nat} {its : List Itm} (h : HeapIn w H g cap its) {a : Addr} (h1 : H ≠ a.block) (h2 : g ≠ a.block) (v : Value) : HeapIn (w.setCell a v) H g cap its :=
  ⟨h.head.setOther h1 v, h.row.elim fun r hr => ⟨r, hr.1.setOther h2 v, hr.2⟩, h.lt, h.cap63, h.le, h.some20, h.some⟩

theorem pop_frame {w W W4 W5 W6 w8 : World} {H g : Nat} {x : Value} (hsz : W.heap.size = w.heap.size + 2) (hH : H < w.heap.size) (_hg : g < w.heap.size) (hbW : Below w.heap.size w W) (hb4 : Below W.heap.size W W4) (hg5 : W4.grownBy W5 (some g)) (hg6 : W5.grownBy W6 (some g))
    (hg8 : (W6.setCell ⟨H, 1, none⟩ x).grownBy w8 (some g)) (hlt : H < g) (u v : Value) :
    (∀ k, k < w.heap.size → k ≠ H → k ≠ g → ((w8.setCell ⟨w.heap.size, 0, none⟩ u).setCell ⟨w.heap.size, 1, none⟩ v).heap[k]? = w.heap[k]?) ∧ Below H w ((w8.setCell ⟨w.heap.size, 0, none⟩ u).setCell ⟨w.heap.size, 1, none⟩ v) := by
  have s4 := hb4.size
  have s5 := hg5.size
  have s6 := hg6.size
  have s8 : W6.heap.size ≤ w8.heap.size := by have := hg8.size; simpa [World.setCell] using this
  have hfr : ∀ k, k < w.heap.size → k ≠ H → k ≠ g → ((w8.setCell ⟨w.heap.size, 0, none⟩ u).setCell ⟨w.heap.size, 1, none⟩ v).heap[k]? = w.heap[k]? := by
    intro k hk h1 h2
    rw [Below.heap_setCell _ _ _ _ (by simp; omega), Below.heap_setCell _ _ _ _ (by simp; omega), hg8.block k (by simp [World.setCell]; omega) (by simp; omega), Below.heap_setCell _ _ _ _ (by simp; omega),
      hg6.block k (by omega) (by simp; omega), hg5.block k (by omega) (by simp; omega), hb4.block k (by omega), hbW.block k hk]
  refine ⟨hfr, ⟨?_, ?_, ?_, ?_, fun k hk => hfr k (by omega) (by omega) (by omega)⟩⟩
  · exact hg8.os.trans (hg6.os.trans (hg5.os.trans (hb4.os.trans hbW.os)))
  · exact hg8.tape.trans (hg6.tape.trans (hg5.tape.trans (hb4.tape.trans hbW.tape)))
  · exact hg8.output.trans (hg6.output.trans (hg5.output.trans (hb4.output.trans hbW.output)))
  · simp only [World.setCell, Array.size_modify]; omega

set_option maxHeartbeats 1000000 in
theorem pop_any (H g cap : Nat) (its : List Itm) (w : World) (h : HeapIn w H g cap its) (h0 : 0 < its.length) :
    Calls Tryd.prog 130 #[.pointer (some ⟨H, 0, none⟩)] w fun e w' => e = .returned (.tuple #[.agg #[.int .i64 (its.getD 0 (0, 0)).1, .float .f64 (Fl.W (its.getD 0 (0, 0)).2)], .bool true]) ∧
      HeapIn w' H g cap (sinkL (its.length - 1) (popL its) 0) ∧ (∀ k, k < w.heap.size → k ≠ H → k ≠ g → w'.heap[k]? = w.heap[k]?) ∧ Below H w w' := by
  obtain ⟨m, hm⟩ : ∃ m, its.length = m + 1 := ⟨its.length - 1, by omega⟩
  have hit := h.items
  have h20 := h.some20
  have hHl := h.head.lt
  have hgl := h.glt
  obtain ⟨a0, a1, _, _⟩ := h.cells h0
  rw [hm] at hit h20
  have HM : Hid (its.length = m + 1) := hm
  clear hm
  have hle0 : (((m + 1 : Nat) : Int) == 0) = false := by simp; omega
  go_enter Tryd.func130, Tryd.ntmps130
  go_wp2
  generalize hW : (w.alloc (Obj.cells #[Value.int IntKind.i64 0, Value.float FloatKind.f64 0] 170)).alloc (Obj.cells #[Value.int IntKind.i64 0, Value.float FloatKind.f64 0] 170) = W
  have hsz : W.heap.size = w.heap.size + 2 := by rw [← hW]; simp
  have hbW : Below w.heap.size w W := by rw [← hW]; exact ((Below.refl _ _).alloc (Nat.le_refl _) _).alloc (by simp) _
  have BZ : Blk W (w.heap.size + 1) 170 [.int .i64 0, .float .f64 0] := by
    rw [← hW]
    have := blk_new (w.alloc (Obj.cells #[Value.int IntKind.i64 0, Value.float FloatKind.f64 0] 170)) [.int .i64 0, .float .f64 0] 170
    simpa using this
  have BR : Blk W w.heap.size 170 [.int .i64 0, .float .f64 0] := by
    rw [← hW]
    exact (blk_new w [.int .i64 0, .float .f64 0] 170).alloc _
  have hHW := h.below' hbW
  have hitW : W.cell? ⟨H, 1, none⟩ = some (.slice (some ⟨g, 0, none⟩) (m + 1) cap) := (hbW.cell (p := ⟨H, 1, none⟩) hHl).trans hit
  have a0W : W.cell? ⟨g, 0, none⟩ = some (.int .i64 (its.getD 0 (0, 0)).1) := (hbW.cell (p := ⟨g, 0, none⟩) hgl).trans a0
  have a1W : W.cell? ⟨g, 1, none⟩ = some (.float .f64 (Fl.W (its.getD 0 (0, 0)).2)) := (hbW.cell (p := ⟨g, 1, none⟩) hgl).trans a1
  obtain ⟨x0, hx0⟩ : ∃ x, x = its.getD 0 (0, 0) := ⟨_, rfl⟩
  rw [← hx0] at a0W a1W
  have HX0 : Hid (x0 = its.getD 0 (0, 0)) := hx0
  have HSZ : Hid (W.heap.size = w.heap.size + 2) := hsz
  have hHW1 : H < W.heap.size := by omega
  have hgW1 : g < W.heap.size := by omega
  clear hW hit a0 a1 hx0
  have hN : w.heap.size < W.heap.size ∧ w.heap.size + 1 < W.heap.size := by omega
  clear hsz
  go_region
  have hb4 : Below W.heap.size W (W.alloc (Obj.cells #[Value.int IntKind.i64 x0.1, Value.float FloatKind.f64 (Fl.W x0.2)] 170)).drew := ((Below.refl _ _).alloc (Nat.le_refl _) _).drew
  have BF : Blk (W.alloc (Obj.cells #[Value.int IntKind.i64 x0.1, Value.float FloatKind.f64 (Fl.W x0.2)] 170)).drew W.heap.size 170 [.int .i64 x0.1, .float .f64 (Fl.W x0.2)] := blk_new W [.int .i64 x0.1, .float .f64 (Fl.W x0.2)] 170
  generalize (W.alloc (Obj.cells #[Value.int IntKind.i64 x0.1, Value.float FloatKind.f64 (Fl.W x0.2)] 170)).drew = W4 at *
  have hH4 := hHW.below' hb4
  replace BZ := BZ.below' hb4
  replace BR := BR.below' hb4
  clear hHW hitW a0W a1W
  have hit4 := hH4.items
  have hml : m < its.length := by rw [HM.out]; omega
  rw [HM.out] at hit4
  obtain ⟨b0, b1, fb0, fb1⟩ := hH4.cells hml
  obtain ⟨a0, a1, fa0, fa1⟩ := hH4.cells h0
  have pl := hH4.at' hml
  obtain ⟨xl, hxl⟩ : ∃ x, x = its.getD m (0, 0) := ⟨_, rfl⟩
  rw [← hxl] at b0 b1 pl
  have HXL : Hid (xl = its.getD m (0, 0)) := hxl
  simp only [Nat.zero_mul, Nat.zero_add] at a0 a1 fa0 fa1
  clear hxl
  have i0 : (0 : Int) ≤ (m : Int) := by omega
  have i1 : (m : Int) < ((m : Int) + 1) := by omega
  go_wp2
  go_region
  have hH5 : HeapIn ((W4.setCell ⟨g, 0, none⟩ (.int .i64 xl.1)).setCell ⟨g, 1, none⟩ (.float .f64 (Fl.W xl.2))).drew H g cap (its.set 0 xl) := (hH4.put h0 xl pl).drew
  have hg5 : W4.grownBy ((W4.setCell ⟨g, 0, none⟩ (.int .i64 xl.1)).setCell ⟨g, 1, none⟩ (.float .f64 (Fl.W xl.2))).drew (some g) := grown_drew (grown_set (grown_set (grown_refl _ _) _ _) _ _)
  generalize ((W4.setCell ⟨g, 0, none⟩ (.int .i64 xl.1)).setCell ⟨g, 1, none⟩ (.float .f64 (Fl.W xl.2))).drew = W5 at *
  replace BZ := BZ.grown hg5 (by simp; omega)
  replace BR := BR.grown hg5 (by simp; omega)
  replace BF := BF.grown hg5 (by simp; omega)
  clear a0 a1 fa0 fa1 b0 b1 fb0 fb1 hit4
  have hit5 := hH5.items
  rw [List.length_set, HM.out] at hit5
  obtain ⟨b0, b1, fb0, fb1⟩ := hH5.cells (i := m) (by rw [List.length_set]; exact hml)
  have z0 : W5.cell? ⟨w.heap.size + 1, 0, none⟩ = some (.int .i64 0) := BZ.cell (i := 0) (by simp) undef
  have z1 : W5.cell? ⟨w.heap.size + 1, 1, none⟩ = some (.float .f64 0) := BZ.cell (i := 1) (by simp) undef
  generalize (its.set 0 xl).getD m (0, 0) = xq at *
  go_wp2
  go_region
  have hH6 := (hH5.put (i := m) (by rw [List.length_set]; exact hml) (0, 0) (by decide)).drew
  simp only [W_zero] at hH6
  have hg6 : W5.grownBy ((W5.setCell ⟨g, m * 2, none⟩ (.int .i64 0)).setCell ⟨g, m * 2 + 1, none⟩ (.float .f64 0)).drew (some g) := grown_drew (grown_set (grown_set (grown_refl _ _) _ _) _ _)
  generalize ((W5.setCell ⟨g, m * 2, none⟩ (.int .i64 0)).setCell ⟨g, m * 2 + 1, none⟩ (.float .f64 0)).drew = W6 at *
  replace BR := BR.grown hg6 (by simp; omega)
  replace BF := BF.grown hg6 (by simp; omega)
  clear b0 b1 fb0 fb1 hit5 z0 z1 BZ
  have hit6 := hH6.items
  have fr6 := hH6.head.frozen 1
  rw [List.length_set, List.length_set, HM.out] at hit6
  have hcap : m + 1 ≤ cap := by have := hH6.le; rw [List.length_set, List.length_set, HM.out] at this; exact this
  have hH7 := hH6.cutTo m (by rw [List.length_set, List.length_set, HM.out]; omega)
  have hpop : ((its.set 0 xl).set m (0, 0)).take m = popL its := by
    unfold popL
    rw [show its.length - 1 = m by rw [HM.out]; omega, ← HXL.out, List.take_set_of_le (by omega)]
  rw [hpop] at hH7
  have HH7 : Hid (HeapIn (W6.setCell ⟨H, 1, none⟩ (.slice (some ⟨g, 0, none⟩) m cap)) H g cap (popL its)) := hH7
  clear hH7 hpop
  go_wp2_with fail
  refine (sink_both H g cap (popL its) _ HH7.out).mono ?_
  rintro e w8 ⟨rfl, hH8, hg8⟩
  have hlt := hH8.lt
  replace BR := (BR.setOther (a := ⟨H, 1, none⟩) (by simp; omega) (.slice (some ⟨g, 0, none⟩) m cap)).grown hg8 (by simp; omega)
  replace BF := (BF.setOther (a := ⟨H, 1, none⟩) (by simp; omega) (.slice (some ⟨g, 0, none⟩) m cap)).grown hg8 (by simp; omega)
  have f0 : w8.cell? ⟨W.heap.size, 0, none⟩ = some (.int .i64 x0.1) := BF.cell (i := 0) (by simp) undef
  have f1 : w8.cell? ⟨W.heap.size, 1, none⟩ = some (.float .f64 (Fl.W x0.2)) := BF.cell (i := 1) (by simp) undef
  have r0 : w8.cell? ⟨w.heap.size, 0, none⟩ = some (.int .i64 0) := BR.cell (i := 0) (by simp) undef
  have r1 : w8.cell? ⟨w.heap.size, 1, none⟩ = some (.float .f64 0) := BR.cell (i := 1) (by simp) undef
  have g0 := BR.frozen 0
  have g1 := BR.frozen 1
  have hfr := pop_frame HSZ.out hHl hgl hbW hb4 hg5 hg6 hg8 hlt
  have HFR : Hid _ := hfr
  have hH9 := (hH8.setOther (a := ⟨w.heap.size, 0, none⟩) (by simp; omega) (by simp; omega) (.int .i64 x0.1)).setOther (a := ⟨w.heap.size, 1, none⟩) (by simp; omega) (by simp; omega) (.float .f64 (Fl.W x0.2))
  rw [popL_length] at hH9
  have HH9 : Hid _ := hH9
  clear hH9 hfr hit6 fr6 HH7
  go_wp2
  refine bodyPost_ret (v := .tuple #[.agg #[.int .i64 x0.1, .float .f64 (Fl.W x0.2)], .bool true]) (by simp [results, Tryd.results130, go_sem, r0, r1]) rfl ⟨by rw [HX0.out], HH9.out, (HFR.out _ _).1, (HFR.out _ _).2⟩
end Go.Proofs.YtlodenfdcckemaaDoor
