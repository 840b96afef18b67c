/-
  Several texts, one behind the other.
-/
import Derived.Test.YtlodenfdcckemaaDoorH19
import Derived.Test.YtlodenfdcckemaaDoorH21
import Derived.Test.YtlodenfdcckemaaDoorH22
import Derived.Test.YtlodenfdcckemaaDoorH7
import Derived.Deep.QuietTactic
import Derived.BigQuiet
import Derived.Test.YtlodenfdcckemaaDoorH20
import Derived.Test.YtlodenfdcckemaaDoorH14
import Derived.Deep.RegionHeld3
import Derived.Test.YtlodenfdcckemaaDoorH12
import Derived.Test.YtlodenfdcckemaaDoorH10
import Derived.Test.YtlodenfdcckemaaDoorH3
import Derived.Deep.AppendLies
import Derived.Deep.DrawnRows
import Derived.BigRegion
/-
  The walk of the document's examples.
-/

namespace Go.Proofs.YtlodenfdcckemaaDoor
open Go.RowKit

theorem ints_at {w : World} {N : Nat} {zs : List Int} {L : List Value} (h : Blk w N 3 L) (hL : L = ints zs) : IntsAt w w.heap.size (some ⟨N, 0, none⟩) zs := by
  intro _
  refine ⟨N, 0, rfl, h.lt, fun i hi => ?_⟩
  subst hL
  rw [Nat.zero_add, h.cell (by simpa using hi) undef]
  simp [hi]

theorem lists_at {w : World} {N : Nat} {cs : List (List Int)} {L : List Value} (h : Blk w N 24 L) (hl : L.length = cs.length) (hL : ∀ i, i < cs.length → ∃ A C, L.getD i undef = .slice A (cs.getD i []).length C ∧ IntsAt w w.heap.size A (cs.getD i [])) : ListsAt w w.heap.size (some ⟨N, 0, none⟩) cs := by
  intro _
  refine ⟨N, 0, rfl, h.lt, fun i hi => ?_⟩
  obtain ⟨A, C, h1, h2⟩ := hL i hi
  exact ⟨A, C, by rw [Nat.zero_add, h.cell (by omega) undef, h1], h2⟩

set_option maxRecDepth 100000 in
set_option maxHeartbeats 4000000 in
theorem known_any (w : World) (hT : Tab w) (hw0 : 0 < w.heap.size) : Calls Tryd.prog 25 #[] w fun e w' => e = .returned (.bool true) ∧ Below w.heap.size w w' := by
  go_enter Tryd.func25, Tryd.ntmps25
  go_wp2_with fail
  have b1 := alloc_below w (.cells #[.int .i64 1, .int .i64 2] 3)
  have B1 : Blk (w.alloc (.cells #[.int .i64 1, .int .i64 2] 3)) w.heap.size 3 [.int .i64 1, .int .i64 2] := blk_new w [.int .i64 1, .int .i64 2] 3
  have s1 := alloc_size w (.cells #[.int .i64 1, .int .i64 2] 3)
  generalize w.alloc (.cells #[.int .i64 1, .int .i64 2] 3) = a1 at *
  have b2 := alloc_below a1 (.cells #[.int .i64 1, .int .i64 (-2)] 3)
  have B2 : Blk (a1.alloc (.cells #[.int .i64 1, .int .i64 (-2)] 3)) a1.heap.size 3 [.int .i64 1, .int .i64 (-2)] := blk_new a1 [.int .i64 1, .int .i64 (-2)] 3
  have s2 := alloc_size a1 (.cells #[.int .i64 1, .int .i64 (-2)] 3)
  replace B1 := B1.below' b2
  generalize a1.alloc (.cells #[.int .i64 1, .int .i64 (-2)] 3) = a2 at *
  have b3 := alloc_below a2 (.cells #[.int .i64 (-1), .int .i64 2] 3)
  have B3 : Blk (a2.alloc (.cells #[.int .i64 (-1), .int .i64 2] 3)) a2.heap.size 3 [.int .i64 (-1), .int .i64 2] := blk_new a2 [.int .i64 (-1), .int .i64 2] 3
  have s3 := alloc_size a2 (.cells #[.int .i64 (-1), .int .i64 2] 3)
  replace B1 := B1.below' b3
  replace B2 := B2.below' b3
  generalize a2.alloc (.cells #[.int .i64 (-1), .int .i64 2] 3) = a3 at *
  have b4 := alloc_below a3 (.cells #[.int .i64 (-1), .int .i64 (-2)] 3)
  have B4 : Blk (a3.alloc (.cells #[.int .i64 (-1), .int .i64 (-2)] 3)) a3.heap.size 3 [.int .i64 (-1), .int .i64 (-2)] := blk_new a3 [.int .i64 (-1), .int .i64 (-2)] 3
  have s4 := alloc_size a3 (.cells #[.int .i64 (-1), .int .i64 (-2)] 3)
  replace B1 := B1.below' b4
  replace B2 := B2.below' b4
  replace B3 := B3.below' b4
  generalize a3.alloc (.cells #[.int .i64 (-1), .int .i64 (-2)] 3) = a4 at *
  have b5 := alloc_below a4 (.cells #[.slice (some ⟨w.heap.size, 0, none⟩) 2 2, .slice (some ⟨w.heap.size + 1, 0, none⟩) 2 2, .slice (some ⟨w.heap.size + 1 + 1, 0, none⟩) 2 2, .slice (some ⟨w.heap.size + 1 + 1 + 1, 0, none⟩) 2 2] 24)
  have B5 : Blk (a4.alloc (.cells #[.slice (some ⟨w.heap.size, 0, none⟩) 2 2, .slice (some ⟨w.heap.size + 1, 0, none⟩) 2 2, .slice (some ⟨w.heap.size + 1 + 1, 0, none⟩) 2 2, .slice (some ⟨w.heap.size + 1 + 1 + 1, 0, none⟩) 2 2] 24)) a4.heap.size 24 [.slice (some ⟨w.heap.size, 0, none⟩) 2 2, .slice (some ⟨w.heap.size + 1, 0, none⟩) 2 2, .slice (some ⟨w.heap.size + 1 + 1, 0, none⟩) 2 2, .slice (some ⟨w.heap.size + 1 + 1 + 1, 0, none⟩) 2 2] := blk_new a4 [.slice (some ⟨w.heap.size, 0, none⟩) 2 2, .slice (some ⟨w.heap.size + 1, 0, none⟩) 2 2, .slice (some ⟨w.heap.size + 1 + 1, 0, none⟩) 2 2, .slice (some ⟨w.heap.size + 1 + 1 + 1, 0, none⟩) 2 2] 24
  have s5 := alloc_size a4 (.cells #[.slice (some ⟨w.heap.size, 0, none⟩) 2 2, .slice (some ⟨w.heap.size + 1, 0, none⟩) 2 2, .slice (some ⟨w.heap.size + 1 + 1, 0, none⟩) 2 2, .slice (some ⟨w.heap.size + 1 + 1 + 1, 0, none⟩) 2 2] 24)
  replace B1 := B1.below' b5
  replace B2 := B2.below' b5
  replace B3 := B3.below' b5
  replace B4 := B4.below' b5
  generalize a4.alloc (.cells #[.slice (some ⟨w.heap.size, 0, none⟩) 2 2, .slice (some ⟨w.heap.size + 1, 0, none⟩) 2 2, .slice (some ⟨w.heap.size + 1 + 1, 0, none⟩) 2 2, .slice (some ⟨w.heap.size + 1 + 1 + 1, 0, none⟩) 2 2] 24) = a5 at *
  have b6 := alloc_below a5 (.cells #[.int .i64 2, .slice (some ⟨w.heap.size + 1 + 1 + 1 + 1, 0, none⟩) 4 4] 31)
  have B6 : Blk (a5.alloc (.cells #[.int .i64 2, .slice (some ⟨w.heap.size + 1 + 1 + 1 + 1, 0, none⟩) 4 4] 31)) a5.heap.size 31 [.int .i64 2, .slice (some ⟨w.heap.size + 1 + 1 + 1 + 1, 0, none⟩) 4 4] := blk_new a5 [.int .i64 2, .slice (some ⟨w.heap.size + 1 + 1 + 1 + 1, 0, none⟩) 4 4] 31
  have s6 := alloc_size a5 (.cells #[.int .i64 2, .slice (some ⟨w.heap.size + 1 + 1 + 1 + 1, 0, none⟩) 4 4] 31)
  replace B1 := B1.below' b6
  replace B2 := B2.below' b6
  replace B3 := B3.below' b6
  replace B4 := B4.below' b6
  replace B5 := B5.below' b6
  generalize a5.alloc (.cells #[.int .i64 2, .slice (some ⟨w.heap.size + 1 + 1 + 1 + 1, 0, none⟩) 4 4] 31) = a6 at *
  have b7 := alloc_below a6 (.cells #[.int .i64 1] 3)
  have B7 : Blk (a6.alloc (.cells #[.int .i64 1] 3)) a6.heap.size 3 [.int .i64 1] := blk_new a6 [.int .i64 1] 3
  have s7 := alloc_size a6 (.cells #[.int .i64 1] 3)
  replace B1 := B1.below' b7
  replace B2 := B2.below' b7
  replace B3 := B3.below' b7
  replace B4 := B4.below' b7
  replace B5 := B5.below' b7
  replace B6 := B6.below' b7
  generalize a6.alloc (.cells #[.int .i64 1] 3) = a7 at *
  have b8 := alloc_below a7 (.cells #[] 3)
  have B8 : Blk (a7.alloc (.cells #[] 3)) a7.heap.size 3 [] := blk_new a7 [] 3
  have s8 := alloc_size a7 (.cells #[] 3)
  replace B1 := B1.below' b8
  replace B2 := B2.below' b8
  replace B3 := B3.below' b8
  replace B4 := B4.below' b8
  replace B5 := B5.below' b8
  replace B6 := B6.below' b8
  replace B7 := B7.below' b8
  generalize a7.alloc (.cells #[] 3) = a8 at *
  have b9 := alloc_below a8 (.cells #[.slice (some ⟨w.heap.size + 1 + 1 + 1 + 1 + 1 + 1, 0, none⟩) 1 1, .slice (some ⟨w.heap.size + 1 + 1 + 1 + 1 + 1 + 1 + 1, 0, none⟩) 0 0] 24)
  have B9 : Blk (a8.alloc (.cells #[.slice (some ⟨w.heap.size + 1 + 1 + 1 + 1 + 1 + 1, 0, none⟩) 1 1, .slice (some ⟨w.heap.size + 1 + 1 + 1 + 1 + 1 + 1 + 1, 0, none⟩) 0 0] 24)) a8.heap.size 24 [.slice (some ⟨w.heap.size + 1 + 1 + 1 + 1 + 1 + 1, 0, none⟩) 1 1, .slice (some ⟨w.heap.size + 1 + 1 + 1 + 1 + 1 + 1 + 1, 0, none⟩) 0 0] := blk_new a8 [.slice (some ⟨w.heap.size + 1 + 1 + 1 + 1 + 1 + 1, 0, none⟩) 1 1, .slice (some ⟨w.heap.size + 1 + 1 + 1 + 1 + 1 + 1 + 1, 0, none⟩) 0 0] 24
  have s9 := alloc_size a8 (.cells #[.slice (some ⟨w.heap.size + 1 + 1 + 1 + 1 + 1 + 1, 0, none⟩) 1 1, .slice (some ⟨w.heap.size + 1 + 1 + 1 + 1 + 1 + 1 + 1, 0, none⟩) 0 0] 24)
  replace B1 := B1.below' b9
  replace B2 := B2.below' b9
  replace B3 := B3.below' b9
  replace B4 := B4.below' b9
  replace B5 := B5.below' b9
  replace B6 := B6.below' b9
  replace B7 := B7.below' b9
  replace B8 := B8.below' b9
  generalize a8.alloc (.cells #[.slice (some ⟨w.heap.size + 1 + 1 + 1 + 1 + 1 + 1, 0, none⟩) 1 1, .slice (some ⟨w.heap.size + 1 + 1 + 1 + 1 + 1 + 1 + 1, 0, none⟩) 0 0] 24) = a9 at *
  have e1 : a1.heap.size = w.heap.size + 1 := s1
  have e2 : a2.heap.size = w.heap.size + 1 + 1 := by omega
  have e3 : a3.heap.size = w.heap.size + 1 + 1 + 1 := by omega
  have e4 : a4.heap.size = w.heap.size + 1 + 1 + 1 + 1 := by omega
  have e5 : a5.heap.size = w.heap.size + 1 + 1 + 1 + 1 + 1 := by omega
  have e6 : a6.heap.size = w.heap.size + 1 + 1 + 1 + 1 + 1 + 1 := by omega
  have e7 : a7.heap.size = w.heap.size + 1 + 1 + 1 + 1 + 1 + 1 + 1 := by omega
  have e8 : a8.heap.size = w.heap.size + 1 + 1 + 1 + 1 + 1 + 1 + 1 + 1 := by omega
  rw [e1] at B2
  rw [e2] at B3
  rw [e3] at B4
  rw [e4] at B5
  rw [e5] at B6
  rw [e6] at B7
  rw [e7] at B8
  rw [e8] at B9
  have hb9 : Below w.heap.size w a9 := by
    refine b1.trans ((b2.mono (by omega)).trans ((b3.mono (by omega)).trans ((b4.mono (by omega)).trans ((b5.mono (by omega)).trans ((b6.mono (by omega)).trans ((b7.mono (by omega)).trans ((b8.mono (by omega)).trans (b9.mono (by omega)))))))))
  have hc9 : ListsAt a9 a9.heap.size (some ⟨w.heap.size + 1 + 1 + 1 + 1, 0, none⟩) ex4 := lists_at B5 rfl (fun i hi => by
    match i, hi with
    | 0, _ => exact ⟨_, _, rfl, ints_at B1 rfl⟩
    | 1, _ => exact ⟨_, _, rfl, ints_at B2 rfl⟩
    | 2, _ => exact ⟨_, _, rfl, ints_at B3 rfl⟩
    | 3, _ => exact ⟨_, _, rfl, ints_at B4 rfl⟩
    | n + 4, h => exact absurd h (by simp [ex4]))
  have hp9 : ListsAt a9 a9.heap.size (some ⟨w.heap.size + 1 + 1 + 1 + 1 + 1 + 1 + 1 + 1, 0, none⟩) [[1], []] := lists_at B9 rfl (fun i hi => by
    match i, hi with
    | 0, _ => exact ⟨_, _, rfl, ints_at B7 rfl⟩
    | 1, _ => exact ⟨_, _, rfl, fun h => absurd rfl h⟩
    | n + 2, h => exact absurd h (by simp))
  have c1 := check_good 2 (some ⟨w.heap.size + 1 + 1 + 1 + 1, 0, none⟩) (some ⟨w.heap.size + 1 + 1 + 1 + 1 + 1 + 1 + 1 + 1, 0, none⟩) 4 2 ex4 [[1], []] a9 hc9 hp9 ex4_good ex4_fault (by simp)
  rw [ex4_check] at c1
  refine c1.mono ?_
  rintro e u1 ⟨rfl, hu1⟩
  have hbu : Below w.heap.size w u1 := hb9.trans (hu1.mono hb9.size)
  have hcu := (hc9.below hu1 (Nat.le_refl _)).mono hu1.size
  have F1 := B6.below' hu1
  have hsu := hbu.size
  clear B1 B2 B3 B4 B5 B6 B7 B8 B9 b1 b2 b3 b4 b5 b6 b7 b8 b9 s1 s2 s3 s4 s5 s6 s7 s8 s9 e1 e2 e3 e4 e5 e6 e7 e8 hc9 hp9 c1 hb9 hu1
  generalize hN5 : w.heap.size + 1 + 1 + 1 + 1 + 1 = N5 at *
  generalize hN4 : w.heap.size + 1 + 1 + 1 + 1 = N4 at *
  have f0 : u1.cell? ⟨N5, 0, none⟩ = some (.int .i64 2) := F1.cell (i := 0) (by simp) undef
  have f1 : u1.cell? ⟨N5, 1, none⟩ = some (.slice (some ⟨N4, 0, none⟩) 4 4) := F1.cell (i := 1) (by simp) undef
  have hN5l := F1.lt
  clear hN5 hN4
  go_wp2_with fail
  have b1 := alloc_below u1 (.cells #[] 3)
  have s1 := alloc_size u1 (.cells #[] 3)
  generalize u1.alloc (.cells #[] 3) = v1 at *
  have b2 := alloc_below v1 (.cells #[.slice (some ⟨u1.heap.size, 0, none⟩) 0 0] 24)
  have B2 : Blk (v1.alloc (.cells #[.slice (some ⟨u1.heap.size, 0, none⟩) 0 0] 24)) v1.heap.size 24 [.slice (some ⟨u1.heap.size, 0, none⟩) 0 0] := blk_new v1 [.slice (some ⟨u1.heap.size, 0, none⟩) 0 0] 24
  have s2 := alloc_size v1 (.cells #[.slice (some ⟨u1.heap.size, 0, none⟩) 0 0] 24)
  generalize v1.alloc (.cells #[.slice (some ⟨u1.heap.size, 0, none⟩) 0 0] 24) = v2 at *
  rw [s1] at B2
  have hv2 : Below u1.heap.size u1 v2 := b1.trans (b2.mono (by omega))
  have hc2 := (hcu.below hv2 (Nat.le_refl _)).mono hv2.size
  have hp2 : ListsAt v2 v2.heap.size (some ⟨u1.heap.size + 1, 0, none⟩) [[]] := lists_at B2 rfl (fun i hi => by
    match i, hi with
    | 0, _ => exact ⟨_, _, rfl, fun h => absurd rfl h⟩
    | n + 1, h => exact absurd h (by simp))
  have c1 := check_good 2 (some ⟨N4, 0, none⟩) (some ⟨u1.heap.size + 1, 0, none⟩) 4 1 ex4 [[]] v2 hc2 hp2 ex4_good ex4_fault (by simp)
  rw [ex4_check0] at c1
  refine c1.mono ?_
  rintro e u2 ⟨rfl, hu2⟩
  have hbu2 : Below w.heap.size w u2 := hbu.trans ((hv2.mono hsu).trans (hu2.mono (by have := hv2.size; omega)))
  clear c1 hp2 hc2 hv2 b1 b2 B2 s1 s2 hcu F1 f0 f1 hu2 hbu hsu hN5l
  go_wp2_with fail
  have d1 := alloc_below u2 (.cells #[.int .i64 1, .int .i64 (-2)] 3)
  have D1 : Blk (u2.alloc (.cells #[.int .i64 1, .int .i64 (-2)] 3)) u2.heap.size 3 [.int .i64 1, .int .i64 (-2)] := blk_new u2 [.int .i64 1, .int .i64 (-2)] 3
  have t1 := alloc_size u2 (.cells #[.int .i64 1, .int .i64 (-2)] 3)
  generalize u2.alloc (.cells #[.int .i64 1, .int .i64 (-2)] 3) = x1 at *
  have d2 := alloc_below x1 (.cells #[.int .i64 2] 3)
  have D2 : Blk (x1.alloc (.cells #[.int .i64 2] 3)) x1.heap.size 3 [.int .i64 2] := blk_new x1 [.int .i64 2] 3
  have t2 := alloc_size x1 (.cells #[.int .i64 2] 3)
  replace D1 := D1.below' d2
  generalize x1.alloc (.cells #[.int .i64 2] 3) = x2 at *
  have d3 := alloc_below x2 (.cells #[.slice (some ⟨u2.heap.size, 0, none⟩) 2 2, .slice (some ⟨u2.heap.size + 1, 0, none⟩) 1 1] 24)
  have D3 : Blk (x2.alloc (.cells #[.slice (some ⟨u2.heap.size, 0, none⟩) 2 2, .slice (some ⟨u2.heap.size + 1, 0, none⟩) 1 1] 24)) x2.heap.size 24 [.slice (some ⟨u2.heap.size, 0, none⟩) 2 2, .slice (some ⟨u2.heap.size + 1, 0, none⟩) 1 1] := blk_new x2 [.slice (some ⟨u2.heap.size, 0, none⟩) 2 2, .slice (some ⟨u2.heap.size + 1, 0, none⟩) 1 1] 24
  replace D1 := D1.below' d3
  replace D2 := D2.below' d3
  generalize x2.alloc (.cells #[.slice (some ⟨u2.heap.size, 0, none⟩) 2 2, .slice (some ⟨u2.heap.size + 1, 0, none⟩) 1 1] 24) = x3 at *
  have t2' : x2.heap.size = u2.heap.size + 1 + 1 := by omega
  rw [t1] at D2
  rw [t2'] at D3
  have hx3 : Below u2.heap.size u2 x3 := d1.trans ((d2.mono (by omega)).trans (d3.mono (by omega)))
  have hbx : Below w.heap.size w x3 := hbu2.trans (hx3.mono hbu2.size)
  have hc3 : ListsAt x3 x3.heap.size (some ⟨u2.heap.size + 1 + 1, 0, none⟩) ex3 := lists_at D3 rfl (fun i hi => by
    match i, hi with
    | 0, _ => exact ⟨_, _, rfl, ints_at D1 rfl⟩
    | 1, _ => exact ⟨_, _, rfl, ints_at D2 rfl⟩
    | n + 2, h => exact absurd h (by simp [ex3]))
  have c2 := propagate_all 2 (some ⟨u2.heap.size + 1 + 1, 0, none⟩) none 2 0 ex3 [] x3 hc3 (fun h => absurd rfl h) ex3_good ex3_fault (by simp) (hT.below hbx hw0) (Nat.lt_of_lt_of_le hw0 hbx.size)
  refine c2.mono ?_
  rintro e u3 ⟨v, zs, c, x, rfl, hO, hP, hu3⟩
  obtain ⟨rfl, rfl, rfl⟩ := hP.same ex3_prop
  obtain ⟨g, gc, hv, hgl, hcells⟩ := hO.at (by simp)
  simp only [List.length_map, List.length_cons, List.length_nil] at hv
  have g0 : u3.cell? ⟨g, 0, none⟩ = some (.int .i64 1) := hcells 0 (by simp)
  have g1 : u3.cell? ⟨g, 1, none⟩ = some (.int .i64 2) := hcells 1 (by simp)
  subst hv
  have HB : Hid (Below w.heap.size w u3) := hbx.trans (hu3.mono hbx.size)
  clear c2 hc3 hP hO hcells D1 D2 D3 d1 d2 d3 hx3 hbx
  go_wp2
  go_ret
  exact ⟨rfl, HB.out⟩
end Go.Proofs.YtlodenfdcckemaaDoor

/-
  The walks of the functions that hand lists in with spare room, and look whether it was kept.
-/

namespace Go.Proofs.YtlodenfdcckemaaDoor
open Go.RowKit

def mark (zs : List Int) (k : Nat) : List Value := (zs ++ (List.replicate k 77 ++ List.replicate (4 - k) 0)).map (Value.int .i64)

theorem mark_set (zs : List Int) (k : Nat) (hk : k < 4) : (mark zs k).set (zs.length + k) (.int .i64 77) = mark zs (k + 1) := by
  unfold mark
  rw [← List.map_set]
  congr 1
  rw [List.set_append_right _ _ (by omega)]
  congr 1
  have : k = 0 ∨ k = 1 ∨ k = 2 ∨ k = 3 := by omega
  rw [show zs.length + k - zs.length = k by omega]
  rcases this with rfl | rfl | rfl | rfl <;> rfl

theorem mark_four (zs : List Int) : mark zs 4 = (zs ++ [77, 77, 77, 77]).map (Value.int .i64) := rfl

theorem mark_zero (zs : List Int) : splice (List.replicate (zs.length + 4) (Value.int .i64 0)) 0 (zs.map (Value.int .i64)) = mark zs 0 := by
  unfold splice mark
  simp [List.drop_replicate]

theorem mark_length (zs : List Int) (k : Nat) (hk : k ≤ 4) : (mark zs k).length = zs.length + 4 := by unfold mark; simp; omega

set_option maxHeartbeats 400000 in
theorem numbers_any (ao : Option Addr) (cap : Nat) (zs : List Int) (w : World) (hc : IntsAt w w.heap.size ao zs) (hl : zs.length * 8 ≤ 140737488351232) :
    Calls Tryd.prog 12 #[.slice ao zs.length cap] w fun e w' => e = .returned (.slice (some ⟨w.heap.size, 0, none⟩) zs.length (zs.length + 4)) ∧
      Blk w' w.heap.size 3 ((zs ++ [77, 77, 77, 77]).map (Value.int .i64)) ∧ Below w.heap.size w w' := by
  have hsz3 : (Tryd.prog.info? 3).map (·.size) = some 1 := by kernel_rfl
  obtain ⟨cl, hcl⟩ : ∃ cl, cl = zs.map (Value.int .i64) := ⟨_, rfl⟩
  have hlen : cl.length = zs.length := by rw [hcl]; simp
  have hone : ∀ v ∈ cl, v.oneCell' = true := by rw [hcl]; exact ints_one zs
  have hsp : splice (List.replicate (zs.length + 4) (Value.int .i64 0)) 0 cl = mark zs 0 := by rw [hcl]; exact mark_zero zs
  have hsrc : ∀ w1, Below w.heap.size w w1 → 0 < cl.length → ∃ ad, ao = some ad ∧ ∀ j v, cl[j]? = some v → w1.cell? (ad.add j) = some v := by
    intro w1 hb1 hp
    rw [hcl]
    exact (hc.below hb1 (Nat.le_refl _)).src (by omega)
  have HL : Hid (cl.length = zs.length) := hlen
  have H1 : Hid (∀ v ∈ cl, v.oneCell' = true) := hone
  have HS : Hid _ := hsrc
  have HP : Hid _ := hsp
  clear hcl hlen hc hone hsrc hsp
  go_enter Tryd.func12, Tryd.ntmps12
  go_wp2_with (first
    | (at_make; refine wpList_make_blk _ rfl (.tmp 7) (.tmp 7) 24 rfl 3 (.int .i64 0) 8 Tryd.underlying24 Tryd.info3 rfl .i64 .i64 (zs.length + 4) _ _ rfl rfl (by omega) (by omega) (by omega) (by omega) ?_; intro w1 hB1 hb1 hs1)
    | (refine wpList_copy_lit (.tmp 9) (.tmp 10) 24 24 3 Tryd.underlying24 hsz3 w.heap.size _ _ _ _ _ rfl rfl (List.replicate (zs.length + 4) (.int .i64 0)) 3 hB1 cl (by have := HL.out; simp; omega) (HS.out _ hb1) (by have := HL.out; simp; omega) H1.out w.heap.size w hb1 (Nat.le_refl _) ?_; rw [HP.out]; clear hB1 hs1 hb1; intro w2 hB2 hb2))
  clear HS HP H1 hsz3
  go_loopw [4] (fun i wr => ∃ (k : Nat), k ≤ 4 ∧ i = .int .i64 k ∧ Blk wr w.heap.size 3 (mark zs k) ∧ Below w.heap.size w wr) (fun i _ => 4 - (intOf i).toNat)
  case atStart => exact ⟨0, by omega, rfl, hB2, hb2⟩
  case round =>
    obtain ⟨k, hk, rfl, hB, hb⟩ := hrel
    by_cases hlt : k < 4
    · have hset := (hB.set (zs.length + k) (.int .i64 77))
      rw [mark_set _ _ hlt] at hset
      have hcell := hB.cell (i := zs.length + k) (by rw [mark_length _ _ hk]; omega) undef
      have hfr := hB.frozen (zs.length + k)
      have HB : Hid _ := hset
      obtain ⟨old, hold⟩ : ∃ x, x = (mark zs k).getD (zs.length + k) undef := ⟨_, rfl⟩
      rw [← hold] at hcell
      clear hset hold hB hB2 hb2
      go_wp2
      go_roundw
      case rel => exact ⟨k + 1, by omega, by go_num, HB.out, hb.setCell (Nat.le_refl _) _⟩
      case measure => simp [intOf]; omega
    · obtain rfl : k = 4 := by omega
      go_wp2
      go_ret
      exact ⟨rfl, hB, hb⟩

theorem marked_low (zs : List Int) (k : Nat) (h : k < zs.length) : ((zs ++ [77, 77, 77, 77]).map (Value.int .i64)).getD k undef = .int .i64 (zs.getD k 0) := by
  simp [h, List.getElem?_append]
theorem marked_high (zs : List Int) (k : Nat) (h : zs.length ≤ k) (h2 : k < zs.length + 4) : ((zs ++ [77, 77, 77, 77]).map (Value.int .i64)).getD k undef = .int .i64 77 := by
  obtain ⟨j, rfl⟩ : ∃ j, k = zs.length + j := ⟨k - zs.length, by omega⟩
  have : j = 0 ∨ j = 1 ∨ j = 2 ∨ j = 3 := by omega
  rcases this with rfl | rfl | rfl | rfl <;> simp

set_option maxHeartbeats 400000 in
theorem kept_any (g : Nat) (ao : Option Addr) (cap : Nat) (zs : List Int) (w : World) (hB : Blk w g 3 ((zs ++ [77, 77, 77, 77]).map (Value.int .i64))) (hc : IntsAt w w.heap.size ao zs) (hl : zs.length * 8 ≤ 140737488351232) :
    Calls Tryd.prog 19 #[.slice (some ⟨g, 0, none⟩) zs.length (zs.length + 4), .slice ao zs.length cap] w fun e w' => e = .returned (.bool true) ∧ Below w.heap.size w w' := by
  have hg := hB.lt
  go_enter Tryd.func19, Tryd.ntmps19
  go_wp2
  go_loopw [6] (fun i wr => ∃ (k : Nat), k ≤ zs.length + 4 ∧ i = .int .i64 k ∧ Below w.heap.size w wr) (fun i _ => zs.length + 4 - (intOf i).toNat)
  case atStart => exact ⟨0, by omega, rfl, Below.refl _ _⟩
  case round =>
    obtain ⟨k, hk, rfl, hb⟩ := hrel
    by_cases hlt : k < zs.length + 4
    · have hcell := (hb.cell (p := ⟨g, k, none⟩) hg).trans (hB.cell (i := k) (by simp; omega) undef)
      by_cases hz : k < zs.length
      · rw [marked_low _ _ hz] at hcell
        obtain ⟨b, o, rfl, hbl, hcc⟩ := hc (by intro h; rw [h] at hz; simp at hz)
        have hcell2 := (hb.cell (p := ⟨b, o + k, none⟩) hbl).trans (hcc k hz)
        obtain ⟨x, hx⟩ : ∃ x, x = zs.getD k 0 := ⟨_, rfl⟩
        rw [← hx] at hcell hcell2
        clear hx hcc
        have ht1 : decide (k < zs.length) = true := by simp; omega
        have ht2 : decide (zs.length ≤ k) = false := by simp; omega
        have hne : (x != x) = false := by simp
        go_wp2
        go_quiet (fail)
        go_wp2
        go_roundw
        case rel => exact ⟨k + 1, by omega, by go_num, below_drewN hb _⟩
        case measure => simp [intOf]; omega
      · rw [marked_high _ _ (by omega) hlt] at hcell
        have ht1 : decide (k < zs.length) = false := by simp; omega
        have ht2 : decide (zs.length ≤ k) = true := by simp; omega
        go_wp2
        go_quiet (fail)
        go_wp2
        go_roundw
        case rel => exact ⟨k + 1, by omega, by go_num, below_drewN hb _⟩
        case measure => simp [intOf]; omega
    · go_wp2
      go_ret
      exact ⟨rfl, hb⟩
end Go.Proofs.YtlodenfdcckemaaDoor

/-
  The walks of the functions that hand formulas in with spare room, and look whether it was kept.
-/

namespace Go.Proofs.YtlodenfdcckemaaDoor
open Go.RowKit

/-- A list with its spare room, as cells. -/
def marked (c : List Int) : List Value := (c ++ [77, 77, 77, 77]).map (Value.int .i64)

/-- Cell i of a list of lists with spare room; the list lies at block gi. -/
def handCell (cs : List (List Int)) (i gi : Nat) : Value := .slice (some ⟨gi, 0, none⟩) (cs.getD i []).length ((cs.getD i []).length + 4)

/-- The lists cs lie at block g with spare room, the first k of them and of the room. -/
def HandedTo (w : World) (B g : Nat) (cs : List (List Int)) (k : Nat) : Prop :=
  g < B ∧ ∃ L, Blk w g 24 L ∧ L.length = cs.length + 4 ∧ ∀ i, i < k → ∃ gi, L.getD i undef = handCell cs i gi ∧ g < gi ∧ gi < B ∧ Blk w gi 3 (marked (cs.getD i []))

def Handed (w : World) (B g : Nat) (cs : List (List Int)) : Prop := HandedTo w B g cs (cs.length + 4)

theorem HandedTo.below {w w' : World} {B B' g k : Nat} {cs : List (List Int)} (h : HandedTo w B g cs k) (hb : Below B' w w') (hB : B ≤ B') : HandedTo w' B g cs k := by
  obtain ⟨hg, L, h1, h2, h3⟩ := h
  refine ⟨hg, L, h1.below hb (by omega), h2, fun i hi => ?_⟩
  obtain ⟨gi, e1, e0, e2, e3⟩ := h3 i hi
  exact ⟨gi, e1, e0, e2, e3.below hb (by omega)⟩

theorem HandedTo.mono {w : World} {B B' g k : Nat} {cs : List (List Int)} (h : HandedTo w B g cs k) (hB : B ≤ B') : HandedTo w B' g cs k := by
  obtain ⟨hg, L, h1, h2, h3⟩ := h
  refine ⟨by omega, L, h1, h2, fun i hi => ?_⟩
  obtain ⟨gi, e1, e0, e2, e3⟩ := h3 i hi
  exact ⟨gi, e1, e0, by omega, e3⟩

theorem HandedTo.step {w : World} {B g k gi : Nat} {cs : List (List Int)} (h : HandedTo w B g cs k) (hk : k < cs.length + 4) (hgi : g < gi) (hB : gi < B) (hb : Blk w gi 3 (marked (cs.getD k []))) :
    HandedTo (w.setCell ⟨g, k, none⟩ (handCell cs k gi)) B g cs (k + 1) := by
  obtain ⟨hg, L, h1, h2, h3⟩ := h
  refine ⟨hg, _, h1.set k _, by simp [h2], fun i hi => ?_⟩
  by_cases e : i = k
  · subst e
    refine ⟨gi, ?_, hgi, hB, hb.setOther (by simp; omega) _⟩
    simp [h2, hk]
  · obtain ⟨gj, e1, e0, e2, e3⟩ := h3 i (by omega)
    refine ⟨gj, ?_, e0, e2, e3.setOther (by simp; omega) _⟩
    rw [← e1]
    simp [Ne.symm e]

theorem HandedTo.start {w' : World} {g : Nat} {cs : List (List Int)} (h : Blk w' g 24 (List.replicate (cs.length + 4) (.slice none 0 0))) : HandedTo w' w'.heap.size g cs 0 :=
  ⟨h.lt, _, h, by simp, fun i hi => by omega⟩

theorem HandedTo.room {w : World} {B g k : Nat} {cs : List (List Int)} (h : HandedTo w B g cs k) {i : Nat} (hi : i < cs.length + 4) : (∃ old, w.cell? ⟨g, i, none⟩ = some old) ∧ w.frozen? ⟨g, i, none⟩ = false := by
  obtain ⟨hg, L, h1, h2, h3⟩ := h
  exact ⟨⟨_, h1.cell (by omega) undef⟩, h1.frozen i⟩

theorem marked_length (c : List Int) : (marked c).length = c.length + 4 := by simp [marked]

theorem Handed.lists {w : World} {B g : Nat} {cs : List (List Int)} (h : Handed w B g cs) : ListsAt w B (some ⟨g, 0, none⟩) cs := by
  intro _
  obtain ⟨hg, L, h1, h2, h3⟩ := h
  refine ⟨g, 0, rfl, hg, fun i hi => ?_⟩
  obtain ⟨gi, e1, _, e2, e3⟩ := h3 i (by omega)
  refine ⟨some ⟨gi, 0, none⟩, (cs.getD i []).length + 4, ?_, fun _ => ⟨gi, 0, rfl, e2, fun j hj => ?_⟩⟩
  · rw [Nat.zero_add, h1.cell (by omega) undef, e1]; rfl
  · rw [Nat.zero_add, e3.cell (by rw [marked_length]; omega) undef, marked, marked_low _ _ hj]

theorem ints_none (w : World) (B : Nat) : IntsAt w B none [] := fun h => absurd rfl h

set_option maxHeartbeats 400000 in
theorem lists_any (ao : Option Addr) (cap : Nat) (cs : List (List Int)) (w : World) (hc : ListsAt w w.heap.size ao cs) (hl : cs.length * 24 ≤ 140737488351232) (hin : ∀ c ∈ cs, c.length * 8 ≤ 140737488351232) :
    Calls Tryd.prog 41 #[.slice ao cs.length cap] w fun e w' => e = .returned (.slice (some ⟨w.heap.size, 0, none⟩) cs.length (cs.length + 4)) ∧
      Handed w' w'.heap.size w.heap.size cs ∧ Below w.heap.size w w' := by
  have HN : Hid _ := hin
  clear hin
  go_enter Tryd.func41, Tryd.ntmps41
  go_wp2_with (first
    | (at_make; refine wpList_make_blk _ rfl (.tmp 7) (.tmp 7) 23 rfl 24 (.slice none 0 0) 24 Tryd.underlying23 Tryd.info24 rfl .i64 .i64 (cs.length + 4) _ _ rfl rfl (by omega) (by omega) (by omega) (by omega) ?_; intro w1 hB1 hb1 hs1))
  go_loopw [4] (fun i wr => ∃ (k : Nat), k ≤ cs.length + 4 ∧ i = .int .i64 k ∧ HandedTo wr wr.heap.size w.heap.size cs k ∧ Below w.heap.size w wr) (fun i _ => cs.length + 4 - (intOf i).toNat)
  case atStart => exact ⟨0, by omega, rfl, HandedTo.start hB1, hb1⟩
  case round =>
    clear hB1 hs1 hb1
    obtain ⟨k, hk, rfl, hH, hb⟩ := hrel
    by_cases hlt : k < cs.length + 4
    · by_cases hz : k < cs.length
      · obtain ⟨b, o, rfl, hbl, hcc⟩ := hc (by intro h; rw [h] at hz; simp at hz)
        obtain ⟨A, C, hck, hci⟩ := hcc k hz
        replace hck := (hb.cell (p := ⟨b, o + k, none⟩) hbl).trans hck
        have hci2 := (hci.below hb (Nat.le_refl _)).mono hb.size
        have hlen : (cs.getD k []).length * 8 ≤ 140737488351232 := HN.out _ (by rw [getD_lt _ _ _ hz]; exact List.getElem_mem hz)
        have hcelleq : Hid (∀ gi, Value.slice (some ⟨gi, 0, none⟩) (cs.getD k []).length ((cs.getD k []).length + 4) = handCell cs k gi) := fun gi => rfl
        have hmk : Hid (∀ (w : World) (g : Nat), Blk w g 3 (((cs.getD k []) ++ [77, 77, 77, 77]).map (Value.int .i64)) → Blk w g 3 (marked (cs.getD k []))) := fun _ _ h => h
        obtain ⟨c, hx⟩ : ∃ x, x = cs.getD k [] := ⟨_, rfl⟩
        rw [← hx] at hck hci2 hlen hcelleq hmk
        have HX : Hid (c = cs.getD k []) := hx
        clear hx hci hcc
        go_wp2_with (go_at_call 12; refine (numbers_any A C c _ hci2 hlen).mono ?_; rintro e w2 ⟨rfl, hBn, hbn⟩; have hH2 := hH.below hbn (Nat.le_refl _); obtain ⟨⟨old, hold⟩, hfr⟩ := hH2.room hlt)
        go_roundw
        case rel =>
          refine ⟨k + 1, by omega, by go_num, ?_, (hb.trans (hbn.mono hb.size)).setCell (Nat.le_refl _) _⟩
          have := (hH2.mono (B' := w2.heap.size) hbn.size).step hlt (gi := wr.heap.size) hH.1 hBn.lt (HX.out ▸ hmk.out _ _ hBn)
          rw [hcelleq.out]
          simpa [World.setCell] using this
        case measure => simp [intOf]; omega
      · have hnil : cs.getD k [] = [] := by rw [List.getD_eq_getElem?_getD, List.getElem?_eq_none (by omega)]; rfl
        have HX : Hid (cs.getD k [] = []) := hnil
        have hci2 : IntsAt wr wr.heap.size none [] := ints_none _ _
        clear hnil
        go_wp2_with (go_at_call 12; refine (numbers_any none 0 [] _ hci2 (by simp)).mono ?_; rintro e w2 ⟨rfl, hBn, hbn⟩; have hH2 := hH.below hbn (Nat.le_refl _); obtain ⟨⟨old, hold⟩, hfr⟩ := hH2.room hlt)
        go_roundw
        case rel =>
          refine ⟨k + 1, by omega, by go_num, ?_, (hb.trans (hbn.mono hb.size)).setCell (Nat.le_refl _) _⟩
          have hst := (hH2.mono (B' := w2.heap.size) hbn.size).step hlt (gi := wr.heap.size) hH.1 hBn.lt (by rw [HX.out]; exact hBn)
          have e : handCell cs k wr.heap.size = .slice (some ⟨wr.heap.size, 0, none⟩) 0 4 := by rw [handCell, HX.out]; rfl
          rw [e] at hst
          simpa [World.setCell] using hst
        case measure => simp [intOf]; omega
    · obtain rfl : k = cs.length + 4 := by omega
      go_wp2
      go_ret
      exact ⟨rfl, hH, hb⟩

theorem HandedTo.setOther {w : World} {B g k : Nat} {cs : List (List Int)} (h : HandedTo w B g cs k) {a : Addr} (ha : a.block < g) (v : Value) : HandedTo (w.setCell a v) B g cs k := by
  obtain ⟨hg, L, h1, h2, h3⟩ := h
  refine ⟨hg, L, h1.setOther (by omega) v, h2, fun i hi => ?_⟩
  obtain ⟨gi, e1, e0, e2, e3⟩ := h3 i hi
  exact ⟨gi, e1, e0, e2, e3.setOther (by omega) v⟩

theorem handed_done {w w2 w3 : World} {cs : List (List Int)} (hsz : w2.heap.size = w.heap.size + 2) (hH : Handed w3 w3.heap.size w2.heap.size cs) (hb2 : Below w.heap.size w w2) (hb : Below w2.heap.size w2 w3) (u v : Value) (i j : Nat) :
    Handed ((w3.setCell ⟨w.heap.size + 1, i, none⟩ u).setCell ⟨w.heap.size + 1, j, none⟩ v) ((w3.setCell ⟨w.heap.size + 1, i, none⟩ u).setCell ⟨w.heap.size + 1, j, none⟩ v).heap.size w2.heap.size cs ∧
      Below w.heap.size w ((w3.setCell ⟨w.heap.size + 1, i, none⟩ u).setCell ⟨w.heap.size + 1, j, none⟩ v) := by
  constructor
  · have := (HandedTo.setOther (HandedTo.setOther hH (a := ⟨w.heap.size + 1, i, none⟩) (by simp; omega) u) (a := ⟨w.heap.size + 1, j, none⟩) (by simp; omega) v)
    unfold Handed
    simpa [World.setCell] using this
  · exact ((hb2.trans (hb.mono (by omega))).setCell (by simp) u).setCell (by simp) v

theorem later {w2 w3 : World} {N : Nat} {vars : Int} {v : Value} {L : List Value} (c0 : w2.cell? ⟨N, 0, none⟩ = some (.int .i64 vars)) (c1 : w2.cell? ⟨N, 1, none⟩ = some v) (B2 : Blk w2 (N + 1) 31 L) (hL : L.length = 2) (hb : Below w2.heap.size w2.drew w3) :
    Below w2.heap.size w2 w3 ∧ w3.cell? ⟨N, 0, none⟩ = some (.int .i64 vars) ∧ w3.cell? ⟨N, 1, none⟩ = some v ∧ (∃ x, w3.cell? ⟨N + 1, 0, none⟩ = some x) ∧ (∃ x, w3.cell? ⟨N + 1, 1, none⟩ = some x) ∧ w3.frozen? ⟨N + 1, 0, none⟩ = false ∧ w3.frozen? ⟨N + 1, 1, none⟩ = false := by
  have hb' : Below w2.heap.size w2 w3 := (Below.refl _ w2).drew.trans hb
  have hN := B2.lt
  have B3 := B2.below' hb'
  exact ⟨hb', (hb'.cell (p := ⟨N, 0, none⟩) (by simp; omega)).trans c0, (hb'.cell (p := ⟨N, 1, none⟩) (by simp; omega)).trans c1, ⟨_, B3.cell (by omega) undef⟩, ⟨_, B3.cell (by omega) undef⟩, B3.frozen 0, B3.frozen 1⟩

set_option maxHeartbeats 400000 in
theorem handed_any (vars : Int) (ao : Option Addr) (cap : Nat) (cs : List (List Int)) (w : World) (hc : ListsAt w w.heap.size ao cs) (hl : cs.length * 24 ≤ 140737488351232) (hin : ∀ c ∈ cs, c.length * 8 ≤ 140737488351232) :
    Calls Tryd.prog 11 #[.agg #[.int .i64 vars, .slice ao cs.length cap]] w fun e w' => ∃ g, e = .returned (.agg #[.int .i64 vars, .slice (some ⟨g, 0, none⟩) cs.length (cs.length + 4)]) ∧
      w.heap.size ≤ g ∧ Handed w' w'.heap.size g cs ∧ Below w.heap.size w w' := by
  have HN : Hid (∀ c ∈ cs, c.length * 8 ≤ 140737488351232) := hin
  clear hin
  go_enter Tryd.func11, Tryd.ntmps11
  go_wp2
  generalize hw2 : (w.alloc (Obj.cells #[Value.int IntKind.i64 vars, Value.slice ao cs.length cap] 31)).alloc (Obj.cells #[Value.int IntKind.i64 0, Value.slice none 0 0] 31) = w2
  have c0 : w2.cell? ⟨w.heap.size, 0, none⟩ = some (.int .i64 vars) := by rw [← hw2]; simp
  have c1 : w2.cell? ⟨w.heap.size, 1, none⟩ = some (.slice ao cs.length cap) := by rw [← hw2]; simp
  have hsz : w2.heap.size = w.heap.size + 2 := by rw [← hw2]; simp
  have hb2 : Below w.heap.size w w2 := by rw [← hw2]; exact ((Below.refl _ _).alloc (Nat.le_refl _) _).alloc (by simp) _
  have B2 : Blk w2 (w.heap.size + 1) 31 [.int .i64 0, .slice none 0 0] := by
    rw [← hw2]
    have := blk_new (w.alloc (Obj.cells #[Value.int IntKind.i64 vars, Value.slice ao cs.length cap] 31)) [.int .i64 0, .slice none 0 0] 31
    simpa using this
  clear hw2
  have hc2 := (hc.below hb2 (Nat.le_refl _)).mono hb2.size
  clear hc
  have HSZ : Hid _ := hsz
  clear hsz
  go_region_with (go_at_call 41; refine (lists_any ao cap cs _ ?_ hl HN.out).mono ?_; exact hc2; rintro e w3 ⟨rfl, hH, hb3⟩; obtain ⟨hb4, c0', c1', ⟨x0, d0⟩, ⟨x1, d1⟩, f0, f1⟩ := later c0 c1 B2 rfl hb3)
  all_goals go_wp2
  all_goals
    have hd := handed_done HSZ.out hH hb2 hb4 (.int .i64 vars) (.slice (some ⟨w2.heap.size, 0, none⟩) cs.length (cs.length + 4)) 0 1
    exact bodyPost_ret (v := .agg #[.int .i64 vars, .slice (some ⟨w2.heap.size, 0, none⟩) cs.length (cs.length + 4)]) (by simp [results, Tryd.results11, go_sem, d0, d1]) rfl ⟨_, rfl, hb2.size, hd.1, hd.2⟩
end Go.Proofs.YtlodenfdcckemaaDoor

/-
  The walk of the function that looks whether a formula that was handed in was kept.
-/

namespace Go.Proofs.YtlodenfdcckemaaDoor
open Go.RowKit

theorem Handed.cellAt {w : World} {B g : Nat} {cs : List (List Int)} (h : Handed w B g cs) {i : Nat} (hi : i < cs.length + 4) :
    ∃ gi, w.cell? ⟨g, i, none⟩ = some (.slice (some ⟨gi, 0, none⟩) (cs.getD i []).length ((cs.getD i []).length + 4)) ∧ gi < B ∧ Blk w gi 3 (marked (cs.getD i [])) := by
  obtain ⟨hg, L, h1, h2, h3⟩ := h
  obtain ⟨gi, e1, _, e2, e3⟩ := h3 i hi
  exact ⟨gi, by rw [h1.cell (by omega) undef, e1]; rfl, e2, e3⟩

set_option maxHeartbeats 400000 in
theorem keptLists_any (g : Nat) (ao : Option Addr) (cap : Nat) (cs : List (List Int)) (w : World) (hH : Handed w w.heap.size g cs) (hc : ListsAt w w.heap.size ao cs) (hl : cs.length * 24 ≤ 140737488351232) (hin : ∀ c ∈ cs, c.length * 8 ≤ 140737488351232) :
    Calls Tryd.prog 18 #[.slice (some ⟨g, 0, none⟩) cs.length (cs.length + 4), .slice ao cs.length cap] w fun e w' => e = .returned (.bool true) ∧ Below w.heap.size w w' := by
  have HN : Hid (∀ c ∈ cs, c.length * 8 ≤ 140737488351232) := hin
  clear hin
  go_enter Tryd.func18, Tryd.ntmps18
  go_wp2
  go_loopw [6] (fun i wr => ∃ (k : Nat), k ≤ cs.length + 4 ∧ i = .int .i64 k ∧ Below w.heap.size w wr) (fun i _ => cs.length + 4 - (intOf i).toNat)
  case atStart => exact ⟨0, by omega, rfl, Below.refl _ _⟩
  case round =>
    obtain ⟨k, hk, rfl, hb⟩ := hrel
    by_cases hlt : k < cs.length + 4
    · have hH1 : Handed wr w.heap.size g cs := hH.below hb (Nat.le_refl _)
      obtain ⟨gi, hcell, hgi, hBi⟩ := hH1.cellAt hlt
      by_cases hz : k < cs.length
      · obtain ⟨b, o, rfl, hbl, hcc⟩ := hc (by intro h; rw [h] at hz; simp at hz)
        obtain ⟨A, C, hck, hci⟩ := hcc k hz
        replace hck := (hb.cell (p := ⟨b, o + k, none⟩) hbl).trans hck
        have hci2 := (hci.below hb (Nat.le_refl _)).mono hb.size
        have hlen : (cs.getD k []).length * 8 ≤ 140737488351232 := HN.out _ (by rw [getD_lt _ _ _ hz]; exact List.getElem_mem hz)
        obtain ⟨c, hx⟩ : ∃ x, x = cs.getD k [] := ⟨_, rfl⟩
        rw [← hx] at hck hci2 hlen hcell hBi
        clear hx hci hcc hH1
        have hne : ((c.length : Int) != (c.length : Int)) = false := by simp
        go_wp2_with (go_at_call 19; refine (kept_any gi A C c _ hBi hci2 hlen).mono ?_; rintro e w2 ⟨rfl, hbn⟩)
        go_roundw
        case rel => exact ⟨k + 1, by omega, by go_num, hb.trans (hbn.mono hb.size)⟩
        case measure => simp [intOf]; omega
      · have hnil : cs.getD k [] = [] := by rw [List.getD_eq_getElem?_getD, List.getElem?_eq_none (by omega)]; rfl
        rw [hnil] at hcell hBi
        have hci2 : IntsAt wr wr.heap.size none [] := ints_none _ _
        clear hnil hH1
        simp only [List.length_nil, Nat.zero_add] at hcell
        go_wp2_with (go_at_call 19; refine (kept_any gi none 0 [] _ hBi hci2 (by simp)).mono ?_; rintro e w2 ⟨rfl, hbn⟩)
        go_roundw
        case rel => exact ⟨k + 1, by omega, by go_num, hb.trans (hbn.mono hb.size)⟩
        case measure => simp [intOf]; omega
    · go_wp2
      go_ret
      exact ⟨rfl, hb⟩
end Go.Proofs.YtlodenfdcckemaaDoor

/-
  The walk of the law on faults.
-/

namespace Go.Proofs.YtlodenfdcckemaaDoor
open Go.RowKit

/-- What stays as it is while the law runs: the formula, in its box at block N; the one that is handed in, at block g, in its box at block hb. -/
structure Inv (w w' : World) (N hb g : Nat) (vars : Int) (ao : Option Addr) (cap : Nat) (cs : List (List Int)) : Prop where
  old : Below w.heap.size w w'
  sz : w.heap.size = N
  boxF : Blk w' N 31 [.int .i64 vars, .slice ao cs.length cap]
  boxH : Blk w' hb 31 [.int .i64 vars, .slice (some ⟨g, 0, none⟩) cs.length (cs.length + 4)]
  lists : ListsAt w' w'.heap.size ao cs
  hand : Handed w' w'.heap.size g cs

theorem Inv.step {w w' w'' : World} {N hb g : Nat} {vars : Int} {ao : Option Addr} {cap : Nat} {cs : List (List Int)} (h : Inv w w' N hb g vars ao cap cs) (hb' : Below w'.heap.size w' w'') : Inv w w'' N hb g vars ao cap cs :=
  ⟨h.old.trans (hb'.mono h.old.size), h.sz, h.boxF.below' hb', h.boxH.below' hb', (h.lists.below hb' (Nat.le_refl _)).mono hb'.size, (HandedTo.below h.hand hb' (Nat.le_refl _)).mono hb'.size⟩

theorem Inv.alloc {w w' : World} {N hb g : Nat} {vars : Int} {ao : Option Addr} {cap : Nat} {cs : List (List Int)} (h : Inv w w' N hb g vars ao cap cs) (o : Obj) : Inv w (w'.alloc o) N hb g vars ao cap cs :=
  h.step ((Below.refl _ _).alloc (Nat.le_refl _) o)

theorem Inv.cells {w w' : World} {N hb g : Nat} {vars : Int} {ao : Option Addr} {cap : Nat} {cs : List (List Int)} (h : Inv w w' N hb g vars ao cap cs) :
    w'.cell? ⟨N, 0, none⟩ = some (.int .i64 vars) ∧ w'.cell? ⟨N, 1, none⟩ = some (.slice ao cs.length cap) ∧ w'.cell? ⟨hb, 0, none⟩ = some (.int .i64 vars) ∧ w'.cell? ⟨hb, 1, none⟩ = some (.slice (some ⟨g, 0, none⟩) cs.length (cs.length + 4)) ∧
      ListsAt w' w'.heap.size (some ⟨g, 0, none⟩) cs :=
  ⟨h.boxF.cell (i := 0) (by simp) undef, h.boxF.cell (i := 1) (by simp) undef, h.boxH.cell (i := 0) (by simp) undef, h.boxH.cell (i := 1) (by simp) undef, Handed.lists h.hand⟩

theorem Inv.start {w w1 : World} {g : Nat} {vars : Int} {ao : Option Addr} {cap : Nat} {cs : List (List Int)} (hc : ListsAt w w.heap.size ao cs) (hH : Handed w1 w1.heap.size g cs)
    (hb : Below (w.heap.size + 1) (w.alloc (.cells #[.int .i64 vars, .slice ao cs.length cap] 31)) w1) :
    Inv w (w1.alloc (.cells #[.int .i64 vars, .slice (some ⟨g, 0, none⟩) cs.length (cs.length + 4)] 31)) w.heap.size w1.heap.size g vars ao cap cs := by
  have hw1 : Below w.heap.size w (w.alloc (.cells #[.int .i64 vars, .slice ao cs.length cap] 31)) := (Below.refl _ _).alloc (Nat.le_refl _) _
  have hw2 : Below w.heap.size w w1 := hw1.trans (hb.mono (by omega))
  have hb3 : Below w1.heap.size w1 (w1.alloc (.cells #[.int .i64 vars, .slice (some ⟨g, 0, none⟩) cs.length (cs.length + 4)] 31)) := (Below.refl _ _).alloc (Nat.le_refl _) _
  have hw3 := hw2.trans (hb3.mono hw2.size)
  refine ⟨hw3, rfl, ?_, ?_, (hc.below hw3 (Nat.le_refl _)).mono hw3.size, (HandedTo.below hH hb3 (Nat.le_refl _)).mono hb3.size⟩
  · have B0 : Blk (w.alloc (.cells #[.int .i64 vars, .slice ao cs.length cap] 31)) w.heap.size 31 [.int .i64 vars, .slice ao cs.length cap] := blk_new w [.int .i64 vars, .slice ao cs.length cap] 31
    exact (B0.below hb (by omega)).below' hb3
  · exact blk_new w1 [.int .i64 vars, .slice (some ⟨g, 0, none⟩) cs.length (cs.length + 4)] 31

/-- What is asked of a formula's size and numbers: what Go's own memory gives. -/
structure Fits (cs : List (List Int)) : Prop where
  len : cs.length * 24 ≤ 140737488351232
  each : ∀ c ∈ cs, c.length * 8 ≤ 140737488351232
  nums : ∀ c ∈ cs, ∀ l ∈ c, -9223372036854775808 ≤ l ∧ l ≤ 9223372036854775807


end Go.Proofs.YtlodenfdcckemaaDoor

/-
  The walk of a formula's making out of raw numbers.
-/

namespace Go.Proofs.YtlodenfdcckemaaDoor
open Go.RowKit

/-- Lists that a call has made, in memory: each its own block, all from base on. -/
structure MadeL (w : World) (base : Nat) (v : Value) (vs : List Value) (cs : List (List Int)) : Prop where
  oe : Own w base 24 v vs
  len : vs.length = cs.length
  ls : ∀ i, i < vs.length → Own w base 3 (vs.getD i undef) (ints (cs.getD i []))

theorem MadeL.start (w : World) (base : Nat) : MadeL w base (.slice none 0 0) [] [] := ⟨Own.nil _ _ _, rfl, fun i hi => absurd hi (by simp)⟩

theorem MadeL.chg {w w' : World} {base : Nat} {v : Value} {vs : List Value} {cs : List (List Int)} {S : Nat → Prop} (h : MadeL w base v vs cs) (hc : Chg S w w') (hn : ∀ k, base ≤ k → k < w.heap.size → ¬ S k) : MadeL w' base v vs cs :=
  ⟨h.oe.chg hc (fun k e => hn k (h.oe.lt e).1 (h.oe.lt e).2), h.len, fun i hi => (h.ls i hi).chg hc (fun k e => hn k ((h.ls i hi).lt e).1 ((h.ls i hi).lt e).2)⟩

theorem MadeL.below' {w w' : World} {base : Nat} {v : Value} {vs : List Value} {cs : List (List Int)} (h : MadeL w base v vs cs) (hb : Below w.heap.size w w') : MadeL w' base v vs cs :=
  h.chg (S := fun _ => False) (Chg.of_below hb) (fun _ _ _ e => e)

theorem MadeL.lists {w : World} {base : Nat} {v : Value} {vs : List Value} {cs : List (List Int)} (h : MadeL w base v vs cs) : ∃ ao cap, v = .slice ao cs.length cap ∧ ListsAt w w.heap.size ao cs := by
  obtain ⟨ao, cap, hv⟩ := h.oe.shape
  refine ⟨ao, cap, by rw [hv, h.len], fun hne => ?_⟩
  have hpos : 0 < vs.length := by rw [h.len]; exact List.length_pos_iff.2 hne
  obtain ⟨g, cap', hv', hg, hcells⟩ := h.oe.at hpos
  rw [hv] at hv'
  simp only [Value.slice.injEq] at hv'
  refine ⟨g, 0, hv'.1, hg, fun i hi => ?_⟩
  have hi' : i < vs.length := by rw [h.len]; exact hi
  obtain ⟨A, C, h1, h2⟩ := (h.ls i hi').ints (Nat.le_refl _)
  exact ⟨A, C, by rw [Nat.zero_add, hcells i hi', h1], h2⟩

/-- A list more. -/
theorem MadeL.more {w w' : World} {base g cap n : Nat} {v x : Value} {vs : List Value} {cs : List (List Int)} {c : List Int} (h : MadeL w base v vs cs) (hx : Own w base 3 x (ints c)) (hown : Own w' base 24 (.slice (some ⟨g, 0, none⟩) n cap) (vs ++ [x])) (hC : Chg (fun k => v.ownBlock = some k) w w') : MadeL w' base (.slice (some ⟨g, 0, none⟩) n cap) (vs ++ [x]) (cs ++ [c]) := by
  have hl := h.len
  refine ⟨hown, by simp [hl], fun i hi => ?_⟩
  by_cases hlt : i < vs.length
  · have := (h.ls i hlt).chg hC (fun k e e' => own_ne h.oe (h.ls i hlt) (by decide) e' e)
    rw [getD_lt _ _ _ hi, List.getElem_append_left hlt, getD_lt _ _ _ (by simp; omega), List.getElem_append_left (by omega)]
    rw [getD_lt _ _ _ hlt, getD_lt _ _ _ (by omega)] at this
    exact this
  · have hi' : i = vs.length := by simp at hi; omega
    subst hi'
    have := hx.chg hC (fun k e e' => own_ne h.oe hx (by decide) e' e)
    rw [getD_lt _ _ _ hi, getD_lt _ _ _ (by simp; omega)]
    simpa [hl] using this

/-- Behind a clause's putting in. -/
theorem kf_end {w w3 wq w5 : World} {base Fb Rb g5 n5 c5 : Nat} {V : Int} {v x : Value} {vs : List Value} {cs : List (List Int)} {c : List Int} {o : Obj} (hM : MadeL w3 base v vs cs) (hBq : Below w3.heap.size w3 wq) (hx : Own wq w3.heap.size 3 x (ints c)) (hO5 : Own w5 base 24 (.slice (some ⟨g5, 0, none⟩) n5 c5) (vs ++ [x])) (hgr : (wq.alloc o).grownBy w5 v.ownBlock)
    (hF : Blk w3 Fb 31 [.int .i64 V, v]) (hR : Blk w3 Rb 31 [.int .i64 0, .slice none 0 0]) (hFb : Fb < base) (hRb : Rb < base) (hRF : Rb ≠ Fb) (hwF : w.heap.size ≤ Fb) (hb3 : base ≤ w3.heap.size) (hbe : Below w.heap.size w w3) :
    w5.cell? ⟨Fb, 1, none⟩ = some v ∧ w5.frozen? ⟨Fb, 1, none⟩ = false ∧ MadeL (w5.setCell ⟨Fb, 1, none⟩ (.slice (some ⟨g5, 0, none⟩) n5 c5)) base (.slice (some ⟨g5, 0, none⟩) n5 c5) (vs ++ [x]) (cs ++ [c]) ∧
      Blk (w5.setCell ⟨Fb, 1, none⟩ (.slice (some ⟨g5, 0, none⟩) n5 c5)) Fb 31 [.int .i64 V, .slice (some ⟨g5, 0, none⟩) n5 c5] ∧ Blk (w5.setCell ⟨Fb, 1, none⟩ (.slice (some ⟨g5, 0, none⟩) n5 c5)) Rb 31 [.int .i64 0, .slice none 0 0] ∧ Below w.heap.size w (w5.setCell ⟨Fb, 1, none⟩ (.slice (some ⟨g5, 0, none⟩) n5 c5)) := by
  have hsq := hBq.size
  have hMq := hM.below' hBq
  have hC5 : Chg (fun k => v.ownBlock = some k) wq w5 := (Chg.of_below (alloc_below wq o)).trans (Chg.of_grown (S := fun k => v.ownBlock = some k) hgr (fun k e => e) (fun k e o' ho => (hMq.oe.alloc o).cells e o' ho))
  have hvb : ∀ k, v.ownBlock = some k → base ≤ k := fun k e => (hMq.oe.lt e).1
  have F5 : Blk w5 Fb 31 [.int .i64 V, v] := (hF.below' hBq).chg hC5 (fun e => by have := hvb _ e; omega)
  have R5 : Blk w5 Rb 31 [.int .i64 0, .slice none 0 0] := (hR.below' hBq).chg hC5 (fun e => by have := hvb _ e; omega)
  have hCs : Chg (fun k => k = Fb) w5 (w5.setCell ⟨Fb, 1, none⟩ (.slice (some ⟨g5, 0, none⟩) n5 c5)) := Chg.setB (S := fun k => k = Fb) (Chg.refl _ _) Fb 1 rfl _
  have hM5 := hMq.more (hx.base hb3) hO5 hC5
  refine ⟨F5.cell (i := 1) (by simp) undef, F5.frozen 1, hM5.chg hCs (fun k h1 _ h2 => by omega), F5.set 1 _, R5.setOther (a := ⟨Fb, 1, none⟩) hRF _, ?_⟩
  have h1 : Below w.heap.size w wq := hbe.trans (hBq.mono hbe.size)
  have h2 : Below w.heap.size w w5 := h1.trans (hC5.below h1.size fun k e => by have := hvb k e; omega)
  exact h2.trans (hCs.below h2.size fun k e => by omega)

theorem MadeL.base {w : World} {b b' : Nat} {v : Value} {vs : List Value} {cs : List (List Int)} (h : MadeL w b v vs cs) (hb : b' ≤ b) : MadeL w b' v vs cs := ⟨h.oe.base hb, h.len, fun i hi => (h.ls i hi).base hb⟩

theorem res1 {fn : Func} {tmps : Array Value} {W : World} {R : Nat} {a : Int} {ao : Option Addr} {n cap : Nat} (hf : fn.results = #[.cell 6 31]) (hB : Blk W R 31 [.int .i64 a, .slice ao n cap]) (h2 : tmps[6]? = some (.pointer (some ⟨R, 0, none⟩))) :
    (results fn tmps).run Tryd.prog W = .ok (.agg #[.int .i64 a, .slice ao n cap]) W := by
  have c0 : W.cell? ⟨R, 0, none⟩ = some (.int .i64 a) := hB.cell (i := 0) (by simp) undef
  have c1 : W.cell? ⟨R, 1, none⟩ = some (.slice ao n cap) := hB.cell (i := 1) (by simp) undef
  simp [results, hf, go_sem, c0, c1, h2]

/-- The clause that a raw list spells. -/
def rowBy (V : Int) (r : List Int) : List Int := (r.take 4).map fun c => litBy c V

set_option maxRecDepth 100000 in
set_option maxHeartbeats 8000000 in
theorem kformula_any (vars : Int) (most : Nat) (ao : Option Addr) (cap : Nat) (raw : List (List Int)) (w : World) (hc : ListsAt w w.heap.size ao raw) (hF : Fits raw) (hv0 : -9223372036854775808 ≤ vars) (hv1 : vars ≤ 9223372036854775807) (hm0 : 1 ≤ most) (hm1 : most ≤ 20) :
    Calls Tryd.prog 26 #[.int .i64 vars, .slice ao raw.length cap, .int .i64 most] w fun e w' => ∃ v vs, e = .returned (.agg #[.int .i64 (rawV vars most), v]) ∧ MadeL w' w.heap.size v vs (rawC (rawV vars most) raw) ∧ Below w.heap.size w w' := by
  have hr := pickOf_range vars (show (0 : Int) < (most : Int) by omega)
  have c1 := pick_any vars (most : Int) (w.alloc (.cells #[.int .i64 0, .slice none 0 0] 31)) hv0 hv1 (by omega) (by omega)
  obtain ⟨V, hV⟩ : ∃ V : Nat, rawV vars most = V := ⟨(rawV vars most).toNat, by unfold rawV; omega⟩
  have hV1 : 1 ≤ V := by unfold rawV at hV; omega
  have hV2 : V ≤ 20 := by unfold rawV at hV; omega
  rw [hV]
  go_enter Tryd.func26, Tryd.ntmps26
  go_wp2_with fail
  refine c1.mono ?_
  rintro e w' ⟨rfl, rfl⟩
  clear c1
  have hVp : (1 : Int) + pickOf vars (most : Int) = V := by rw [← hV]; rfl
  have HVp : Hid ((1 : Int) + pickOf vars (most : Int) = V) := hVp
  generalize pickOf vars (most : Int) = pk at *
  obtain ⟨i0, hi, hz0, hz1, hz2⟩ := info_parts Tryd.info3
  go_wp2
  have b1 := alloc_below w (.cells #[.int .i64 0, .slice none 0 0] 31)
  have B1 : Blk (w.alloc (.cells #[.int .i64 0, .slice none 0 0] 31)) w.heap.size 31 [.int .i64 0, .slice none 0 0] := blk_new w [.int .i64 0, .slice none 0 0] 31
  have s1 := alloc_size w (.cells #[.int .i64 0, .slice none 0 0] 31)
  generalize w.alloc (.cells #[.int .i64 0, .slice none 0 0] 31) = w1 at *
  have b2 := alloc_below w1 (.cells #[.int .i64 V, .slice none 0 0] 31)
  have B2 : Blk (w1.alloc (.cells #[.int .i64 V, .slice none 0 0] 31)) w1.heap.size 31 [.int .i64 V, .slice none 0 0] := blk_new w1 [.int .i64 V, .slice none 0 0] 31
  have s2 := alloc_size w1 (.cells #[.int .i64 V, .slice none 0 0] 31)
  replace B1 := B1.below' b2
  generalize w1.alloc (.cells #[.int .i64 V, .slice none 0 0] 31) = w2 at *
  rw [s1] at B2
  have hb2 : Below w.heap.size w w2 := b1.trans (b2.mono (by omega))
  have hs2 : w2.heap.size = w.heap.size + 1 + 1 := by omega
  have HS2 : Hid (w2.heap.size = w.heap.size + 1 + 1) := hs2
  clear b1 b2 s1 s2 hr hV hVp hs2
  obtain ⟨Rb, HRb⟩ : ∃ Rb, Hid (Rb = w.heap.size) := ⟨_, rfl⟩
  obtain ⟨Fb, HFb⟩ : ∃ Fb, Hid (Fb = w.heap.size + 1) := ⟨_, rfl⟩
  obtain ⟨base, HBa⟩ : ∃ base, Hid (base = w.heap.size + 1 + 1) := ⟨_, rfl⟩
  rw [← HFb.out] at B2
  rw [← HRb.out] at B1
  rw [← HFb.out, ← HRb.out]
  have HB2 : Hid (Below w.heap.size w w2) := hb2
  clear hb2
  go_loopw [8] (fun x wr => ∃ (k : Nat) (v : Value) (vs : List Value), k ≤ raw.length ∧ k ≤ 60 ∧ x = .int .i64 k ∧ Hid (Blk wr Rb 31 [.int .i64 0, .slice none 0 0]) ∧ Hid (Blk wr Fb 31 [.int .i64 V, v]) ∧ Hid (MadeL wr base v vs ((raw.take k).map (rowBy V))) ∧ Hid (Below w.heap.size w wr)) (fun x _ => 60 - (intOf x).toNat)
  case atStart => exact ⟨0, .slice none 0 0, [], Nat.zero_le _, Nat.zero_le _, rfl, B1, B2, MadeL.start _ _, HB2⟩
  case round =>
    obtain ⟨k, v, vs, hk, hk60, rfl, HR, HF1, HM, HBe⟩ := hrel
    have hFl := HF1.out.lt
    have hRl := HR.out.lt
    have hbr : base ≤ wr.heap.size := by have h1 := HBa.out; have h2 := HFb.out; omega
    by_cases hlt : k < raw.length <;> by_cases hlt60 : k < 60
    · have hcr := hc.below HBe.out (Nat.le_refl _)
      obtain ⟨b, o, rfl, hb, hcell⟩ := hcr (by intro h; rw [h] at hlt; simp at hlt)
      obtain ⟨A, Cc, hck, hin⟩ := hcell k hlt
      have hmem := mem_lists hlt
      have hnm := hF.nums _ hmem
      have hel := hF.each _ hmem
      have HT : Hid (raw.take (k + 1) = raw.take k ++ [raw.getD k []]) := take_succ_lists raw k hlt
      generalize raw.getD k [] = r at hck hin HT hnm hel
      have HIn : Hid (IntsAt wr w.heap.size A r) := hin
      have HNm : Hid (∀ l ∈ r, -9223372036854775808 ≤ l ∧ l ≤ 9223372036854775807) := hnm
      have HCK : Hid (wr.cell? ⟨b, o + k, none⟩ = some (.slice A r.length Cc)) := hck
      have hwl : w.heap.size ≤ wr.heap.size := HBe.out.size
      have hbl : b < wr.heap.size := by omega
      clear hcell hmem hin hnm hcr hck
      obtain ⟨w3, rfl⟩ : ∃ x, x = wr := ⟨wr, rfl⟩
      have hck0 := HCK.out
      have hk60' : (k : Int) < 60 := by omega
      have hkr' : (k : Int) < (raw.length : Int) := by omega
      go_wp2
      clear hck0
      go_loopw [9, 10] (fun vc x wq => ∃ (j : Nat), j ≤ r.length ∧ j ≤ 4 ∧ x = .int .i64 j ∧ Hid (Own wq w3.heap.size 3 vc (ints ((r.take j).map fun c => litBy c V))) ∧ Hid (Below w3.heap.size w3 wq)) (fun _ x _ => 4 - (intOf x).toNat)
      case atStart => exact ⟨0, Nat.zero_le _, Nat.zero_le _, rfl, Own.nil _ _ _, Below.refl _ _⟩
      case round =>
        obtain ⟨j, hj, hj4, rfl, HO, HBq⟩ := hrel
        have hck : wr.cell? ⟨b, o + k, none⟩ = some (.slice A r.length Cc) := (HBq.out.cell (p := ⟨b, o + k, none⟩) hbl).trans HCK.out
        have hsq := HBq.out.size
        have hVc : wr.cell? ⟨Fb, 0, none⟩ = some (.int .i64 V) := (HF1.out.below' HBq.out).cell (i := 0) (by simp) undef
        by_cases hlj : j < r.length <;> by_cases hlj4 : j < 4
        · have hinq := HIn.out.below HBq.out hwl
          obtain ⟨b', o', rfl, hb', hcell'⟩ := hinq (by intro h; rw [h] at hlj; simp at hlj)
          have hcx := hcell' j hlj
          have hmem : r.getD j 0 ∈ r := by rw [getD_lt _ _ _ hlj]; exact List.getElem_mem hlj
          obtain ⟨hx0, hx1⟩ := HNm.out _ hmem
          have HRT : Hid (r.take (j + 1) = r.take j ++ [r.getD j 0]) := take_succ_getD r j hlj
          generalize r.getD j 0 = x at hcx hx0 hx1 HRT
          clear hcell' hinq hmem
          have c2 := kliteral_any x V
          have hlb := litBy_lit x hV1
          generalize hy : litBy x V = y at c2
          have HY : Hid (litBy x V = y) := hy
          clear hy hlb
          have hjl : ((r.take j).map fun c => litBy c V).length = j := by simp; omega
          have hck3 : wr.drew.cell? ⟨b, o + k, none⟩ = _ := hck
          have hcx3 : wr.drew.cell? ⟨b', o' + j, none⟩ = _ := hcx
          have hVc3 : wr.drew.cell? ⟨Fb, 0, none⟩ = _ := hVc
          have OA : Own (wr.alloc (.cells #[.int .i64 y] 3)).drew w3.heap.size 3 u9 (ints ((r.take j).map fun c => litBy c V)) := (HO.out.alloc (.cells #[.int .i64 y] 3)).chg (S := fun _ => False) (Chg.drew (Chg.refl _ _)) (fun _ _ h => h)
          have BA0 := alloc_below wr (.cells #[.int .i64 y] 3)
          have BA : Below wr.heap.size wr (wr.alloc (.cells #[.int .i64 y] 3)).drew := ⟨BA0.os, BA0.tape, BA0.output, BA0.size, BA0.block⟩
          have NA : Blk (wr.alloc (.cells #[.int .i64 y] 3)).drew wr.heap.size 3 [.int .i64 y] := (blk_new wr [.int .i64 y] 3).drew
          have SA : (wr.alloc (.cells #[.int .i64 y] 3)).drew.heap.size = wr.heap.size + 1 := alloc_size wr _
          have hbw : b' < wr.heap.size := by omega
          have hone : ∀ u ∈ [Value.int .i64 y], u.oneCell' = true := by intro u hu; simp at hu; rw [hu]; rfl
          have OA' : (wr.alloc (.cells #[.int .i64 y] 3)).drew.ownsRow w3.heap.size 3 1 u9 j (ints ((r.take j).map fun c => litBy c V)) := by
            have := OA.own
            rwa [List.length_map, hjl] at this
          have hlow : ∀ q, q < w3.heap.size → u9.ownBlock ≠ some q := fun q hq e => by have := (OA.lt e).1; omega
          have hb3 : b < w3.heap.size := hbl
          have hb'3 : b' < w3.heap.size := by omega
          have hF3 : Fb < w3.heap.size := hFl
          have hbq1 : b < wr.heap.size := by omega
          have hFq1 : Fb < wr.heap.size := by omega
          go_wp2
          go_region_held3 (fun q => q.cell? ⟨b, o + k, none⟩ = some (.slice (some ⟨b', o', none⟩) r.length Cc) ∧ q.cell? ⟨b', o' + j, none⟩ = some (.int .i64 x) ∧ q.cell? ⟨Fb, 0, none⟩ = some (.int .i64 V))
            (first | exact ⟨k1, k2, k3⟩ | exact ⟨hck3, hcx3, hVc3⟩ | exact ⟨(BA.cell (p := ⟨b, o + k, none⟩) hbq1).trans hck, (BA.cell (p := ⟨b', o' + j, none⟩) hbw).trans hcx, (BA.cell (p := ⟨Fb, 0, none⟩) hFq1).trans hVc⟩ | go_keep)
            (first
              | (go_at_call 31; refine (c2 _ hx0 hx1 hV1 hV2).mono ?_; rintro e q ⟨rfl, rfl⟩)
              | (refine step_append_lies _ (by rfl) (.tmp 39) (.tmp 50) 24 (by rfl) w3.heap.size 3 i0 (.int .i64 0) 1 8 Tryd.underlying24 hi hz0 hz1 hz2 (by rfl) (by decide) u9 j (ints ((r.take j).map fun c => litBy c V)) (by rfl) (by exact OA') ⟨wr.heap.size, 0, none⟩ 1 1 [.int .i64 y] (by rfl) (by rfl) (by exact World.news_of_block NA) hone (by decide) (by unfold maxLen; omega) (by omega) (by rw [SA]; omega) (wr.heap.size + 1) SA ?_; intro g5 cap5 w5 hO5 hgr5 hat5 hlt5; have k1 : w5.cell? ⟨b, o + k, none⟩ = some (.slice (some ⟨b', o', none⟩) r.length Cc) := (World.cell?_of_block (w := (wr.alloc (.cells #[.int .i64 y] 3)).drew) (hgr5.block b (by rw [SA]; omega) (fun e => hlow b hb3 e.symm))).trans ((BA.cell (p := ⟨b, o + k, none⟩) hbq1).trans hck); have k2 : w5.cell? ⟨b', o' + j, none⟩ = some (.int .i64 x) := (World.cell?_of_block (w := (wr.alloc (.cells #[.int .i64 y] 3)).drew) (hgr5.block b' (by rw [SA]; omega) (fun e => hlow b' hb'3 e.symm))).trans ((BA.cell (p := ⟨b', o' + j, none⟩) hbw).trans hcx); have k3 : w5.cell? ⟨Fb, 0, none⟩ = some (.int .i64 V) := (World.cell?_of_block (w := (wr.alloc (.cells #[.int .i64 y] 3)).drew) (hgr5.block Fb (by rw [SA]; omega) (fun e => hlow Fb hF3 e.symm))).trans ((BA.cell (p := ⟨Fb, 0, none⟩) hFq1).trans hVc)))
          go_wp2
          go_roundw
          case rel =>
            refine ⟨j + 1, by omega, by omega, by go_num, ?_, ?_⟩
            · have e : ints ((r.take (j + 1)).map fun c => litBy c V) = ints ((r.take j).map fun c => litBy c V) ++ [.int .i64 y] := by rw [HRT.out, ← HY.out]; simp
              rw [e]
              exact own_of hO5
            · refine HBq.out.trans ((BA.mono hsq).trans ⟨hgr5.os, hgr5.tape, hgr5.output, hgr5.size, fun q hq => hgr5.block q (by rw [SA]; omega) (fun e => hlow q hq e.symm)⟩)
          case measure => simp [intOf]; omega
        all_goals
          have HJ : Hid (r.take j = r.take 4) := by
            unfold Hid
            by_cases h4 : j = 4
            · rw [h4]
            · have : j = r.length := by omega
              rw [this, List.take_length, List.take_of_length_le (by omega)]
          have HOv := HO.out
          rw [HJ.out] at HOv
          have HO1 : Hid (Own wr w3.heap.size 3 u9 (ints (rowBy V r))) := HOv
          have hMq := HM.out.below' HBq.out
          obtain ⟨ve, vcap, hvs⟩ := hMq.oe.shape
          have hvl := HM.out.len
          rw [List.length_map, List.length_take, Nat.min_eq_left hk] at hvl
          rw [hvl] at hvs
          obtain ⟨ua, uc, hu9⟩ := HO1.out.shape
          rw [List.length_map] at hu9
          subst hu9
          subst hvs
          have cv : wr.cell? ⟨Fb, 1, none⟩ = some (.slice ve k vcap) := (HF1.out.below' HBq.out).cell (i := 1) (by simp) undef
          have OA := hMq.oe.alloc (.cells #[.slice ua (rowBy V r).length uc] 24)
          have NA : Blk (wr.alloc (.cells #[.slice ua (rowBy V r).length uc] 24)) wr.heap.size 24 [.slice ua (rowBy V r).length uc] := blk_new wr [.slice ua (rowBy V r).length uc] 24
          have hone : ∀ u ∈ [Value.slice ua (rowBy V r).length uc], u.oneCell' = true := by intro u hu; simp at hu; rw [hu]; rfl
          have hFq1 : Fb < wr.heap.size := by omega
          have hFbb : Fb < base := by have h1 := HFb.out; have h2 := HBa.out; omega
          have hRbb : Rb < base := by have h1 := HRb.out; have h2 := HBa.out; omega
          have hRF : Rb ≠ Fb := by have h1 := HRb.out; have h2 := HFb.out; omega
          have hwF : w.heap.size ≤ Fb := by have h2 := HFb.out; omega
          clear HOv hVc
          generalize hrl : (rowBy V r).length = rl at *
          have HRL : Hid ((rowBy V r).length = rl) := hrl
          clear hrl
          go_wp2_with (first | (at_builtin; refine wpList_append_new (.tmp 53) (.tmp 55) 23 24 (.slice none 0 0) 24 Tryd.underlying23 Tryd.info24 rfl base wr.heap.size (.slice ve k vcap) vs [.slice ua rl uc] 1 k hvl rfl (by decide) (by rfl) (by rfl) OA NA hone (by unfold maxLen; omega) (by omega) (by rw [alloc_size]; omega) ?_; intro g5 cap5 w5 hO5 hgr5 hat5 hlt5; obtain ⟨E1, E2, E3, E4, E5, E6⟩ := kf_end HM.out HBq.out HO1.out hO5 hgr5 HF1.out HR.out hFbb hRbb hRF hwF hbr HBe.out))
          go_roundw
          case rel =>
            refine ⟨k + 1, _, vs ++ [.slice ua rl uc], by omega, by omega, by go_num, E5, E4, ?_, E6⟩
            rw [HT.out, List.map_append]
            exact E3
          case measure => simp [intOf]; omega
    all_goals
      have HK : Hid (raw.take k = raw.take 60) := by
        unfold Hid
        by_cases h6 : k = 60
        · rw [h6]
        · have : k = raw.length := by omega
          rw [this, List.take_length, List.take_of_length_le (by omega)]
      have c0 : wr.cell? ⟨Fb, 0, none⟩ = some (.int .i64 V) := HF1.out.cell (i := 0) (by simp) undef
      have c1 : wr.cell? ⟨Fb, 1, none⟩ = some v := HF1.out.cell (i := 1) (by simp) undef
      have r0 : wr.cell? ⟨Rb, 0, none⟩ = some (.int .i64 0) := HR.out.cell (i := 0) (by simp) undef
      have r1 : wr.cell? ⟨Rb, 1, none⟩ = some (.slice none 0 0) := HR.out.cell (i := 1) (by simp) undef
      have f0 := HR.out.frozen 0
      have f1 := HR.out.frozen 1
      obtain ⟨ve, vcap, hvs⟩ := HM.out.oe.shape
      subst hvs
      have HL : Hid (rawC V raw = (raw.take k).map (rowBy V)) := by unfold Hid rawC; rw [HK.out]; rfl
      have hbase : w.heap.size ≤ base := by have h2 := HBa.out; omega
      have hRw : w.heap.size ≤ Rb := by have h2 := HRb.out; omega
      have hRbb : Rb < base := by have h1 := HRb.out; have h2 := HBa.out; omega
      have B0 := (HR.out.set 0 (.int .i64 V)).set 1 (.slice ve vs.length vcap)
      have hCs : Chg (fun k => k = Rb) wr ((wr.setCell ⟨Rb, 0, none⟩ (.int .i64 V)).setCell ⟨Rb, 1, none⟩ (.slice ve vs.length vcap)) := Chg.setB (S := fun k => k = Rb) (Chg.setB (S := fun k => k = Rb) (Chg.refl _ _) Rb 0 rfl _) Rb 1 rfl _
      have HM2 : Hid (MadeL ((wr.setCell ⟨Rb, 0, none⟩ (.int .i64 V)).setCell ⟨Rb, 1, none⟩ (.slice ve vs.length vcap)) w.heap.size (.slice ve vs.length vcap) vs (rawC V raw)) := by
        unfold Hid
        rw [HL.out]
        exact (HM.out.chg hCs (fun q h1 _ h2 => by omega)).base hbase
      have HB9 : Hid (Below w.heap.size w ((wr.setCell ⟨Rb, 0, none⟩ (.int .i64 V)).setCell ⟨Rb, 1, none⟩ (.slice ve vs.length vcap))) := HBe.out.trans (hCs.below HBe.out.size fun q e => by omega)
      have HB0 : Hid (Blk ((wr.setCell ⟨Rb, 0, none⟩ (.int .i64 V)).setCell ⟨Rb, 1, none⟩ (.slice ve vs.length vcap)) Rb 31 [.int .i64 V, .slice ve vs.length vcap]) := B0
      clear B0 hCs
      go_wp2
      exact bodyPost_ret (res1 rfl HB0.out rfl) rfl ⟨_, vs, rfl, HM2.out, HB9.out⟩
end Go.Proofs.YtlodenfdcckemaaDoor

/-
  What follows at once: it holds in each assignment that makes all true, it is closed, it grows (of no program's walk).
-/

namespace Go.Proofs.YtlodenfdcckemaaDoor
open Go.RowKit

theorem tIn_neg (b : Nat) {l : Int} (h : l ≠ 0) : tIn b (-l) = !tIn b l := by
  unfold tIn
  by_cases hp : 0 < l
  · rw [if_neg (by omega), if_pos hp, Int.neg_neg]
  · rw [if_pos (by omega), if_neg hp, Bool.not_not]

theorem makesB_mem {b : Nat} {cs : List (List Int)} (h : makesB b cs = true) {c : List Int} (hc : c ∈ cs) : ∃ m ∈ c, tIn b m = true := by
  unfold makesB at h
  exact List.any_eq_true.1 (List.all_eq_true.1 h c hc)

theorem Fol.sound {C : List (List Int)} {G : Int → Prop} {b : Nat} (hm : makesB b C = true) (hz : ∀ c ∈ C, ∀ l ∈ c, l ≠ 0) (hg : ∀ l, G l → tIn b l = true) {l : Int} (h : Fol C G l) : tIn b l = true := by
  induction h with
  | given h => exact hg _ h
  | @unit c l hc hl _ ih =>
    obtain ⟨m, hmc, ht⟩ := makesB_mem hm hc
    by_cases e : m = l
    · rw [← e]; exact ht
    · have := ih m hmc e
      rw [tIn_neg b (hz c hc m hmc), ht] at this
      cases this

theorem Fol.nz {C : List (List Int)} {G : Int → Prop} (hz : ∀ c ∈ C, ∀ l ∈ c, l ≠ 0) (hg : ∀ l, G l → l ≠ 0) {l : Int} (h : Fol C G l) : l ≠ 0 := by
  cases h with
  | given h => exact hg _ h
  | unit hc hl _ => exact hz _ hc _ hl

theorem Conf.never {C : List (List Int)} {G : Int → Prop} {b : Nat} (hm : makesB b C = true) (hz : ∀ c ∈ C, ∀ l ∈ c, l ≠ 0) (hg0 : ∀ l, G l → l ≠ 0) (hg : ∀ l, G l → tIn b l = true) : ¬ Conf C G := by
  rintro (⟨l, h1, h2⟩ | ⟨c, hc, h⟩)
  · have a := h1.sound hm hz hg
    have b' := h2.sound hm hz hg
    rw [tIn_neg b (h1.nz hz hg0), a] at b'
    cases b'
  · obtain ⟨m, hmc, ht⟩ := makesB_mem hm hc
    have := (h m hmc).sound hm hz hg
    rw [tIn_neg b (hz c hc m hmc), ht] at this
    cases this

theorem Fol.through {C : List (List Int)} {G H : Int → Prop} (h : ∀ l, H l → Fol C G l) {l : Int} (hl : Fol C H l) : Fol C G l := by
  induction hl with
  | given k => exact h _ k
  | unit hc hl _ ih => exact .unit hc hl ih

theorem Conf.through {C : List (List Int)} {G H : Int → Prop} (h : ∀ l, H l → Fol C G l) (hc : Conf C H) : Conf C G := by
  rcases hc with ⟨l, h1, h2⟩ | ⟨c, hc, hm⟩
  · exact .inl ⟨l, h1.through h, h2.through h⟩
  · exact .inr ⟨c, hc, fun m hmc => (hm m hmc).through h⟩

theorem mem_tellOf {V : Nat} {T : Int → Bool} {l : Int} : l ∈ tellOf V T ↔ IsLit V l ∧ T l = true := by
  unfold tellOf
  rw [List.mem_filter, List.mem_map]
  constructor
  · rintro ⟨⟨m, hm, rfl⟩, ht⟩
    exact ⟨atp_lit (List.mem_range.1 hm), ht⟩
  · rintro ⟨hl, ht⟩
    exact ⟨⟨pl l, List.mem_range.2 (pl_lt hl), atp_pl hl.1⟩, ht⟩

theorem litsFault_of {V : Nat} {g : List Int} (h : ∀ l ∈ g, IsLit V l) : litsFault V g = 0 := by
  apply litsFault_all
  rw [List.all_eq_true]
  intro l hl
  obtain ⟨h1, h2, h3⟩ := h l hl
  unfold lit
  simp only [Bool.and_eq_true, Bool.not_eq_true', beq_eq_false_iff_ne, decide_eq_true_eq]
  exact ⟨⟨h1, h2⟩, h3⟩

/-- Literals that are ones: no error. -/
theorem PRes.ok {V : Nat} {C : List (List Int)} {g zs : List Int} {c : Bool} {x : Int} (h : PRes V C g zs c x) (hg : ∀ l ∈ g, IsLit V l) : x = 0 := by
  have hf := litsFault_of hg
  rcases h with ⟨h1, _⟩ | ⟨_, _, _, _, h⟩ | ⟨_, _, _, h, _⟩
  · exact absurd hf h1
  · exact h
  · exact h

/-- A conflict: nothing is told, and no assignment makes all true. -/
theorem PRes.conf {V : Nat} {C : List (List Int)} {g zs : List Int} {x : Int} (h : PRes V C g zs true x) : zs = [] ∧ Conf C (fun l => l ∈ g) := by
  rcases h with ⟨_, _, h, _⟩ | ⟨_, h2, h3, _, _⟩ | ⟨_, _, h, _⟩
  · cases h
  · exact ⟨h3, h2⟩
  · cases h

/-- No conflict: what is told is what follows. -/
theorem PRes.free {V : Nat} {C : List (List Int)} {g zs : List Int} {x : Int} (h : PRes V C g zs false x) (hg : ∀ l ∈ g, IsLit V l) : ¬ Conf C (fun l => l ∈ g) ∧ (∀ l, l ∈ zs ↔ Fol C (fun l => l ∈ g) l) ∧ (∀ l ∈ zs, IsLit V l) := by
  have hf := litsFault_of hg
  rcases h with ⟨h1, _⟩ | ⟨_, _, _, h, _⟩ | ⟨_, h2, _, _, T, h5, h6, rfl⟩
  · exact absurd hf h1
  · cases h
  · refine ⟨h2, fun l => ?_, fun l hl => (mem_tellOf.1 hl).1⟩
    rw [mem_tellOf]
    exact ⟨fun ⟨a, b⟩ => (h5 l a).1 b, fun h => ⟨h6 l h, (h5 l (h6 l h)).2 h⟩⟩

/-- Asked again with what follows: the same follows. -/
theorem PRes.again {V : Nat} {C : List (List Int)} {g zs zs' : List Int} {x x' : Int} {c' : Bool} (h : PRes V C g zs false x) (hg : ∀ l ∈ g, IsLit V l) (h' : PRes V C zs zs' c' x') : zs' = zs ∧ c' = false ∧ x' = 0 := by
  obtain ⟨hn, hm, hl⟩ := h.free hg
  have hx := h'.ok hl
  have hgr : ∀ l, l ∈ zs → Fol C (fun l => l ∈ g) l := fun l h => (hm l).1 h
  have hgr' : ∀ l, l ∈ g → Fol C (fun l => l ∈ zs) l := fun l h => .given ((hm l).2 (.given h))
  have hc' : c' = false := by
    cases c' with
    | false => rfl
    | true => exact absurd (h'.conf.2.through hgr) hn
  subst hc'
  refine ⟨?_, rfl, hx⟩
  have hf := litsFault_of hg
  have hf' := litsFault_of hl
  rcases h with ⟨h1, _⟩ | ⟨_, _, _, h, _⟩ | ⟨_, h2, _, _, T, h5, h6, h7⟩
  · exact absurd hf h1
  · cases h
  rcases h' with ⟨h1, _⟩ | ⟨_, _, _, h, _⟩ | ⟨_, k2, _, _, U, k5, k6, k7⟩
  · exact absurd hf' h1
  · cases h
  rw [k7, h7]
  apply tellOf_congr
  intro l hl
  rw [Bool.eq_iff_iff, k5 l hl, h5 l hl]
  exact ⟨fun h => h.through hgr, fun h => h.through hgr'⟩

/-- With more given, more follows. -/
theorem PRes.grows {V : Nat} {C : List (List Int)} {g g' zs zs' : List Int} {x x' : Int} (h : PRes V C g zs false x) (hg : ∀ l ∈ g, IsLit V l) (hg' : ∀ l ∈ g', IsLit V l) (hs : ∀ l ∈ g, l ∈ g') (h' : PRes V C g' zs' false x') : ∀ l ∈ zs, l ∈ zs' := by
  intro l hl
  exact ((h'.free hg').2.1 l).2 ((((h.free hg).2.1 l).1 hl).through (fun m hm => .given (hs m hm)))

/-- What follows holds in each assignment that makes all true. -/
theorem PRes.holds {V : Nat} {C : List (List Int)} {g zs : List Int} {c : Bool} {x : Int} (h : PRes V C g zs c x) (hg : ∀ l ∈ g, IsLit V l) (hC : ∀ c ∈ C, ∀ l ∈ c, IsLit V l) {b : Nat} (hm : makesB b C = true) (ht : g.all (tIn b) = true) : c = false ∧ ∀ l ∈ zs, tIn b l = true := by
  have hz : ∀ c ∈ C, ∀ l ∈ c, l ≠ 0 := fun c hc l hl => (hC c hc l hl).1
  have htg : ∀ l, l ∈ g → tIn b l = true := List.all_eq_true.1 ht
  cases c with
  | true => exact absurd h.conf.2 (Conf.never hm hz (fun l hl => (hg l hl).1) htg)
  | false => exact ⟨rfl, fun l hl => (((h.free hg).2.1 l).1 hl).sound hm hz htg⟩
end Go.Proofs.YtlodenfdcckemaaDoor

/-
  Two lists of lists with the same numbers: they are found the same.
-/

namespace Go.Proofs.YtlodenfdcckemaaDoor
open Go.RowKit

set_option maxHeartbeats 2000000 in
theorem ksame_any (ao bo : Option Addr) (ca cb : Nat) (cs : List (List Int)) (w : World) (ha : ListsAt w w.heap.size ao cs) (hb : ListsAt w w.heap.size bo cs) (hl : cs.length ≤ 1000) (hc : ∀ c ∈ cs, c.length ≤ 1000) :
    Calls Tryd.prog 30 #[.slice ao cs.length ca, .slice bo cs.length cb] w fun e w' => e = .returned (.bool true) ∧ ∃ n, w' = w.drewN n := by
  have hne : ((cs.length : Int) != (cs.length : Int)) = false := by simp
  go_enter Tryd.func30, Tryd.ntmps30
  go_wp2
  go_loopw [5] (fun i wr => ∃ (k n : Nat), k ≤ cs.length ∧ i = .int .i64 k ∧ wr = w.drewN n) (fun i _ => cs.length - (intOf i).toNat)
  case atStart => exact ⟨0, 0, by omega, rfl, rfl⟩
  case round =>
    obtain ⟨k, n, hk, rfl, rfl⟩ := hrel
    by_cases hlt : k < cs.length
    · obtain ⟨b, o, rfl, hbl, hca⟩ := ha (by intro h; rw [h] at hlt; simp at hlt)
      obtain ⟨b', o', rfl, hbl', hcb⟩ := hb (by intro h; rw [h] at hlt; simp at hlt)
      obtain ⟨A1, C1, h1, i1⟩ := hca k hlt
      obtain ⟨A2, C2, h2, i2⟩ := hcb k hlt
      have hcl : (cs.getD k []).length ≤ 1000 := hc _ (mem_lists hlt)
      generalize cs.getD k [] = zs at *
      have hnz : ((zs.length : Int) != (zs.length : Int)) = false := by simp
      have H1 : Hid (w.cell? ⟨b, o + k, none⟩ = some (.slice A1 zs.length C1)) := h1
      have H2 : Hid (w.cell? ⟨b', o' + k, none⟩ = some (.slice A2 zs.length C2)) := h2
      have I1 : Hid (IntsAt w w.heap.size A1 zs) := i1
      have I2 : Hid (IntsAt w w.heap.size A2 zs) := i2
      clear hca hcb ha hb i1 i2
      go_wp2
      go_quiet (fail)
      clear h1 h2
      go_wp2
      go_loopw [6] (fun i wr => ∃ (j m : Nat), j ≤ zs.length ∧ i = .int .i64 j ∧ wr = w.drewN m) (fun i _ => zs.length - (intOf i).toNat)
      case atStart => exact ⟨0, n + nq, by omega, rfl, World.drewN_drewN ..⟩
      case round =>
        obtain ⟨j, m, hj, rfl, rfl⟩ := hrel
        have h1 := H1.out
        have h2 := H2.out
        by_cases hlj : j < zs.length
        · obtain ⟨d, p, rfl, hdl, hda⟩ := I1.out (by intro h; rw [h] at hlj; simp at hlj)
          obtain ⟨d', p', rfl, hdl', hdb⟩ := I2.out (by intro h; rw [h] at hlj; simp at hlj)
          have x1 := hda j hlj
          have x2 := hdb j hlj
          generalize zs.getD j 0 = x at *
          have hnx : (x != x) = false := by simp
          clear hda hdb
          go_wp2
          go_quiet (fail)
          go_wp2
          go_roundw
          case rel => exact ⟨j + 1, m + nq, by omega, by go_num, rfl⟩
          case measure => simp [intOf]; omega
        · go_wp2
          go_roundw
          case rel => exact ⟨k + 1, m, by omega, by go_num, rfl⟩
          case measure => simp [intOf]; omega
    · go_wp2
      go_ret
      exact ⟨rfl, n, rfl⟩
end Go.Proofs.YtlodenfdcckemaaDoor

/-
  The formula that raw numbers spell has no fault.
-/

namespace Go.Proofs.YtlodenfdcckemaaDoor
open Go.RowKit

theorem clausesFault_of (vars : Int) : ∀ (cs : List (List Int)) (i : Nat), (∀ c ∈ cs, clauseFault vars c = 0) → (clausesFault vars i cs).1 = 0
  | [], _, _ => by unfold clausesFault; rfl
  | c :: cs, i, h => by
    rw [clausesFault, if_pos (h c (by simp))]
    exact clausesFault_of vars cs (i + 1) (fun d hd => h d (by simp [hd]))

theorem fault_good {n : Nat} {cs : List (List Int)} (h : Good n cs) : (fault n cs).1 = 0 := by
  have h0 := h.vars
  have h1 := h.many
  rw [fault_rest (by omega) (by omega) (by omega)]
  apply clausesFault_of
  intro c hc
  have := h.long c hc
  rw [clauseFault_lits (by omega)]
  exact litsFault_of (fun l hl => h.lits c hc l hl)

theorem rawC_good {V : Nat} (h1 : 1 ≤ V) (h2 : V ≤ 20) (raw : List (List Int)) : Good V (rawC V raw) := by
  refine ⟨h2, ?_, fun c hc => ?_, fun c hc x hx => ?_⟩
  · unfold rawC; simp; omega
  · obtain ⟨r, _, rfl⟩ := List.mem_map.1 hc
    simp; omega
  · obtain ⟨r, _, rfl⟩ := List.mem_map.1 hc
    obtain ⟨y, _, rfl⟩ := List.mem_map.1 hx
    exact litBy_lit y h1

theorem rowBy_lits {V : Nat} (h1 : 1 ≤ V) (r : List Int) : ∀ l ∈ rowBy V r, IsLit V l := by
  intro l hl
  obtain ⟨y, _, rfl⟩ := List.mem_map.1 hl
  exact litBy_lit y h1

theorem rowBy_len (V : Int) (r : List Int) : (rowBy V r).length ≤ 4 := by unfold rowBy; simp; omega

theorem shl_small {V : Nat} (h : V ≤ 8) : wrap64 ((2 : Int) ^ V) = ((2 ^ V : Nat) : Int) ∧ (2 ^ V : Nat) ≤ 256 := by
  rcases (show V = 0 ∨ V = 1 ∨ V = 2 ∨ V = 3 ∨ V = 4 ∨ V = 5 ∨ V = 6 ∨ V = 7 ∨ V = 8 by omega) with rfl | rfl | rfl | rfl | rfl | rfl | rfl | rfl | rfl <;> exact ⟨by unfold wrap64; omega, by decide⟩

theorem PRes.lits {V : Nat} {C : List (List Int)} {g zs : List Int} {c : Bool} {x : Int} (h : PRes V C g zs c x) (hg : ∀ l ∈ g, IsLit V l) : ∀ l ∈ zs, IsLit V l := by
  cases c with
  | true => rw [h.conf.1]; intro l hl; simp at hl
  | false => exact (h.free hg).2.2
end Go.Proofs.YtlodenfdcckemaaDoor

/-
  What the statements on proofs rest on: an assignment's bits; a formula that can be true has no proof; a proof stays one with more clauses and doubled steps; without its end it has none.
-/

namespace Go.Proofs.YtlodenfdcckemaaDoor
open Go.RowKit

/-- An assignment's bits. -/
def toldOf (S : Nat) : Nat → Nat
  | 0 => 0
  | v + 1 => if S.testBit (2 * v) then toldOf S v + 2 ^ v else toldOf S v

theorem toldOf_lt (S : Nat) : ∀ v, toldOf S v < 2 ^ v
  | 0 => by simp [toldOf]
  | v + 1 => by
    have := toldOf_lt S v
    unfold toldOf
    split <;> (rw [Nat.pow_succ]; omega)

theorem toldOf_bit (S : Nat) : ∀ V v, v < V → (toldOf S V).testBit v = S.testBit (2 * v)
  | 0, v, h => by omega
  | V + 1, v, h => by
    have hlt := toldOf_lt S V
    unfold toldOf
    by_cases e : v = V
    · subst e
      split
      · rename_i h1
        rw [Nat.add_comm, Nat.testBit_two_pow_add_eq, h1, Nat.testBit_lt_two_pow hlt]; rfl
      · rename_i h1
        rw [Nat.testBit_lt_two_pow hlt]
        simpa using h1
    · have hv : v < V := by omega
      split
      · rw [Nat.add_comm, Nat.testBit_two_pow_add_gt hv]
        exact toldOf_bit S V v hv
      · exact toldOf_bit S V v hv

theorem told_makes {V S : Nat} {cs : List (List Int)} (hb : ∀ v, v < V → S.testBit (2 * v + 1) = !S.testBit (2 * v)) (hc : ∀ c ∈ cs, ∃ l ∈ c, IsLit V l ∧ S.testBit (pl l) = true) : makesB (toldOf S V) cs = true := by
  unfold makesB
  rw [List.all_eq_true]
  intro c hcc
  obtain ⟨l, hl, hlit, hbit⟩ := hc c hcc
  rw [List.any_eq_true]
  refine ⟨l, hl, ?_⟩
  obtain ⟨h0, h1, h2⟩ := hlit
  unfold tIn
  unfold pl at hbit
  by_cases hn : l < 0
  · rw [if_pos hn] at hbit
    rw [if_neg (by omega), toldOf_bit S V _ (by omega)]
    have hx := hb (-l - 1).toNat (by omega)
    have e : 2 * (-l - 1).toNat + 1 = (2 * (-l - 1) + 1).toNat := by omega
    first
      | (rw [e] at hx; rw [hbit] at hx; rw [← hx])
      | (rw [hbit] at hx; rw [← hx])
      | (simp_all)
  · rw [if_neg hn] at hbit
    rw [if_pos (by omega), toldOf_bit S V _ (by omega)]
    have e : 2 * (l - 1).toNat = (2 * (l - 1)).toNat := by omega
    first
      | (rw [e]; exact hbit)
      | exact hbit
      | simp_all

theorem i64_or (n j : Nat) (hn : n < 2 ^ j) (hj : j < 40) : bits .or .i64 (n : Int) ((2 ^ j : Nat) : Int) = ((n + 2 ^ j : Nat) : Int) := by
  have hp : (2 : Nat) ^ j ≤ 2 ^ 39 := Nat.pow_le_pow_right (by decide) (by omega)
  have e39 : (2 : Nat) ^ 39 = 549755813888 := by decide
  have key : (BitVec.ofInt 64 (n : Int) ||| BitVec.ofInt 64 ((2 ^ j : Nat) : Int)).toNat = n + 2 ^ j := by
    rw [BitVec.toNat_or, BitVec.toNat_ofInt, BitVec.toNat_ofInt]
    have h1 : ((n : Int) % ((2 ^ 64 : Nat) : Int)).toNat = n := by omega
    have h2 : (((2 ^ j : Nat) : Int) % ((2 ^ 64 : Nat) : Int)).toNat = 2 ^ j := by
      generalize (2 : Nat) ^ j = q at *
      omega
    rw [h1, h2]
    have := Nat.two_pow_add_eq_or_of_lt hn 1
    rw [Nat.mul_one] at this
    rw [Nat.or_comm, ← this, Nat.add_comm]
  show IntKind.i64.wrap ((BitVec.ofInt 64 (n : Int) ||| BitVec.ofInt 64 ((2 ^ j : Nat) : Int)).toNat : Nat) = _
  rw [key, IntKind.wrap_i64]
  generalize (2 : Nat) ^ j = q at *
  omega

theorem Fol.mono {C C' : List (List Int)} {G : Int → Prop} (h : ∀ c ∈ C, c ∈ C') {l : Int} (hl : Fol C G l) : Fol C' G l := by
  induction hl with
  | given hg => exact .given hg
  | unit hc hm _ ih => exact .unit (h _ hc) hm ih

theorem Conf.mono {C C' : List (List Int)} {G : Int → Prop} (h : ∀ c ∈ C, c ∈ C') (hc : Conf C G) : Conf C' G := by
  rcases hc with ⟨l, h1, h2⟩ | ⟨c, hcc, h1⟩
  · exact Or.inl ⟨l, h1.mono h, h2.mono h⟩
  · exact Or.inr ⟨c, h c hcc, fun m hm => (h1 m hm).mono h⟩

/-- A formula that can be true has no proof. -/
theorem check_none {V b : Nat} : ∀ (p : List (List Int)) (C : List (List Int)) (i : Nat), makesB b C = true → (∀ c ∈ C, ∀ l ∈ c, l ≠ 0) → (∀ s ∈ p, clauseFault V s = 0 ∧ ∀ l ∈ s, l ≠ 0) → (checkOf V C i (p ++ [[]])).2 = 7
  | [], C, i, hm, hz, _ => by
    have hn : ¬ Conf C (fun l => l ∈ ([] : List Int).map fun l => -l) := Conf.never hm hz (fun l h => by simp at h) (fun l h => by simp at h)
    have h0 : clauseFault V ([] : List Int) = 0 := fault_of_lits (by simp) (fun l h => by cases h)
    rw [List.nil_append, checkOf, if_neg (by rw [h0]; exact fun h => h rfl), if_neg hn]
  | s :: r, C, i, hm, hz, hs => by
    obtain ⟨h0, hl⟩ := hs s (List.mem_cons_self ..)
    rw [List.cons_append, checkOf, if_neg (by rw [h0]; exact fun h => h rfl)]
    by_cases hcf : Conf C (fun l => l ∈ s.map fun l => -l)
    · rw [if_pos hcf]
      have hex : s.any (tIn b) = true := by
        cases h : s.any (tIn b) with
        | true => rfl
        | false =>
          exfalso
          refine Conf.never hm hz (fun l hl' => ?_) (fun l hl' => ?_) hcf
          · obtain ⟨m, hm', rfl⟩ := List.mem_map.1 hl'
            have := hl m hm'
            omega
          · obtain ⟨m, hm', rfl⟩ := List.mem_map.1 hl'
            have h1 := List.any_eq_false.1 h m hm'
            rw [tIn_neg b (hl m hm')]
            simpa using h1
      rw [if_neg (by intro e; rw [List.length_eq_zero_iff.1 e] at hex; simp at hex)]
      refine check_none (b := b) r _ _ ?_ (fun c hc => ?_) (fun t ht => hs t (List.mem_cons_of_mem _ ht))
      · unfold makesB at hm ⊢
        rw [List.all_append, hm]
        simp [hex]
      · rcases List.mem_append.1 hc with h | h
        · exact hz c h
        · rw [List.mem_singleton] at h; subst h; exact hl
    · rw [if_neg hcf]

theorem check_more {V : Nat} : ∀ (p : List (List Int)) (C C' : List (List Int)) (i : Nat), (∀ c ∈ C, c ∈ C') → (checkOf V C i p).2 = 0 → checkOf V C' i p = checkOf V C i p
  | [], C, C', i, _, h => by simp [checkOf] at h
  | s :: r, C, C', i, hs, h => by
    rw [checkOf] at h ⊢
    rw [checkOf]
    by_cases h0 : clauseFault V s ≠ 0
    · rw [if_pos h0] at h; exact absurd h h0
    · rw [if_neg h0] at h ⊢
      rw [if_neg h0]
      by_cases hc : Conf C (fun l => l ∈ s.map fun l => -l)
      · rw [if_pos hc] at h ⊢
        rw [if_pos (hc.mono hs)]
        by_cases hl : s.length = 0
        · rw [if_pos hl, if_pos hl]
        · rw [if_neg hl] at h ⊢
          rw [if_neg hl]
          exact check_more r _ _ _ (fun c hc' => by rcases List.mem_append.1 hc' with e | e; exact List.mem_append_left _ (hs c e); exact List.mem_append_right _ e) h
      · rw [if_neg hc] at h; cases h

theorem check_cut {V : Nat} : ∀ (p : List (List Int)) (C : List (List Int)) (i : Nat), checkOf V C i (p ++ [[]]) = (((i + p.length + 1 : Nat) : Int), 0) → checkOf V C i p = (((i + p.length : Nat) : Int), 8)
  | [], C, i, _ => by rw [checkOf]; rfl
  | s :: r, C, i, h => by
    rw [List.cons_append, checkOf] at h
    rw [checkOf]
    by_cases h0 : clauseFault V s ≠ 0
    · rw [if_pos h0] at h; exact absurd (congrArg Prod.snd h) h0
    · rw [if_neg h0] at h ⊢
      by_cases hc : Conf C (fun l => l ∈ s.map fun l => -l)
      · rw [if_pos hc] at h ⊢
        by_cases hl : s.length = 0
        · rw [if_pos hl] at h
          have := congrArg Prod.fst h
          simp only [List.length_cons] at this
          omega
        · rw [if_neg hl] at h ⊢
          have e : i + (s :: r).length = i + 1 + r.length := by simp only [List.length_cons]; omega
          rw [e] at h ⊢
          exact check_cut r _ _ h
      · rw [if_neg hc] at h; have := congrArg Prod.snd h; simp at this

/-- Each step twice. -/
def dbl (p : List (List Int)) : List (List Int) := p.flatMap fun s => [s, s]

theorem dbl_len (p : List (List Int)) : (dbl p).length = 2 * p.length := by
  induction p with
  | nil => rfl
  | cons s r ih => simp only [dbl, List.flatMap_cons, List.length_append, List.length_cons, List.length_nil] at ih ⊢; omega

theorem check_dbl {V : Nat} : ∀ (p : List (List Int)) (C C' : List (List Int)) (i j : Nat), (∀ c ∈ C, c ∈ C') → checkOf V C i (p ++ [[]]) = (((i + p.length + 1 : Nat) : Int), 0) → checkOf V C' j (dbl (p ++ [[]])) = (((j + 2 * p.length + 1 : Nat) : Int), 0)
  | [], C, C', i, j, hs, h => by
    rw [List.nil_append, checkOf] at h
    have h0 : clauseFault V ([] : List Int) = 0 := fault_of_lits (by simp) (fun l h => by cases h)
    rw [if_neg (by rw [h0]; exact fun h => h rfl)] at h
    by_cases hc : Conf C (fun l => l ∈ ([] : List Int).map fun l => -l)
    · show checkOf V C' j ([] :: [[]]) = _
      rw [checkOf, if_neg (by rw [h0]; exact fun h => h rfl), if_pos (hc.mono hs), if_pos (by simp)]
      rfl
    · rw [if_neg hc] at h; have := congrArg Prod.snd h; simp at this
  | s :: r, C, C', i, j, hs, h => by
    rw [List.cons_append, checkOf] at h
    by_cases h0 : clauseFault V s ≠ 0
    · rw [if_pos h0] at h; exact absurd (congrArg Prod.snd h) h0
    · rw [if_neg h0] at h
      by_cases hc : Conf C (fun l => l ∈ s.map fun l => -l)
      · rw [if_pos hc] at h
        by_cases hl : s.length = 0
        · rw [if_pos hl] at h
          have := congrArg Prod.fst h
          simp only [List.length_cons] at this
          omega
        · rw [if_neg hl] at h
          have e : i + (s :: r).length = i + 1 + r.length := by simp only [List.length_cons]; omega
          rw [e] at h
          show checkOf V C' j (s :: s :: dbl (r ++ [[]])) = _
          rw [checkOf, if_neg h0, if_pos (hc.mono hs), if_neg hl]
          have hc2 : Conf (C' ++ [s]) (fun l => l ∈ s.map fun l => -l) := Or.inr ⟨s, List.mem_append_right _ (List.mem_singleton.2 rfl), fun m hm => .given (List.mem_map.2 ⟨m, hm, rfl⟩)⟩
          rw [checkOf, if_neg h0, if_pos hc2, if_neg hl]
          have := check_dbl r (C ++ [s]) (C' ++ [s] ++ [s]) (i + 1) (j + 1 + 1) (fun c hc' => by rcases List.mem_append.1 hc' with e | e; exact List.mem_append_left _ (List.mem_append_left _ (hs c e)); exact List.mem_append_right _ e) h
          rw [this]
          simp only [List.length_cons]
          congr 2
          omega
      · rw [if_neg hc] at h; have := congrArg Prod.snd h; simp at this

/-- What a proof that ends is worth. -/
theorem endOk_last {V : Nat} {cs : List (List Int)} {F : List Nat} (h : EndOk V cs (.unsat F)) : ∃ p, F.map (litsOf 64) = p ++ [[]] := by
  obtain ⟨F0, rfl, -⟩ := h
  refine ⟨F0.map (litsOf 64), ?_⟩
  have hz : litsOf 64 0 = [] := by simp [litsOf]
  rw [List.map_append, List.map_singleton, hz]
end Go.Proofs.YtlodenfdcckemaaDoor

/-
  The picks in memory; the walks of push, pop and down.
-/

namespace Go.Proofs.YtlodenfdcckemaaDoor
open Go.RowKit

theorem Tryd.info140 : (Tryd.prog.info? 140).map (fun i => (i.zero, i.size, i.bytes)) = some (some (.agg #[.int .u64 0, .int .u64 0, .int .i64 0]), 3, 24) := by kernel_rfl

/-- A pick's cells. -/
def pkc (p : Pk) : List Value := [sv p.lit, sv p.cl, .int .i64 p.lev]
/-- A pick as a value. -/
def pkv (p : Pk) : Value := .agg #[sv p.lit, sv p.cl, .int .i64 p.lev]
def flat3 (l : List Pk) : List Value := l.flatMap pkc

theorem flat3_cons (a : Pk) (l : List Pk) : flat3 (a :: l) = sv a.lit :: sv a.cl :: .int .i64 a.lev :: flat3 l := rfl
theorem flat3_append (l m : List Pk) : flat3 (l ++ m) = flat3 l ++ flat3 m := by simp [flat3]
theorem flat3_length (l : List Pk) : (flat3 l).length = l.length * 3 := by
  induction l with
  | nil => rfl
  | cons a l ih => rw [flat3_cons]; simp [ih]; omega

def pk0 : Pk := ⟨0, 0, 0⟩

theorem flat3_at : ∀ (l : List Pk) (rest : List Value) (i : Nat), i < l.length →
    (flat3 l ++ rest).getD (i * 3) undef = sv (l.getD i pk0).lit ∧ (flat3 l ++ rest).getD (i * 3 + 1) undef = sv (l.getD i pk0).cl ∧ (flat3 l ++ rest).getD (i * 3 + 2) undef = .int .i64 (l.getD i pk0).lev
  | a :: l, rest, 0, _ => ⟨rfl, rfl, rfl⟩
  | a :: l, rest, i + 1, h => by
    rw [flat3_cons, show (i + 1) * 3 = i * 3 + 1 + 1 + 1 by omega]
    exact flat3_at l rest i (by simpa using h)
  | [], _, _, h => by simp at h

/-- The value v is the slice of the picks, the oldest first. -/
def Row3 (w : World) (v : Value) (P : List Pk) : Prop :=
  (v = .slice none 0 0 ∧ P = []) ∨ ∃ g cap, v = .slice (some ⟨g, 0, none⟩) P.length cap ∧ cap ≤ maxLen ∧ P.length ≤ cap ∧ ∃ rest, Blk w g 140 (flat3 P.reverse ++ rest) ∧ (flat3 P.reverse ++ rest).length = cap * 3

namespace Row3
variable {w w' : World} {v : Value} {P : List Pk}

theorem shape (h : Row3 w v P) : ∃ ao cap, v = .slice ao P.length cap := by
  rcases h with ⟨rfl, rfl⟩ | ⟨g, cap, rfl, _⟩
  · exact ⟨none, 0, rfl⟩
  · exact ⟨_, _, rfl⟩
theorem own (h : Row3 w v P) : w.ownsRow 0 140 3 v P.length (flat3 P.reverse) := by
  refine ⟨by rw [flat3_length]; simp, ?_⟩
  rcases h with ⟨h1, h2⟩ | ⟨g, cap, h1, h63, hle, rest, hr, hl⟩
  · exact Or.inl ⟨h1, by rw [h2]; rfl⟩
  · refine Or.inr ⟨g, cap, _, h1, Nat.zero_le _, hr, hle, h63, by simpa using hl, ?_⟩
    have : (flat3 P.reverse).length = P.length * 3 := by rw [flat3_length]; simp
    rw [← this]
    simp
theorem lt (h : Row3 w v P) {k : Nat} (e : v.ownBlock = some k) : k < w.heap.size := by
  rcases h with ⟨rfl, _⟩ | ⟨g, cap, rfl, _, _, rest, hr, _⟩
  · simp [Value.ownBlock] at e
  · simp [Value.ownBlock] at e; subst e; exact hr.lt
theorem of_block (h : Row3 w v P) (hb : ∀ k, v.ownBlock = some k → w'.heap[k]? = w.heap[k]?) : Row3 w' v P := by
  rcases h with h | ⟨g, cap, rfl, h1, h2, rest, hr, hl⟩
  · exact Or.inl h
  · exact Or.inr ⟨g, cap, rfl, h1, h2, rest, hr.of_block (hb g rfl), hl⟩
theorem below' (h : Row3 w v P) (hb : Below w.heap.size w w') : Row3 w' v P := h.of_block fun _ e => hb.block _ (h.lt e)
theorem below {B : Nat} (h : Row3 w v P) (hb : Below B w w') (hB : ∀ k, v.ownBlock = some k → k < B) : Row3 w' v P := h.of_block fun k e => hb.block k (hB k e)
theorem chg {S : Nat → Prop} (h : Row3 w v P) (hc : Chg S w w') (hn : ∀ k, v.ownBlock = some k → ¬ S k) : Row3 w' v P := h.of_block fun k e => hc.block k (h.lt e) (hn k e)
theorem ne_blk {B : Nat} {t : TypeId} {L : List Value} (h : Row3 w v P) (hB : Blk w B t L) (ht : t ≠ 140) : v.ownBlock ≠ some B := by
  intro e
  rcases h with ⟨rfl, _⟩ | ⟨g, cap, rfl, _, _, rest, hr, _⟩
  · simp [Value.ownBlock] at e
  · simp [Value.ownBlock] at e
    subst e
    unfold Blk at hr hB
    rw [hr] at hB
    simp at hB
    exact ht hB.2.symm
theorem cellsB (h : Row3 w v P) {k : Nat} (e : v.ownBlock = some k) (o : Obj) (ho : w.heap[k]? = some o) : o.isCells = true := by
  rcases h with ⟨rfl, _⟩ | ⟨g, cap, rfl, _, _, rest, hr, _⟩
  · simp [Value.ownBlock] at e
  · simp [Value.ownBlock] at e
    subst e
    unfold Blk at hr
    rw [hr] at ho
    cases ho
    rfl
end Row3

theorem row3_of {w : World} {g cap n : Nat} {P : List Pk} (hn : P.length = n) (h : w.ownsRow 0 140 3 (.slice (some ⟨g, 0, none⟩) n cap) n (flat3 P.reverse)) : Row3 w (.slice (some ⟨g, 0, none⟩) n cap) P := by
  obtain ⟨_, h | ⟨g', cap', cur, he, hb, hg, hle, h63, hcs, htk⟩⟩ := h
  · obtain ⟨h, _⟩ := h; simp at h
  · simp only [Value.slice.injEq, Option.some.injEq, Addr.mk.injEq, and_true, true_and] at he
    obtain ⟨rfl, rfl⟩ := he
    refine Or.inr ⟨g, cap, by rw [hn], h63, by omega, cur.toList.drop (n * 3), ?_, ?_⟩
    · rw [← htk, List.take_append_drop]; exact hg
    · rw [← htk, List.take_append_drop]; simpa using hcs

theorem spush_end {w W w1 : World} {O : Obj} {X g cap : Nat} {a0 a1 v a3 a4 : Value} {P : List Pk} {p : Pk} (hsz : W.heap.size = w.heap.size + 1) (hbW : Below w.heap.size w W) (hXW : Blk W X 115 [a0, a1, v, a3, a4]) (hX : X < w.heap.size) (hR : Row3 w v P)
    (hown1 : w1.ownsRow 0 140 3 (.slice (some ⟨g, 0, none⟩) (P.length + 1) cap) (P.length + 1) (flat3 P.reverse ++ pkc p)) (hgrow : (W.alloc O).drew.grownBy w1 v.ownBlock) (hat : v.ownBlock = some g ∨ g = W.heap.size + 1) (hneX : v.ownBlock ≠ some X) :
    ∃ v', Row3 (w1.setCell ⟨X, 2, none⟩ (.slice (some ⟨g, 0, none⟩) (P.length + 1) cap)) v' (p :: P) ∧ Blk (w1.setCell ⟨X, 2, none⟩ (.slice (some ⟨g, 0, none⟩) (P.length + 1) cap)) X 115 [a0, a1, v', a3, a4] ∧ Chg (fun b => b = X ∨ v.ownBlock = some b) w (w1.setCell ⟨X, 2, none⟩ (.slice (some ⟨g, 0, none⟩) (P.length + 1) cap)) ∧ (∀ b, v'.ownBlock = some b → v.ownBlock = some b ∨ w.heap.size ≤ b) := by
  have hB1 : Blk w1 X 115 [a0, a1, v, a3, a4] := Blk.grown (hXW.alloc _).drew hgrow hneX
  have hgX : g ≠ X := by
    intro e
    rcases hat with h | h
    · exact hneX (by rw [h, e])
    · have := hXW.lt; omega
  have hrow : Row3 w1 (.slice (some ⟨g, 0, none⟩) (P.length + 1) cap) (p :: P) := by
    refine row3_of (by simp) ?_
    have e : flat3 (p :: P).reverse = flat3 P.reverse ++ pkc p := by rw [List.reverse_cons, flat3_append]; simp [flat3]
    rw [e]
    exact hown1
  have hfr : ∀ k, k < w.heap.size → v.ownBlock ≠ some k → w1.heap[k]? = w.heap[k]? := fun k hk hkv => by
    rw [hgrow.block k (by simp [World.drew]; omega) (fun e => hkv e.symm)]
    rw [show ((W.alloc O).drew).heap[k]? = (W.alloc O).heap[k]? from rfl, Below.heap_alloc _ _ _ (by omega), hbW.block k hk]
  have hc1 : Chg (fun b => b = X ∨ v.ownBlock = some b) w w1 := by
    refine ⟨hgrow.os.trans hbW.os, hgrow.tape.trans hbW.tape, hgrow.output.trans hbW.output, ?_, fun k hk hn => hfr k hk (fun e => hn (Or.inr e)), fun k o ho hno => ?_⟩
    · have h1 := hgrow.size
      have h2 : W.heap.size ≤ (W.alloc O).drew.heap.size := by simp [World.drew]
      have h3 := hbW.size
      omega
    · have hk := (Array.getElem?_eq_some_iff.1 ho).1
      refine (hfr k hk (fun e => ?_)).trans ho
      have := hR.cellsB e o ho
      rw [hno] at this; cases this
  refine ⟨.slice (some ⟨g, 0, none⟩) (P.length + 1) cap, hrow.of_block (fun k e => ?_), hB1.set 2 _, hc1.setB X 2 (Or.inl rfl) _, fun b e => ?_⟩
  · simp [Value.ownBlock] at e
    subst e
    exact Below.heap_setCell _ _ _ _ hgX
  · simp [Value.ownBlock] at e
    subst e
    rcases hat with h | h
    · exact Or.inl h
    · right; omega

set_option maxHeartbeats 1000000 in
theorem spush_any (X : Nat) (a0 a1 v a3 a4 : Value) (P : List Pk) (p : Pk) (w : World) (hB : Blk w X 115 [a0, a1, v, a3, a4]) (hR : Row3 w v P) (hn : P.length < 64) :
    Calls Tryd.prog 115 #[.pointer (some ⟨X, 2, none⟩), pkv p] w fun e w' => e = .returned (.tuple #[]) ∧
      ∃ v', Row3 w' v' (p :: P) ∧ Blk w' X 115 [a0, a1, v', a3, a4] ∧ Chg (fun b => b = X ∨ v.ownBlock = some b) w w' ∧ (∀ b, v'.ownBlock = some b → v.ownBlock = some b ∨ w.heap.size ≤ b) := by
  have hown := hR.own
  have hXl := hB.lt
  have hit : w.cell? ⟨X, 2, none⟩ = some v := hB.cell (i := 2) (by simp) undef
  obtain ⟨ao, cap0, hv⟩ := hR.shape
  obtain ⟨i0, hi, hz0, hz1, hz2⟩ := info_parts Tryd.info140
  have hone : ∀ u ∈ pkc p, u.oneCell' = true := by intro u hu; simp [pkc] at hu; rcases hu with rfl | rfl | rfl <;> rfl
  unfold pkv
  go_enter Tryd.func115, Tryd.ntmps115
  go_wp2
  generalize hW : w.alloc (Obj.cells #[sv p.lit, sv p.cl, .int .i64 p.lev] 140) = W
  have hsz : W.heap.size = w.heap.size + 1 := by rw [← hW]; simp
  have c0 : W.cell? ⟨w.heap.size, 0, none⟩ = some (sv p.lit) := by rw [← hW]; simp
  have c1 : W.cell? ⟨w.heap.size, 1, none⟩ = some (sv p.cl) := by rw [← hW]; simp
  have c2 : W.cell? ⟨w.heap.size, 2, none⟩ = some (.int .i64 p.lev) := by rw [← hW]; simp
  have hbW : Below w.heap.size w W := by rw [← hW]; exact (Below.refl _ _).alloc (Nat.le_refl _) _
  have hownW : W.ownsRow 0 140 3 v P.length (flat3 P.reverse) := by rw [← hW]; exact hown.alloc _
  have hitW : W.cell? ⟨X, 2, none⟩ = some v := (hbW.cell (p := ⟨X, 2, none⟩) hXl).trans hit
  have hXW := hB.below' hbW
  clear hW hown hit
  have hXW' : X < W.heap.size := hXW.lt
  have hNW : w.heap.size < W.heap.size := by omega
  have HV : Hid (v = .slice ao P.length cap0) := hv
  have HSZ : Hid (W.heap.size = w.heap.size + 1) := hsz
  clear hv hsz
  have hn2 : P.length + 1 ≤ 64 := hn
  have hneX : v.ownBlock ≠ some X := hR.ne_blk hB (by decide)
  have hfrX : W.frozen? ⟨X, 2, none⟩ = false := hXW.frozen 2
  go_region_law ((refine step_append_lies _ (by rfl) (.tmp 8) (.tmp 10) 111 (by rfl) 0 140 i0 (.agg #[.int .u64 0, .int .u64 0, .int .i64 0]) 3 24 Tryd.underlying111 hi hz0 hz1 hz2 (by rfl) (by decide) v P.length (flat3 P.reverse) (by rfl) (by exact hownW.alloc _) ⟨W.heap.size, 0, none⟩ 1 1 (pkc p) (by rfl) (by rfl) (by exact World.news_of_block (heap_alloc_new W _)) hone (by decide) (by unfold maxLen; omega) (by omega) (by simp) (W.heap.size + 1) (by simp) ?_; intro g cap w1 hown1 hgrow hat hlt; have B1 := Blk.grown (hXW.alloc _).drew hgrow hneX; have d1 : w1.cell? ⟨X, 2, none⟩ = some v := B1.cell (i := 2) (by simp) undef; have d2 : w1.frozen? ⟨X, 2, none⟩ = false := B1.frozen 2))
  all_goals
    have hr := spush_end HSZ.out hbW hXW hXl hR hown1 hgrow hat hneX
    have HR : Hid _ := hr
    clear hr
    go_end0
    exact ⟨rfl, HR.out⟩
end Go.Proofs.YtlodenfdcckemaaDoor

/-
  What comes out of a heap is in order: plain mathematics.
-/

namespace Go.Proofs.YtlodenfdcckemaaDoor

/-- The item at a place. -/
def at0 (l : List Itm) (i : Nat) : Itm := l.getD i (0, 0)

theorem ahead_asymm {a b : Itm} (h : aheadOf a b = true) : aheadOf b a = false := by
  simp only [aheadOf, Bool.or_eq_true, Bool.and_eq_true, decide_eq_true_eq, beq_iff_eq] at h
  simp only [aheadOf, Bool.or_eq_false_iff, Bool.and_eq_false_iff, decide_eq_false_iff_not, beq_eq_false_iff_ne, ne_eq]
  omega
theorem ahead_trans {a b c : Itm} (h : aheadOf a b = true) (k : aheadOf b c = true) : aheadOf a c = true := by
  simp only [aheadOf, Bool.or_eq_true, Bool.and_eq_true, decide_eq_true_eq, beq_iff_eq] at *
  omega
theorem not_trans {a b c : Itm} (h : aheadOf a b = false) (k : aheadOf b c = false) : aheadOf a c = false := by
  simp only [aheadOf, Bool.or_eq_false_iff, Bool.and_eq_false_iff, decide_eq_false_iff_not, beq_eq_false_iff_ne, ne_eq] at *
  omega
theorem ahead_irrefl (a : Itm) : aheadOf a a = false := by simp [aheadOf]
theorem ahead_antisymm {a b : Itm} (h : aheadOf a b = false) (k : aheadOf b a = false) : a = b := by
  obtain ⟨x, p⟩ := a
  obtain ⟨y, q⟩ := b
  simp only [aheadOf, Bool.or_eq_false_iff, Bool.and_eq_false_iff, decide_eq_false_iff_not, beq_eq_false_iff_ne, ne_eq] at *
  simp only [Prod.mk.injEq]
  omega

theorem at0_swap {l : List Itm} {a b : Nat} (ha : a < l.length) (hb : b < l.length) (hab : a ≠ b) (i : Nat) : at0 (swapL l a b) i = if i = a then at0 l b else if i = b then at0 l a else at0 l i := by
  unfold at0 swapL
  simp only [List.getD_eq_getElem?_getD, List.getElem?_set]
  by_cases h1 : i = a
  · subst h1
    simp [Ne.symm hab, ha]
  · by_cases h2 : i = b
    · subst h2
      simp [h1, hb]
    · simp [h1, h2, Ne.symm h1, Ne.symm h2]

theorem swap_perm {l : List Itm} {a b : Nat} (ha : a < l.length) (hb : b < l.length) : (swapL l a b).Perm l := by
  unfold swapL
  rw [getD_lt _ _ _ hb, getD_lt _ _ _ ha]
  exact List.set_set_perm ha hb

/-- No item is ahead of the one above it. -/
def IsHeap (l : List Itm) : Prop := ∀ i, 0 < i → i < l.length → aheadOf (at0 l i) (at0 l ((i - 1) / 2)) = false

structure Rising (l : List Itm) (k : Nat) : Prop where
  rest : ∀ i, 0 < i → i < l.length → i ≠ k → aheadOf (at0 l i) (at0 l ((i - 1) / 2)) = false
  kids : ∀ c, 0 < c → c < l.length → (c - 1) / 2 = k → 0 < k → aheadOf (at0 l c) (at0 l ((k - 1) / 2)) = false

theorem rise_heap : ∀ (f : Nat) (l : List Itm) (k : Nat), k < f → k < l.length → Rising l k → IsHeap (riseL f l k) ∧ (riseL f l k).Perm l
  | 0, l, k, h, _, _ => by omega
  | f + 1, l, k, hf, hk, hR => by
    unfold riseL
    by_cases h0 : k = 0
    · rw [if_pos h0]
      exact ⟨fun i hi hl => hR.rest i hi hl (by omega), List.Perm.refl _⟩
    · rw [if_neg h0]
      have hp : (k - 1) / 2 < k := by omega
      generalize hpp : (k - 1) / 2 = p at *
      by_cases ha : aheadOf (l.getD k (0, 0)) (l.getD p (0, 0)) = true
      · rw [if_pos ha]
        change aheadOf (at0 l k) (at0 l p) = true at ha
        have hpl : p < l.length := by omega
        have hne : k ≠ p := by omega
        have hsw := at0_swap hk hpl hne
        have hnew : Rising (swapL l k p) p := by
          constructor
          · intro i hi hl hip
            rw [swapL_length] at hl
            rw [hsw i, hsw ((i - 1) / 2)]
            by_cases hik : i = k
            · subst hik
              rw [if_pos rfl, hpp, if_neg (by omega), if_pos rfl]
              exact ahead_asymm ha
            · rw [if_neg hik, if_neg hip]
              by_cases h1 : (i - 1) / 2 = k
              · rw [if_pos h1]
                have := hR.kids i hi hl h1 (by omega)
                rwa [hpp] at this
              · rw [if_neg h1]
                by_cases h2 : (i - 1) / 2 = p
                · rw [if_pos h2]
                  have hx := hR.rest i hi hl hik
                  rw [h2] at hx
                  cases hy : aheadOf (at0 l i) (at0 l k)
                  · rfl
                  · rw [ahead_trans hy ha] at hx; cases hx
                · rw [if_neg h2]
                  exact hR.rest i hi hl hik
          · intro c hc hl hcp hp0
            rw [swapL_length] at hl
            rw [hsw c, hsw ((p - 1) / 2), if_neg (show (p - 1) / 2 ≠ k by omega), if_neg (show (p - 1) / 2 ≠ p by omega)]
            have hpr := hR.rest p hp0 hpl (Ne.symm hne)
            by_cases hck : c = k
            · rw [if_pos hck]; exact hpr
            · rw [if_neg hck, if_neg (show c ≠ p by omega)]
              have hx := hR.rest c hc hl hck
              rw [hcp] at hx
              exact not_trans hx hpr
        obtain ⟨h1, h2⟩ := rise_heap f (swapL l k p) p (by omega) (by rw [swapL_length]; exact hpl) hnew
        exact ⟨h1, h2.trans (swap_perm hk hpl)⟩
      · rw [if_neg ha]
        refine ⟨fun i hi hl => ?_, List.Perm.refl _⟩
        by_cases hik : i = k
        · subst hik
          rw [hpp]
          simpa [at0] using ha
        · exact hR.rest i hi hl hik

structure Sinking (l : List Itm) (k : Nat) : Prop where
  rest : ∀ i, 0 < i → i < l.length → (i - 1) / 2 ≠ k → aheadOf (at0 l i) (at0 l ((i - 1) / 2)) = false
  kids : ∀ c, 0 < c → c < l.length → (c - 1) / 2 = k → 0 < k → aheadOf (at0 l c) (at0 l ((k - 1) / 2)) = false

/-- The place that goes up: not behind any of the three. -/
theorem fore_best (l : List Itm) (k : Nat) (hk : k < l.length) : ∀ c, c < l.length → (c = k ∨ c = 2 * k + 1 ∨ c = 2 * k + 2) → aheadOf (at0 l c) (at0 l (foreL l k (foreL l (2 * k + 1) (2 * k + 2)))) = false := by
  intro c hc h
  have key : ∀ a b, (b < l.length → a < l.length) → (∀ c, c < l.length → (c = a ∨ c = b) → aheadOf (at0 l c) (at0 l (foreL l a b)) = false ∨ l.length ≤ foreL l a b) := by
    intro a b hab c hc hcc
    unfold foreL
    by_cases hb : b < l.length ∧ aheadOf (l.getD b (0, 0)) (l.getD a (0, 0)) = true
    · rw [if_pos hb]
      left
      rcases hcc with rfl | rfl
      · exact ahead_asymm hb.2
      · exact ahead_irrefl _
    · rw [if_neg hb]
      rcases hcc with rfl | rfl
      · left; exact ahead_irrefl _
      · left
        have : ¬ aheadOf (l.getD c (0, 0)) (l.getD a (0, 0)) = true := fun e => hb ⟨hc, e⟩
        simpa [at0] using this
  have h1 := key (2 * k + 1) (2 * k + 2) (by omega)
  have hm : foreL l (2 * k + 1) (2 * k + 2) = 2 * k + 1 ∨ (foreL l (2 * k + 1) (2 * k + 2) = 2 * k + 2 ∧ 2 * k + 2 < l.length) := by
    unfold foreL
    split
    · rename_i h; exact Or.inr ⟨rfl, h.1⟩
    · exact Or.inl rfl
  generalize foreL l (2 * k + 1) (2 * k + 2) = m at *
  have h2 := key k m (by omega)
  have hn : foreL l k m < l.length := by unfold foreL; split <;> omega
  rcases h with rfl | h
  · rcases h2 c hc (Or.inl rfl) with h | h
    · exact h
    · omega
  · have hml : m < l.length ∨ l.length ≤ m := by omega
    rcases hml with hml | hml
    · have hmx := (h2 m hml (Or.inr rfl)).resolve_right (by omega)
      have hcx := (h1 c hc h).resolve_right (by omega)
      exact not_trans hcx hmx
    · omega

theorem sink_heap : ∀ (f : Nat) (l : List Itm) (k : Nat), l.length ≤ k + f → k < l.length → Sinking l k → IsHeap (sinkL f l k) ∧ (sinkL f l k).Perm l
  | 0, l, k, h, hk, _ => by omega
  | f + 1, l, k, hf, hk, hS => by
    unfold sinkL
    have hbest := fore_best l k hk
    have hlt := foreL_lt l k hk
    have hw : foreL l k (foreL l (2 * k + 1) (2 * k + 2)) = k ∨ ((foreL l k (foreL l (2 * k + 1) (2 * k + 2)) - 1) / 2 = k ∧ 0 < foreL l k (foreL l (2 * k + 1) (2 * k + 2)) ∧ foreL l k (foreL l (2 * k + 1) (2 * k + 2)) ≠ k) := by
      unfold foreL
      repeat' split
      all_goals omega
    generalize foreL l k (foreL l (2 * k + 1) (2 * k + 2)) = x at *
    by_cases hx : x = k
    · rw [if_pos hx]
      subst hx
      refine ⟨fun i hi hl => ?_, List.Perm.refl _⟩
      by_cases hp : (i - 1) / 2 = x
      · rw [hp]; exact hbest i hl (by omega)
      · exact hS.rest i hi hl hp
    · rw [if_neg hx]
      obtain ⟨hxp, hx0, _⟩ := hw.resolve_left hx
      have hsw := at0_swap hk hlt (Ne.symm hx)
      have hkx := hbest k hk (Or.inl rfl)
      have hnew : Sinking (swapL l k x) x := by
        constructor
        · intro i hi hl hip
          rw [swapL_length] at hl
          rw [hsw i, hsw ((i - 1) / 2)]
          by_cases hik : i = k
          · rw [if_pos hik, if_neg (show (i - 1) / 2 ≠ k by omega), if_neg hip, hik]
            exact hS.kids x hx0 hlt hxp (by omega)
          · rw [if_neg hik]
            by_cases hix : i = x
            · rw [if_pos hix, hix, hxp, if_pos rfl]; exact hkx
            · rw [if_neg hix]
              by_cases hpk : (i - 1) / 2 = k
              · rw [if_pos hpk]; exact hbest i hl (by omega)
              · rw [if_neg hpk, if_neg hip]; exact hS.rest i hi hl hpk
        · intro c hc hl hcx hx0'
          rw [swapL_length] at hl
          rw [hsw c, hsw ((x - 1) / 2), hxp, if_pos rfl, if_neg (show c ≠ k by omega), if_neg (show c ≠ x by omega)]
          have := hS.rest c hc hl (by omega)
          rwa [hcx] at this
      obtain ⟨h1, h2⟩ := sink_heap f (swapL l k x) x (by rw [swapL_length]; omega) (by rw [swapL_length]; exact hlt) hnew
      exact ⟨h1, h2.trans (swap_perm hk hlt)⟩

theorem heap_top {l : List Itm} (h : IsHeap l) : ∀ (f i : Nat), i < f → i < l.length → aheadOf (at0 l i) (at0 l 0) = false
  | 0, i, hi, _ => by omega
  | f + 1, i, hi, hl => by
    by_cases h0 : i = 0
    · subst h0; exact ahead_irrefl _
    · exact not_trans (h i (by omega) hl) (heap_top h f ((i - 1) / 2) (by omega) (by omega))

theorem at0_append_left {l m : List Itm} {i : Nat} (h : i < l.length) : at0 (l ++ m) i = at0 l i := by
  unfold at0; simp [List.getElem?_append, h]

theorem built_heap (wt : Nat → Nat) : ∀ i, IsHeap (built wt i) ∧ (built wt i).Perm ((List.range i).map fun (j : Nat) => (((j : Int) + 1, wt j) : Itm))
  | 0 => ⟨fun i h1 h2 => by simp [built] at h2, by simp [built]⟩
  | i + 1 => by
    obtain ⟨h1, h2⟩ := built_heap wt i
    have hl := built_length wt i
    have hR : Rising (built wt i ++ [((i : Int) + 1, wt i)]) i := by
      constructor
      · intro j hj hjl hne
        simp [hl] at hjl
        rw [at0_append_left (by omega), at0_append_left (by omega)]
        exact h1 j hj (by omega)
      · intro c hc hcl hci _
        simp [hl] at hcl
        omega
    obtain ⟨h3, h4⟩ := rise_heap (i + 1) _ i (by omega) (by simp [hl]) hR
    refine ⟨h3, h4.trans ?_⟩
    rw [List.range_succ, List.map_append]
    exact List.Perm.append h2 (List.Perm.refl _)

theorem pop_perm {l : List Itm} (h : 0 < l.length) : (at0 l 0 :: popL l).Perm l := by
  match l, h with
  | [a], _ => simp [popL, at0]
  | a :: b :: r, _ =>
    have e : popL (a :: b :: r) = (b :: r).getLast (by simp) :: (b :: r).dropLast := by
      unfold popL
      simp only [List.length_cons, List.set_cons_zero, Nat.add_sub_cancel]
      rw [List.take_succ_cons]
      congr 1
      · rw [List.getLast_eq_getElem]; simp
      · rw [List.dropLast_eq_take]; simp
    rw [e]
    show (a :: _).Perm _
    refine List.Perm.cons a ?_
    have hd : (b :: r).dropLast ++ [(b :: r).getLast (by simp)] = b :: r := List.dropLast_concat_getLast (by simp)
    have hp := List.perm_append_comm (l₁ := [(b :: r).getLast (by simp)]) (l₂ := (b :: r).dropLast)
    rw [hd] at hp
    exact hp

theorem at0_pop {l : List Itm} {i : Nat} (h0 : 0 < i) (h : i < l.length - 1) : at0 (popL l) i = at0 l i := by
  unfold at0 popL
  rw [List.getD_eq_getElem?_getD, List.getElem?_take, if_pos h, List.getElem?_set_ne (by omega), ← List.getD_eq_getElem?_getD]

theorem pop_sinking {l : List Itm} (h : IsHeap l) : Sinking (popL l) 0 := by
  constructor
  · intro i hi hl hp
    rw [popL_length] at hl
    rw [at0_pop hi hl, at0_pop (by omega) (by omega)]
    exact h i hi (by omega)
  · intro c _ _ _ h0
    omega

/-- The items in the order in which they come out. -/
def drainI : Nat → List Itm → List Itm
  | 0, _ => []
  | f + 1, l => l.getD 0 (0, 0) :: drainI f (sinkL (l.length - 1) (popL l) 0)

theorem drain_fst : ∀ (f : Nat) (l : List Itm), drain f l = (drainI f l).map Prod.fst
  | 0, _ => rfl
  | f + 1, l => by rw [drain, drainI, List.map_cons, drain_fst f]

/-- Not behind. -/
def Le (a b : Itm) : Prop := aheadOf b a = false

theorem drainI_sorted : ∀ (f : Nat) (l : List Itm), l.length = f → IsHeap l → (drainI f l).Pairwise Le ∧ (drainI f l).Perm l
  | 0, l, h, _ => by
    have : l = [] := List.eq_nil_of_length_eq_zero h
    subst this
    exact ⟨List.Pairwise.nil, List.Perm.refl _⟩
  | f + 1, l, h, hH => by
    unfold drainI
    have hpos : 0 < l.length := by omega
    have hs : IsHeap (sinkL (l.length - 1) (popL l) 0) ∧ (sinkL (l.length - 1) (popL l) 0).Perm (popL l) := by
      by_cases h1 : l.length = 1
      · have : popL l = [] := List.eq_nil_of_length_eq_zero (by rw [popL_length]; omega)
        rw [this, h1]
        exact ⟨fun i _ hi => by simp [sinkL] at hi, List.Perm.refl _⟩
      · exact sink_heap _ _ 0 (by rw [popL_length]; omega) (by rw [popL_length]; omega) (pop_sinking hH)
    obtain ⟨h2, h3⟩ := drainI_sorted f _ (by rw [sinkL_length, popL_length]; omega) hs.1
    have hperm : (at0 l 0 :: drainI f (sinkL (l.length - 1) (popL l) 0)).Perm l := (List.Perm.cons _ (h3.trans hs.2)).trans (pop_perm hpos)
    refine ⟨List.pairwise_cons.2 ⟨fun b hb => ?_, h2⟩, hperm⟩
    have hbl : b ∈ l := hperm.mem_iff.1 (List.mem_cons_of_mem _ hb)
    obtain ⟨i, hi, rfl⟩ := List.mem_iff_getElem.1 hbl
    have := heap_top hH (i + 1) i (by omega) hi
    unfold Le
    rw [at0, getD_lt _ _ _ hi] at this
    exact this

/-- What the program's order is, whatever the heap did: the one list in order. -/
theorem drain_eq (wt : Nat → Nat) (n : Nat) (out : List Nat) (hn : out.Nodup) (hm : ∀ i, i ∈ out ↔ i < n) (hp : (out.map fun (j : Nat) => (((j : Int) + 1, wt j) : Itm)).Pairwise Le) :
    drain n (built wt n) = out.map fun (j : Nat) => (j : Int) + 1 := by
  obtain ⟨h1, h2⟩ := built_heap wt n
  obtain ⟨h3, h4⟩ := drainI_sorted n (built wt n) (built_length wt n) h1
  have hperm : out.Perm (List.range n) := (List.perm_ext_iff_of_nodup hn List.nodup_range).2 (fun a => by rw [hm, List.mem_range])
  have he : drainI n (built wt n) = out.map fun (j : Nat) => (((j : Int) + 1, wt j) : Itm) :=
    List.Perm.eq_of_pairwise (fun a b _ _ hab hba => ahead_antisymm hba hab) h3 hp ((h4.trans h2).trans (hperm.map _).symm)
  rw [drain_fst, he, List.map_map]
  rfl

end Go.Proofs.YtlodenfdcckemaaDoor

/-
  The order of the variables: each of them once.
-/

namespace Go.Proofs.YtlodenfdcckemaaDoor
open Go.RowKit

theorem drain_perm (wt : Nat → Nat) (n : Nat) : (drain n (built wt n)).Perm ((List.range n).map fun (j : Nat) => (j : Int) + 1) := by
  obtain ⟨h1, h2⟩ := built_heap wt n
  have h3 := (drainI_sorted n (built wt n) (built_length wt n) h1).2
  rw [drain_fst]
  have h4 := (h3.trans h2).map Prod.fst
  rw [List.map_map] at h4
  exact h4

theorem drain_mem {wt : Nat → Nat} {n : Nat} {v : Int} : v ∈ drain n (built wt n) ↔ 1 ≤ v ∧ v ≤ n := by
  rw [(drain_perm wt n).mem_iff, List.mem_map]
  constructor
  · rintro ⟨j, hj, rfl⟩
    have := List.mem_range.1 hj
    omega
  · rintro ⟨h1, h2⟩
    exact ⟨(v - 1).toNat, List.mem_range.2 (by omega), by omega⟩

theorem drain_len (wt : Nat → Nat) (n : Nat) : (drain n (built wt n)).length = n := by
  rw [(drain_perm wt n).length_eq]; simp

end Go.Proofs.YtlodenfdcckemaaDoor

/-
  The literals to choose: the walk of choices.
-/

namespace Go.Proofs.YtlodenfdcckemaaDoor
open Go.RowKit

attribute [local go_sem] run_store_float

/-- Of a variable the literal that weighs more. -/
def pickLit (cs : List (List Int)) (v : Int) : Int := if partsOf cs v < partsOf cs (-v) then -v else v

def chOf (n : Nat) (cs : List (List Int)) : List Nat := (drain n (built (weight cs) n)).map fun v => 2 ^ pl (pickLit cs v)

theorem pickLit_lit {n : Nat} {cs : List (List Int)} {v : Int} (h1 : 1 ≤ v) (h2 : v ≤ n) : IsLit n (pickLit cs v) := by
  unfold pickLit IsLit
  split <;> omega

theorem chOf_ok (n : Nat) (cs : List (List Int)) : Chs n (chOf n cs) := by
  refine ⟨fun l hl => ?_, fun v hv => ?_⟩
  · unfold chOf at hl
    obtain ⟨x, hx, rfl⟩ := List.mem_map.1 hl
    obtain ⟨h1, h2⟩ := drain_mem.1 hx
    exact ⟨_, pl_lt (pickLit_lit h1 h2), rfl⟩
  · refine ⟨2 ^ pl (pickLit cs ((v : Int) + 1)), List.mem_map.2 ⟨(v : Int) + 1, drain_mem.2 (by omega), rfl⟩, ?_⟩
    unfold pickLit
    split
    · right; congr 1; unfold pl; rw [if_pos (by omega)]; omega
    · left; congr 1; unfold pl; rw [if_neg (by omega)]; omega

theorem chOf_len (n : Nat) (cs : List (List Int)) : (chOf n cs).length = n := by unfold chOf; rw [List.length_map, drain_len]

theorem mask_one (x : Int) : maskOf [x] = 2 ^ pl x := by simp [maskOf]

theorem chOf_take (n : Nat) (cs : List (List Int)) (i : Nat) (hi : i < n) : (chOf n cs).take (i + 1) = (chOf n cs).take i ++ [2 ^ pl (pickLit cs ((drain n (built (weight cs) n)).getD i 0))] := by
  have h2 : i < (drain n (built (weight cs) n)).length := by rw [drain_len]; exact hi
  unfold chOf
  rw [← List.map_take, ← List.map_take, List.take_succ_eq_append_getElem h2, List.map_append, getD_lt _ _ _ h2]
  rfl

set_option maxRecDepth 100000 in
set_option maxHeartbeats 2000000 in
theorem choices_any (n : Nat) (ao : Option Addr) (cap : Nat) (cs : List (List Int)) (w : World) (hc : ListsAt w w.heap.size ao cs) (hg : Good n cs) :
    Calls Tryd.prog 95 #[.agg #[.int .i64 n, .slice ao cs.length cap]] w fun e w' => ∃ v, e = .returned v ∧ Own w' w.heap.size 71 v (svs (chOf n cs)) ∧ Below w.heap.size w w' := by
  have hn := hg.vars
  have hw1 : Below w.heap.size w (w.alloc (.cells #[.int .i64 n, .slice ao cs.length cap] 31)) := (Below.refl _ _).alloc (Nat.le_refl _) _
  have B0 := blk_new w [.int .i64 n, .slice ao cs.length cap] 31
  have hS0 := alloc_size w (.cells #[.int .i64 n, .slice ao cs.length cap] 31)
  dsimp only [List.toArray] at B0
  go_enter Tryd.func95, Tryd.ntmps95
  go_wp2_with fail
  generalize w.alloc (.cells #[.int .i64 n, .slice ao cs.length cap] 31) = W0 at *
  have hc0 := (hc.below hw1 (Nat.le_refl _)).mono hw1.size
  refine (ofLiterals_any n ao cap cs W0 hc0 hg).mono ?_
  rintro e w1 ⟨g1, rfl, hg1, hB1, hb1⟩
  have B01 := B0.below' hb1
  have n0 : w1.cell? ⟨w.heap.size, 0, none⟩ = some (.int .i64 n) := B01.cell (i := 0) (by simp) undef
  have n1 : w1.cell? ⟨w.heap.size, 1, none⟩ = some (.slice ao cs.length cap) := B01.cell (i := 1) (by simp) undef
  have hbw1 : Below w.heap.size w w1 := hw1.trans (hb1.mono hw1.size)
  have hc1 := (hc.below hbw1 (Nat.le_refl _)).mono hbw1.size
  go_wp2_with (at_make; refine wpList_make_blk2 _ rfl (.const (.int .i64 0)) (.tmp 10) 100 rfl 71 (.int .u64 0) 8 Tryd.underlying100 Tryd.infoSet rfl .i64 .i64 0 n _ _ rfl rfl rfl rfl (Nat.zero_le _) (by omega) (by omega) ?_; intro w2 hB2 hb2 hs2; have n02 : w2.cell? ⟨w.heap.size, 0, none⟩ = some (.int .i64 n) := (B01.below' hb2).cell (i := 0) (by simp) undef; have n12 : w2.cell? ⟨w.heap.size, 1, none⟩ = some (.slice ao cs.length cap) := (B01.below' hb2).cell (i := 1) (by simp) undef)
  have hbw2 : Below w.heap.size w w2 := hbw1.trans (hb2.mono hbw1.size)
  have hc2 := (hc.below hbw2 (Nat.le_refl _)).mono hbw2.size
  have HO2 : Hid (Own w2 w.heap.size 71 (.slice (some ⟨w1.heap.size, 0, none⟩) 0 n) (svs [])) := Or.inr ⟨w1.heap.size, n, rfl, hbw1.size, by unfold maxLen; omega, ⟨_, hB2, by simp⟩⟩
  have hB12 := hB1.below' hb2
  refine (order_any n ao cap cs w2 hc2 hg).mono ?_
  rintro e w3 ⟨g3, rfl, hg3, hB3, hb3⟩
  have HB1 : Hid (Blk w3 g1 159 (litCells n cs cs.length [] 0)) := hB12.below' hb3
  have HB3 : Hid (Blk w3 g3 3 ((drain n (built (weight cs) n)).map (Value.int .i64))) := hB3
  have HO3 : Hid (Own w3 w.heap.size 71 (.slice (some ⟨w1.heap.size, 0, none⟩) 0 n) (svs [])) := HO2.out.below' hb3
  have HBe : Hid (Below w.heap.size w w3) := hbw2.trans (hb3.mono hbw2.size)
  clear B0 B01 hB1 hB12 hB2 hB3 n0 n1 n02 n12 hc0 hc1 hc2 hb1 hb2 hb3 hbw1 hbw2 hs2 HO2 hw1
  go_wp2
  go_loopw [4, 15] (fun l x wr => ∃ (i : Nat), i ≤ n ∧ x = .int .i64 i ∧ Hid (Own wr w.heap.size 71 l (svs ((chOf n cs).take i))) ∧ Hid (Blk wr g1 159 (litCells n cs cs.length [] 0)) ∧ Hid (Blk wr g3 3 ((drain n (built (weight cs) n)).map (Value.int .i64))) ∧ Hid (Below w.heap.size w wr)) (fun _ x _ => n - (intOf x).toNat)
  case atStart => exact ⟨0, Nat.zero_le _, rfl, HO3, HB1, HB3, HBe⟩
  case round =>
    obtain ⟨i, hi, rfl, HO, HF, HR, HB⟩ := hrel
    by_cases hlt : i < n
    · have hd : i < (drain n (built (weight cs) n)).length := by rw [drain_len]; exact hlt
      have hmem : (drain n (built (weight cs) n)).getD i 0 ∈ drain n (built (weight cs) n) := by rw [getD_lt _ _ _ hd]; exact List.getElem_mem hd
      obtain ⟨hv1, hv2⟩ := drain_mem.1 hmem
      have hck : wr.cell? ⟨g3, i, none⟩ = some (.int .i64 ((drain n (built (weight cs) n)).getD i 0)) := by
        have := HR.out.cell (i := i) (by simpa using hd) (.int .i64 0)
        rw [this]
        simp [hd]
      have HTk : Hid ((chOf n cs).take (i + 1) = (chOf n cs).take i ++ [2 ^ pl (pickLit cs ((drain n (built (weight cs) n)).getD i 0))]) := chOf_take n cs i hlt
      generalize (drain n (built (weight cs) n)).getD i 0 = v at *
      have p1 := placeOf_lt (n := n) (x := v) (by omega)
      have p2 := placeOf_lt (n := n) (x := -v) (by omega)
      have s1 : wr.cell? ⟨g1, placeOf v, none⟩ = some (.float .f64 (Fl.W (partsOf cs v))) := (HF.out.cell (i := placeOf v) (by simp [litCells]; omega) undef).trans (by rw [litCells_get _ _ _ p1, litAt_placeOf (by omega)])
      have s2 : wr.cell? ⟨g1, placeOf (-v), none⟩ = some (.float .f64 (Fl.W (partsOf cs (-v)))) := (HF.out.cell (i := placeOf (-v)) (by simp [litCells]; omega) undef).trans (by rw [litCells_get _ _ _ p2, litAt_placeOf (by omega)])
      have b1 : partsOf cs v < 9007199254740992 := by have := hg.parts_le v; omega
      have b2 : partsOf cs (-v) < 9007199254740992 := by have := hg.parts_le (-v); omega
      have HPk : Hid (pickLit cs v = if partsOf cs v < partsOf cs (-v) then -v else v) := rfl
      have hlen : ((chOf n cs).take i).length = i := by rw [List.length_take, chOf_len]; omega
      have hsz := HB.out.size
      generalize partsOf cs v = r1 at *
      generalize partsOf cs (-v) = r2 at *
      have i1 : (placeOf v : Int) < 2 * (n : Int) := by omega
      have i2 : (placeOf (-v) : Int) < 2 * (n : Int) := by omega
      have hv20 : v ≤ 20 := by omega
      -- behind the comparison
      have HEnd : Hid (∀ (nq : Nat) (x : Int) (l' : Value) (g5 cap5 : Nat) (w5 : World) (o o' : Obj), x = pickLit cs v → Own w5 w.heap.size 71 (.slice (some ⟨g5, 0, none⟩) (i + 1) cap5) (svs ((chOf n cs).take i) ++ [sv (maskOf [x])]) → (((wr.drewN nq).alloc o).alloc o').grownBy w5 l'.ownBlock → Own wr w.heap.size 71 l' (svs ((chOf n cs).take i)) →
          Hid (Own w5 w.heap.size 71 (.slice (some ⟨g5, 0, none⟩) (i + 1) cap5) (svs ((chOf n cs).take (i + 1)))) ∧ Hid (Blk w5 g1 159 (litCells n cs cs.length [] 0)) ∧ Hid (Blk w5 g3 3 ((drain n (built (weight cs) n)).map (Value.int .i64))) ∧ Hid (Below w.heap.size w w5)) := by
        intro nq x l' g5 cap5 w5 o o' hx hO5 hgr hOl
        have e1 : svs ((chOf n cs).take (i + 1)) = svs ((chOf n cs).take i) ++ [sv (maskOf [x])] := by rw [HTk.out, mask_one, hx]; simp
        have hA : Below wr.heap.size wr (((wr.drewN nq).alloc o).alloc o') := ((⟨rfl, rfl, rfl, Nat.le_refl _, fun _ _ => rfl⟩ : Below wr.heap.size wr (wr.drewN nq)).alloc (Nat.le_refl _) o).alloc (by simp [World.drewN]) o'
        have F2 := HF.out.below' hA
        have R2 := HR.out.below' hA
        have O2 := hOl.below' hA
        refine ⟨by unfold Hid; rw [e1]; exact hO5, F2.grown hgr (own_blk O2 F2 (by decide)), R2.grown hgr (own_blk O2 R2 (by decide)), ?_⟩
        have hb1 : Below w.heap.size w (((wr.drewN nq).alloc o).alloc o') := HB.out.trans (hA.mono hsz)
        exact hb1.trans ⟨hgr.os, hgr.tape, hgr.output, hgr.size, fun k hk => hgr.block k (by have := hb1.size; omega) (fun e => by have := (O2.lt e.symm).1; omega)⟩
      rcases Nat.lt_trichotomy r1 r2 with hr | hr | hr
      · have ho := order_gt b2 b1 hr

        have HX : Hid (-v = pickLit cs v) := by unfold Hid; rw [HPk.out]; rw [if_pos hr]
        have cL : ∀ nq, Calls Tryd.prog 44 #[.slice (some ⟨wr.heap.size, 0, none⟩) 1 1] ((wr.drewN nq).alloc (.cells #[.int .i64 (-v)] 3)) fun e w' => e = .returned (sv (maskOf [-v])) ∧ w' = (wr.drewN nq).alloc (.cells #[.int .i64 (-v)] 3) := fun nq => litsOf_any n hn (some ⟨wr.heap.size, 0, none⟩) 1 [-v] _ (wr.heap.size + 1) (fun _ => ⟨wr.heap.size, 0, rfl, Nat.lt_succ_self _, fun j hj => by
          have hj0 : j = 0 := by simp at hj; omega
          subst hj0
          exact (blk_new (wr.drewN nq) [.int .i64 (-v)] 3).cell (i := 0) (by simp) undef⟩) (fun l hl => by rw [List.mem_singleton] at hl; rw [hl]; unfold IsLit; omega) (by simp)
        have OA : ∀ nq, Own (((wr.drewN nq).alloc (.cells #[.int .i64 (-v)] 3)).alloc (.cells #[sv (maskOf [-v])] 71)) w.heap.size 71 _ (svs ((chOf n cs).take i)) := fun nq => (Own.alloc (w := (wr.drewN nq).alloc (.cells #[.int .i64 (-v)] 3)) (Own.alloc (w := wr.drewN nq) (HO.out.chg (S := fun _ => False) ((Chg.refl _ _).drewN nq) (fun _ _ e => e)) _) _)
        have NA : ∀ nq, Blk (((wr.drewN nq).alloc (.cells #[.int .i64 (-v)] 3)).alloc (.cells #[sv (maskOf [-v])] 71)) (wr.heap.size + 1) 71 [sv (maskOf [-v])] := fun nq => by
          have := blk_new ((wr.drewN nq).alloc (.cells #[.int .i64 (-v)] 3)) [sv (maskOf [-v])] 71
          rw [World.size_alloc] at this
          exact this
        have hn2 : i + 1 ≤ 20 := by omega
        go_wp2
        go_quiet ((go_at_call 67; exact Calls.quiet_of_same (place_any _ _ (by omega))))
        go_wp2_with (first
          | (go_at_call 44; refine (cL _).mono ?_; rintro e w' ⟨rfl, hw'⟩; obtain rfl := hw'.symm)
          | (at_builtin; refine wpList_append_new (.tmp 33) (.tmp 37) 100 71 (.int .u64 0) 8 Tryd.underlying100 Tryd.infoSet rfl w.heap.size (wr.heap.size + 1) _ _ [sv (maskOf [-v])] 1 i (by rw [List.length_map]; exact hlen) rfl (by decide) (by rfl) (by rfl) (OA _) (NA _) (by intro u hu; simp at hu; rw [hu]; rfl) (by unfold maxLen; omega) (by omega) (by simp [World.drewN]; omega) ?_; intro g5 cap5 w5 hO5 hgr5 hat5 hlt5))
        obtain ⟨e1, e2, e3, e4⟩ := HEnd.out _ _ _ g5 cap5 w5 _ _ HX.out hO5 hgr5 HO.out
        exact ⟨⟨i + 1, by omega, by go_num, e1, e2, e3, e4⟩, by simp [intOf]; omega⟩
      · subst hr
        have ho := order_eq b2

        have HX : Hid (v = pickLit cs v) := by unfold Hid; rw [HPk.out]; rw [if_neg (by omega)]
        have cL : ∀ nq, Calls Tryd.prog 44 #[.slice (some ⟨wr.heap.size, 0, none⟩) 1 1] ((wr.drewN nq).alloc (.cells #[.int .i64 (v)] 3)) fun e w' => e = .returned (sv (maskOf [v])) ∧ w' = (wr.drewN nq).alloc (.cells #[.int .i64 (v)] 3) := fun nq => litsOf_any n hn (some ⟨wr.heap.size, 0, none⟩) 1 [v] _ (wr.heap.size + 1) (fun _ => ⟨wr.heap.size, 0, rfl, Nat.lt_succ_self _, fun j hj => by
          have hj0 : j = 0 := by simp at hj; omega
          subst hj0
          exact (blk_new (wr.drewN nq) [.int .i64 (v)] 3).cell (i := 0) (by simp) undef⟩) (fun l hl => by rw [List.mem_singleton] at hl; rw [hl]; unfold IsLit; omega) (by simp)
        have OA : ∀ nq, Own (((wr.drewN nq).alloc (.cells #[.int .i64 (v)] 3)).alloc (.cells #[sv (maskOf [v])] 71)) w.heap.size 71 _ (svs ((chOf n cs).take i)) := fun nq => (Own.alloc (w := (wr.drewN nq).alloc (.cells #[.int .i64 (v)] 3)) (Own.alloc (w := wr.drewN nq) (HO.out.chg (S := fun _ => False) ((Chg.refl _ _).drewN nq) (fun _ _ e => e)) _) _)
        have NA : ∀ nq, Blk (((wr.drewN nq).alloc (.cells #[.int .i64 (v)] 3)).alloc (.cells #[sv (maskOf [v])] 71)) (wr.heap.size + 1) 71 [sv (maskOf [v])] := fun nq => by
          have := blk_new ((wr.drewN nq).alloc (.cells #[.int .i64 (v)] 3)) [sv (maskOf [v])] 71
          rw [World.size_alloc] at this
          exact this
        have hn2 : i + 1 ≤ 20 := by omega
        go_wp2
        go_quiet ((go_at_call 67; exact Calls.quiet_of_same (place_any _ _ (by omega))))
        go_wp2_with (first
          | (go_at_call 44; refine (cL _).mono ?_; rintro e w' ⟨rfl, hw'⟩; obtain rfl := hw'.symm)
          | (at_builtin; refine wpList_append_new (.tmp 33) (.tmp 37) 100 71 (.int .u64 0) 8 Tryd.underlying100 Tryd.infoSet rfl w.heap.size (wr.heap.size + 1) _ _ [sv (maskOf [v])] 1 i (by rw [List.length_map]; exact hlen) rfl (by decide) (by rfl) (by rfl) (OA _) (NA _) (by intro u hu; simp at hu; rw [hu]; rfl) (by unfold maxLen; omega) (by omega) (by simp [World.drewN]; omega) ?_; intro g5 cap5 w5 hO5 hgr5 hat5 hlt5))
        obtain ⟨e1, e2, e3, e4⟩ := HEnd.out _ _ _ g5 cap5 w5 _ _ HX.out hO5 hgr5 HO.out
        exact ⟨⟨i + 1, by omega, by go_num, e1, e2, e3, e4⟩, by simp [intOf]; omega⟩
      · have ho := order_lt b2 b1 hr

        have HX : Hid (v = pickLit cs v) := by unfold Hid; rw [HPk.out]; rw [if_neg (by omega)]
        have cL : ∀ nq, Calls Tryd.prog 44 #[.slice (some ⟨wr.heap.size, 0, none⟩) 1 1] ((wr.drewN nq).alloc (.cells #[.int .i64 (v)] 3)) fun e w' => e = .returned (sv (maskOf [v])) ∧ w' = (wr.drewN nq).alloc (.cells #[.int .i64 (v)] 3) := fun nq => litsOf_any n hn (some ⟨wr.heap.size, 0, none⟩) 1 [v] _ (wr.heap.size + 1) (fun _ => ⟨wr.heap.size, 0, rfl, Nat.lt_succ_self _, fun j hj => by
          have hj0 : j = 0 := by simp at hj; omega
          subst hj0
          exact (blk_new (wr.drewN nq) [.int .i64 (v)] 3).cell (i := 0) (by simp) undef⟩) (fun l hl => by rw [List.mem_singleton] at hl; rw [hl]; unfold IsLit; omega) (by simp)
        have OA : ∀ nq, Own (((wr.drewN nq).alloc (.cells #[.int .i64 (v)] 3)).alloc (.cells #[sv (maskOf [v])] 71)) w.heap.size 71 _ (svs ((chOf n cs).take i)) := fun nq => (Own.alloc (w := (wr.drewN nq).alloc (.cells #[.int .i64 (v)] 3)) (Own.alloc (w := wr.drewN nq) (HO.out.chg (S := fun _ => False) ((Chg.refl _ _).drewN nq) (fun _ _ e => e)) _) _)
        have NA : ∀ nq, Blk (((wr.drewN nq).alloc (.cells #[.int .i64 (v)] 3)).alloc (.cells #[sv (maskOf [v])] 71)) (wr.heap.size + 1) 71 [sv (maskOf [v])] := fun nq => by
          have := blk_new ((wr.drewN nq).alloc (.cells #[.int .i64 (v)] 3)) [sv (maskOf [v])] 71
          rw [World.size_alloc] at this
          exact this
        have hn2 : i + 1 ≤ 20 := by omega
        go_wp2
        go_quiet ((go_at_call 67; exact Calls.quiet_of_same (place_any _ _ (by omega))))
        go_wp2_with (first
          | (go_at_call 44; refine (cL _).mono ?_; rintro e w' ⟨rfl, hw'⟩; obtain rfl := hw'.symm)
          | (at_builtin; refine wpList_append_new (.tmp 33) (.tmp 37) 100 71 (.int .u64 0) 8 Tryd.underlying100 Tryd.infoSet rfl w.heap.size (wr.heap.size + 1) _ _ [sv (maskOf [v])] 1 i (by rw [List.length_map]; exact hlen) rfl (by decide) (by rfl) (by rfl) (OA _) (NA _) (by intro u hu; simp at hu; rw [hu]; rfl) (by unfold maxLen; omega) (by omega) (by simp [World.drewN]; omega) ?_; intro g5 cap5 w5 hO5 hgr5 hat5 hlt5))
        obtain ⟨e1, e2, e3, e4⟩ := HEnd.out _ _ _ g5 cap5 w5 _ _ HX.out hO5 hgr5 HO.out
        exact ⟨⟨i + 1, by omega, by go_num, e1, e2, e3, e4⟩, by simp [intOf]; omega⟩
    · obtain rfl : i = n := by omega
      have HE : Hid ((chOf i cs).take i = chOf i cs) := by unfold Hid; rw [List.take_of_length_le (by rw [chOf_len]; omega)]
      go_wp2
      go_ret
      exact ⟨_, rfl, by rw [← HE.out]; exact HO.out, HB.out⟩
end Go.Proofs.YtlodenfdcckemaaDoor

/-
  The walk of the document's check of a proof.
-/

namespace Go.Proofs.YtlodenfdcckemaaDoor
open Go.RowKit

open Classical in
/-- What the table says of a conflict. -/
theorem RDone.crash_iff {V : Nat} {C : List (List Int)} {G : Int → Prop} {bs : List Bool} (h : RDone V C G bs) : crash bs = decide (Conf C G) := by
  cases e : crash bs with
  | true => rw [decide_eq_true (h.come.conf e)]
  | false => rw [decide_eq_false (h.shut e).noconf]

theorem clauseFault_long {vars : Int} {c : List Int} (h : 20 < c.length) : clauseFault vars c = 5 := by rw [clauseFault, if_pos h]

theorem negs_take (c : List Int) (k : Nat) (hk : k < c.length) : (c.take (k + 1)).map (fun l => -l) = (c.take k).map (fun l => -l) ++ [-(c.getD k 0)] := by
  rw [take_succ_getD c k hk, List.map_append]; rfl

theorem ListsAt.take {w : World} {B : Nat} {ao : Option Addr} {cs : List (List Int)} (h : ListsAt w B ao cs) (n : Nat) : ListsAt w B ao (cs.take n) := by
  intro hne
  obtain ⟨b, o, e, hb, hc⟩ := h (by intro h0; rw [h0] at hne; simp at hne)
  refine ⟨b, o, e, hb, fun i hi => ?_⟩
  have hi' : i < cs.length := by simp at hi; omega
  have hin : i < n := by simp at hi; omega
  have e2 : (cs.take n).getD i [] = cs.getD i [] := by rw [getD_lt _ _ _ hi, getD_lt _ _ _ hi', List.getElem_take]
  rw [e2]
  exact hc i hi'

theorem lit_of {V : Nat} {x : Int} (h : lit V x = true) : IsLit V x := by
  unfold lit at h
  simp only [Bool.and_eq_true, Bool.not_eq_true', beq_eq_false_iff_ne, decide_eq_true_eq] at h
  exact ⟨h.1.1, h.1.2, h.2⟩

set_option maxRecDepth 100000 in
set_option maxHeartbeats 8000000 in
theorem rcheck_any (V : Nat) (hV : V ≤ 20) (ao po : Option Addr) (cap pcap : Nat) (cs p : List (List Int)) (w : World) (hc : ListsAt w w.heap.size ao cs) (hp : ListsAt w w.heap.size po p) (hlit : ∀ c ∈ cs, ∀ l ∈ c, IsLit V l) (hlen : cs.length ≤ 200) (heach : ∀ c ∈ cs, c.length ≤ 20) (hpl : p.length ≤ 6000000000000) (hpcap : p.length ≤ pcap)
    (hnum : ∀ c ∈ p, ∀ l ∈ c, -9223372036854775808 ≤ l ∧ l ≤ 9223372036854775807) (hpe : ∀ c ∈ p, c.length ≤ 4611686018427387904) :
    Calls Tryd.prog 85 #[.agg #[.int .i64 V, .slice ao cs.length cap], .slice po p.length pcap] w fun e w' => e = .returned (.tuple #[.int .i64 (checkOf V cs 0 p).1, .int .i64 (checkOf V cs 0 p).2]) ∧ Below w.heap.size w w' := by
  have b1 := alloc_below w (.cells #[.int .i64 V, .slice ao cs.length cap] 31)
  have B1 : Blk (w.alloc (.cells #[.int .i64 V, .slice ao cs.length cap] 31)) w.heap.size 31 [.int .i64 V, .slice ao cs.length cap] := blk_new w [.int .i64 V, .slice ao cs.length cap] 31
  have s1 := alloc_size w (.cells #[.int .i64 V, .slice ao cs.length cap] 31)
  go_enter Tryd.func85, Tryd.ntmps85
  go_wp2
  generalize w.alloc (.cells #[.int .i64 V, .slice ao cs.length cap] 31) = w1 at *
  go_loopw [6] (fun x wr => ∃ (i : Nat), i ≤ p.length ∧ x = .int .i64 i ∧ Hid (∀ c ∈ p.take i, clauseFault V c = 0) ∧ Hid (Below w1.heap.size w1 wr) ∧ Hid (checkOf V cs 0 p = checkOf V (cs ++ p.take i) i (p.drop i))) (fun x _ => p.length - (intOf x).toNat)
  case atStart => exact ⟨0, Nat.zero_le _, rfl, (fun c hc => by simp at hc), (Below.refl _ _), by rw [List.take_zero, List.append_nil]; rfl⟩
  case round =>
    obtain ⟨i, hi, rfl, HOK, HBe, HChk⟩ := hrel
    have hbr : Below w.heap.size w wr := b1.trans (HBe.out.mono (by omega))
    by_cases hlt : i < p.length
    · have hpr := hp.below hbr (Nat.le_refl _)
      obtain ⟨b, o, rfl, hb, hcell⟩ := hpr (by intro h; rw [h] at hlt; simp at hlt)
      obtain ⟨A, Cc, hck, hin⟩ := hcell i hlt
      have HStep : Hid _ := HChk.out.trans (checkOf_step V (cs ++ p.take i) i p hlt)
      have HT : Hid (p.take (i + 1) = p.take i ++ [p.getD i []]) := take_succ_lists p i hlt
      have hnm := hnum _ (mem_lists hlt)
      have hln := hpe _ (mem_lists hlt)
      generalize p.getD i [] = c at hck hin HStep HT hnm hln
      have HIn : Hid (IntsAt wr w.heap.size A c) := hin
      clear hcell hpr hin
      by_cases h20 : 20 < c.length
      · have H5 : Hid (clauseFault (V : Int) c = 5) := clauseFault_long h20
        go_wp2
        go_ret2
        refine ⟨?_, hbr⟩
        rw [HStep.out, if_pos (by rw [H5.out]; decide), H5.out]
        rfl
      · have H20 : Hid (clauseFault (V : Int) c = litsFault V c) := clauseFault_lits h20
        have h20' : c.length ≤ 20 := by omega
        clear h20
        have HLn : Hid (∀ l ∈ c, -9223372036854775808 ≤ l ∧ l ≤ 9223372036854775807) := hnm
        clear hnm
        have hbl : b < wr.heap.size := Nat.lt_of_lt_of_le hb (Nat.le_trans hbr.size (Nat.le_refl _))
        have hck1 : wr.cell? ⟨b, o + i, none⟩ = some (.slice A c.length Cc) := hck
        have cV : wr.cell? ⟨w.heap.size, 0, none⟩ = some (.int .i64 V) := (HBe.out.cell (p := ⟨w.heap.size, 0, none⟩) (by show w.heap.size < w1.heap.size; omega)).trans (B1.cell (i := 0) (by simp) undef)
        have cF : wr.cell? ⟨w.heap.size, 1, none⟩ = some (.slice ao cs.length cap) := (HBe.out.cell (p := ⟨w.heap.size, 1, none⟩) (by show w.heap.size < w1.heap.size; omega)).trans (B1.cell (i := 1) (by simp) undef)
        have hwl : w.heap.size < wr.heap.size := by have := HBe.out.size; omega
        have HBr : Hid (Below w.heap.size w wr) := hbr
        obtain ⟨w2, rfl⟩ : ∃ x, x = wr := ⟨wr, rfl⟩
        go_wp2
        have HCV : Hid (w2.cell? ⟨w.heap.size, 0, none⟩ = some (.int .i64 V)) := cV
        have HCF : Hid (w2.cell? ⟨w.heap.size, 1, none⟩ = some (.slice ao cs.length cap)) := cF
        have HCK : Hid (w2.cell? ⟨b, o + i, none⟩ = some (.slice A c.length Cc)) := hck1
        clear hck hck1 cV cF
        go_loopw [7, 8] (fun va x wq => ∃ (k : Nat), k ≤ c.length ∧ x = .int .i64 k ∧ Hid (Own wq w2.heap.size 3 va (ints ((c.take k).map fun l => -l))) ∧ Hid ((c.take k).all (lit V) = true) ∧ Hid (Below w2.heap.size w2 wq)) (fun _ x _ => c.length - (intOf x).toNat)
        case atStart => exact ⟨0, Nat.zero_le _, rfl, Own.nil _ _ _, (by unfold Hid; simp), (Below.refl _ _)⟩
        case round =>
          obtain ⟨k, hk, rfl, HO, HAl, HBq⟩ := hrel
          have hck : wr.cell? ⟨b, o + i, none⟩ = some (.slice A c.length Cc) := (HBq.out.cell (p := ⟨b, o + i, none⟩) hbl).trans HCK.out
          have cV : wr.cell? ⟨w.heap.size, 0, none⟩ = some (.int .i64 V) := (HBq.out.cell (p := ⟨w.heap.size, 0, none⟩) hwl).trans HCV.out
          by_cases hlk : k < c.length
          · have hinq := HIn.out.below HBq.out (Nat.le_of_lt hwl)
            obtain ⟨b', o', rfl, hb', hcell'⟩ := hinq (by intro h; rw [h] at hlk; simp at hlk)
            have hcx := hcell' k hlk
            have hmem : c.getD k 0 ∈ c := by rw [getD_lt _ _ _ hlk]; exact List.getElem_mem hlk
            obtain ⟨hx0, hx1⟩ := HLn.out _ hmem
            have HNT : Hid _ := negs_take c k hlk
            have HAT : Hid _ := all_take_succ (lit V) c k hlk
            have HAF : Hid (lit V (c.getD k 0) = false → c.all (lit V) = false) := fun h => all_false_of (lit V) c k hlk h
            generalize c.getD k 0 = x at hcx hx0 hx1 HNT HAT HAF
            clear hcell' hinq hmem
            cases hlx : lit V x with
            | false =>
              have HF : Hid (clauseFault (V : Int) c = 6) := by unfold Hid; rw [H20.out, litsFault, HAF.out hlx]; rfl
              have cl := literal_any x V
              rw [hlx] at cl
              clear hlx
              go_wp2
              go_quiet ((go_at_call 50; exact Calls.quiet_of_same (cl _ hx0 hx1 (by omega) (by omega))))
              go_wp2
              go_ret2
              refine ⟨?_, HBr.out.trans ((HBq.out.mono HBr.out.size).trans ⟨rfl, rfl, rfl, Nat.le_refl _, fun _ _ => rfl⟩)⟩
              rw [HStep.out, if_pos (by rw [HF.out]; decide), HF.out]
              rfl
            | true =>
              have hxl := lit_of hlx
              obtain ⟨_, hxa, hxb⟩ := hxl
              have cl := literal_any x V
              rw [hlx] at cl
              have HA2 : Hid ((c.take (k + 1)).all (lit V) = true) := by unfold Hid; rw [HAT.out, HAl.out, hlx]; rfl
              clear hlx
              go_wp2
              go_quiet ((go_at_call 50; exact Calls.quiet_of_same (cl _ hx0 hx1 (by omega) (by omega))))
              have BD : Below w2.heap.size w2 (wr.drewN nq) := HBq.out.trans ⟨rfl, rfl, rfl, Nat.le_refl _, fun _ _ => rfl⟩
              have OD : Own (wr.drewN nq) w2.heap.size 3 _ _ := HO.out.chg (S := fun _ => False) ((Chg.refl _ _).drewN nq) (fun _ _ h => h)
              have hck3 : (wr.drewN nq).cell? ⟨b, o + i, none⟩ = some (.slice (some ⟨b', o', none⟩) c.length Cc) := hck
              have hcx3 : (wr.drewN nq).cell? ⟨b', o' + k, none⟩ = some (.int .i64 x) := hcx
              generalize wr.drewN nq = w3 at *
              have BA := alloc_below w3 (.cells #[.int .i64 (-x)] 3)
              have NA : Blk (w3.alloc (.cells #[.int .i64 (-x)] 3)) w3.heap.size 3 [.int .i64 (-x)] := blk_new w3 [.int .i64 (-x)] 3
              have OA := OD.alloc (.cells #[.int .i64 (-x)] 3)
              have hsz3 := BD.size
              clear hck hcx
              go_wp2_with (at_builtin; refine wpList_append_new (.tmp 46) (.tmp 55) 24 3 (.int .i64 0) 8 Tryd.underlying24 Tryd.info3 rfl w2.heap.size w3.heap.size _ _ [.int .i64 (-x)] 1 k (by simp; omega) rfl (by decide) (by rfl) (by rfl) OA NA (by intro u hu; simp at hu; rw [hu]; rfl) (by unfold maxLen; omega) (by omega) (by rw [alloc_size]; omega) ?_; intro g5 cap5 w5 hO5 hgr5 hat5 hlt5)
              go_roundw
              case rel =>
                refine ⟨k + 1, by omega, by go_num, ?_, HA2, ?_⟩
                · have e : ints ((c.take (k + 1)).map fun l => -l) = ints ((c.take k).map fun l => -l) ++ [.int .i64 (-x)] := by rw [HNT.out]; simp
                  rw [e]
                  exact hO5
                · refine BD.trans ((BA.mono hsz3).trans ⟨hgr5.os, hgr5.tape, hgr5.output, hgr5.size, fun j hj => hgr5.block j (by rw [alloc_size]; omega) (fun e => ?_)⟩)
                  have := (OA.lt e.symm).1
                  omega
              case measure => simp [intOf]; omega
          · obtain rfl : k = c.length := by omega
            have hall : c.all (lit V) = true := by
              have := HAl.out
              rwa [List.take_length] at this
            have HF0 : Hid (clauseFault (V : Int) c = 0) := by unfold Hid; rw [H20.out, litsFault, hall]; rfl
            have hlc : ∀ l ∈ c, IsLit V l := (clauseFault_ok HF0.out).2
            have hO2 := HO.out
            rw [List.take_length] at hO2
            obtain ⟨va, vc, hva, hIa⟩ := hO2.ints (Nat.le_refl _)
            rw [List.length_map] at hva
            subst hva
            have cF : wr.cell? ⟨w.heap.size, 1, none⟩ = some (.slice ao cs.length cap) := (HBq.out.cell (p := ⟨w.heap.size, 1, none⟩) hwl).trans HCF.out
            have hbq : Below w.heap.size w wr := HBr.out.trans (HBq.out.mono HBr.out.size)
            have hsq := hbq.size
            have HBQ : Hid (Below w.heap.size w wr) := hbq
            have hcr : ListsAt wr.drew wr.drew.heap.size ao cs := (hc.below hbq (Nat.le_refl _)).mono hsq
            have hpr : ListsAt wr.drew wr.drew.heap.size (some ⟨b, o, none⟩) (p.take i) := ((hp.below hbq (Nat.le_refl _)).mono hsq).take i
            have hIr : IntsAt wr.drew wr.drew.heap.size va (c.map fun l => -l) := hIa
            have hpt : (p.take i).length = i := by simp; omega
            have HRF := rfollow_any V hV ao (some ⟨b, o, none⟩) va cap pcap vc cs (p.take i) (c.map fun l => -l) wr.drew hcr hpr hIr hlit (fun d hd => (clauseFault_ok (HOK.out d hd)).2) (negs_lit hlc) (by omega) (by omega) (by simp; omega) heach (fun d hd => (clauseFault_ok (HOK.out d hd)).1)
            rw [hpt, List.length_map] at HRF
            have hip : (i : Int) ≤ (pcap : Int) := by omega
            have hi0 : (0 : Int) ≤ (i : Int) := by omega
            have HLC : Hid (∀ l ∈ c, IsLit V l) := hlc
            have hwq : w.heap.size < wr.heap.size := by have := HBq.out.size; omega
            have hbq2 : b < wr.heap.size := by have := HBq.out.size; omega
            clear hall hlc hO2 hIa hIr hpr hcr hbq HO HAl cV
            go_wp2
            go_region_held3 (fun w3 => w3.cell? ⟨w.heap.size, 1, none⟩ = some (.slice ao cs.length cap))
              (first | exact cF6 | exact cF | go_keep)
              (first | (go_at_call 51; refine HRF.mono ?_; rintro e w6 ⟨Hk, bs, rfl, hB6, hR6, hb6, hH6⟩; have cF6 : w6.cell? ⟨w.heap.size, 1, none⟩ = some (.slice ao cs.length cap) := (hb6.cell (p := ⟨w.heap.size, 1, none⟩) hwq).trans cF))
            have hb7 : Below wr.heap.size wr w6 := ⟨hb6.os, hb6.tape, hb6.output, hb6.size, hb6.block⟩
            have HB6 : Hid (Below w.heap.size w w6) := HBQ.out.trans (hb7.mono hsq)
            have HBB : Hid (Below w1.heap.size w1 w6) := HBe.out.trans ((HBq.out.mono HBe.out.size).trans (hb7.mono (by have := HBe.out.size; have := HBq.out.size; omega)))
            have hcr6 := hR6.crash_iff
            have hbs := hR6.come.len
            have c64 := hB6.cell (i := 64) (by simp; omega) undef
            rw [bvs_get (by omega)] at c64
            have hck6 : w6.cell? ⟨b, o + i, none⟩ = some (.slice A c.length Cc) := (hb6.cell (p := ⟨b, o + i, none⟩) hbq2).trans hck
            have hHk := hB6.lt
            clear HRF cF cF6 hB6 hR6 hb6 hb7 hck
            open Classical in
            by_cases hconf : Conf (cs ++ p.take i) (fun l => l ∈ c.map fun l => -l)
            · rw [decide_eq_true hconf] at hcr6
              have hcr6 : bs.getD 64 false = true := hcr6
              rw [hcr6] at c64
              have HCf : Hid (Conf (cs ++ p.take i) (fun l => l ∈ c.map fun l => -l)) := hconf
              clear hconf hcr6
              by_cases hz : c.length = 0
              · have HZ : Hid (c.length = 0) := hz
                have hz' : ((c.length : Int) == 0) = true := by simp [hz]
                clear hz
                go_wp2
                go_ret2
                refine ⟨?_, HB6.out⟩
                rw [HStep.out, if_neg (by rw [HF0.out]; simp), if_pos HCf.out, if_pos HZ.out]
                rfl
              · have HZ : Hid (¬ c.length = 0) := hz
                have hz' : ((c.length : Int) == 0) = false := by simp [hz]
                clear hz
                go_wp2
                go_roundw
                case rel =>
                  refine ⟨i + 1, by omega, by go_num, ?_, HBB, ?_⟩
                  · intro d hd
                    rw [HT.out] at hd
                    rcases List.mem_append.1 hd with h | h
                    · exact HOK.out d h
                    · rw [List.mem_singleton] at h; rw [h]; exact HF0.out
                  · refine HStep.out.trans ?_
                    rw [if_neg (by rw [HF0.out]; simp), if_pos HCf.out, if_neg HZ.out, HT.out, ← List.append_assoc]
                case measure => simp [intOf]; omega
            · rw [decide_eq_false hconf] at hcr6
              have hcr6 : bs.getD 64 false = false := hcr6
              rw [hcr6] at c64
              have HCf : Hid (¬ Conf (cs ++ p.take i) (fun l => l ∈ c.map fun l => -l)) := hconf
              clear hconf hcr6
              go_wp2
              go_ret2
              refine ⟨?_, HB6.out⟩
              rw [HStep.out, if_neg (by rw [HF0.out]; simp), if_neg HCf.out]
              rfl
    · obtain rfl : i = p.length := by omega
      have HE : Hid (checkOf V cs 0 p = ((p.length : Int), 8)) := by
        unfold Hid
        rw [HChk.out, List.drop_length, checkOf]
      go_wp2
      go_ret2
      exact ⟨by rw [HE.out]; rfl, hbr⟩
end Go.Proofs.YtlodenfdcckemaaDoor
