/-
  Several texts, one behind the other.
-/
import Derived.Test.YtlodenfdcckemaaDoorH22
import Derived.Test.YtlodenfdcckemaaDoorH24
import Derived.Test.YtlodenfdcckemaaDoorH25
import Derived.Test.YtlodenfdcckemaaDoorH6
import Derived.Deep.QuietTactic
import Derived.BigQuiet
import Derived.Test.YtlodenfdcckemaaDoorH23
import Derived.Test.YtlodenfdcckemaaDoorH14
import Derived.Deep.RegionHeld3
/-
  The walk of the document's examples.
-/

namespace Go.Proofs.YtlodenfdcckemaaDoor
open Go.RowKit

theorem ints_at {w : World} {N : Nat} {zs : List Int} {L : List Value} (h : Blk w N 3 L) (hL : L = ints zs) : IntsAt w w.heap.size (some ⟨N, 0, none⟩) zs := by
  intro _
  refine ⟨N, 0, rfl, h.lt, fun i hi => ?_⟩
  subst hL
  rw [Nat.zero_add, h.cell (by simpa using hi) undef]
  simp [hi]

theorem lists_at {w : World} {N : Nat} {cs : List (List Int)} {L : List Value} (h : Blk w N 24 L) (hl : L.length = cs.length) (hL : ∀ i, i < cs.length → ∃ A C, L.getD i undef = .slice A (cs.getD i []).length C ∧ IntsAt w w.heap.size A (cs.getD i [])) : ListsAt w w.heap.size (some ⟨N, 0, none⟩) cs := by
  intro _
  refine ⟨N, 0, rfl, h.lt, fun i hi => ?_⟩
  obtain ⟨A, C, h1, h2⟩ := hL i hi
  exact ⟨A, C, by rw [Nat.zero_add, h.cell (by omega) undef, h1], h2⟩

set_option maxRecDepth 100000 in
set_option maxHeartbeats 4000000 in
theorem known_any (w : World) (hT : Tab w) (hw0 : 0 < w.heap.size) : Calls Tryd.prog 25 #[] w fun e w' => e = .returned (.bool true) ∧ Below w.heap.size w w' := by
  go_enter Tryd.func25, Tryd.ntmps25
  go_wp2_with fail
  have b1 := alloc_below w (.cells #[.int .i64 1, .int .i64 2] 3)
  have B1 : Blk (w.alloc (.cells #[.int .i64 1, .int .i64 2] 3)) w.heap.size 3 [.int .i64 1, .int .i64 2] := blk_new w [.int .i64 1, .int .i64 2] 3
  have s1 := alloc_size w (.cells #[.int .i64 1, .int .i64 2] 3)
  generalize w.alloc (.cells #[.int .i64 1, .int .i64 2] 3) = a1 at *
  have b2 := alloc_below a1 (.cells #[.int .i64 1, .int .i64 (-2)] 3)
  have B2 : Blk (a1.alloc (.cells #[.int .i64 1, .int .i64 (-2)] 3)) a1.heap.size 3 [.int .i64 1, .int .i64 (-2)] := blk_new a1 [.int .i64 1, .int .i64 (-2)] 3
  have s2 := alloc_size a1 (.cells #[.int .i64 1, .int .i64 (-2)] 3)
  replace B1 := B1.below' b2
  generalize a1.alloc (.cells #[.int .i64 1, .int .i64 (-2)] 3) = a2 at *
  have b3 := alloc_below a2 (.cells #[.int .i64 (-1), .int .i64 2] 3)
  have B3 : Blk (a2.alloc (.cells #[.int .i64 (-1), .int .i64 2] 3)) a2.heap.size 3 [.int .i64 (-1), .int .i64 2] := blk_new a2 [.int .i64 (-1), .int .i64 2] 3
  have s3 := alloc_size a2 (.cells #[.int .i64 (-1), .int .i64 2] 3)
  replace B1 := B1.below' b3
  replace B2 := B2.below' b3
  generalize a2.alloc (.cells #[.int .i64 (-1), .int .i64 2] 3) = a3 at *
  have b4 := alloc_below a3 (.cells #[.int .i64 (-1), .int .i64 (-2)] 3)
  have B4 : Blk (a3.alloc (.cells #[.int .i64 (-1), .int .i64 (-2)] 3)) a3.heap.size 3 [.int .i64 (-1), .int .i64 (-2)] := blk_new a3 [.int .i64 (-1), .int .i64 (-2)] 3
  have s4 := alloc_size a3 (.cells #[.int .i64 (-1), .int .i64 (-2)] 3)
  replace B1 := B1.below' b4
  replace B2 := B2.below' b4
  replace B3 := B3.below' b4
  generalize a3.alloc (.cells #[.int .i64 (-1), .int .i64 (-2)] 3) = a4 at *
  have b5 := alloc_below a4 (.cells #[.slice (some ⟨w.heap.size, 0, none⟩) 2 2, .slice (some ⟨w.heap.size + 1, 0, none⟩) 2 2, .slice (some ⟨w.heap.size + 1 + 1, 0, none⟩) 2 2, .slice (some ⟨w.heap.size + 1 + 1 + 1, 0, none⟩) 2 2] 24)
  have B5 : Blk (a4.alloc (.cells #[.slice (some ⟨w.heap.size, 0, none⟩) 2 2, .slice (some ⟨w.heap.size + 1, 0, none⟩) 2 2, .slice (some ⟨w.heap.size + 1 + 1, 0, none⟩) 2 2, .slice (some ⟨w.heap.size + 1 + 1 + 1, 0, none⟩) 2 2] 24)) a4.heap.size 24 [.slice (some ⟨w.heap.size, 0, none⟩) 2 2, .slice (some ⟨w.heap.size + 1, 0, none⟩) 2 2, .slice (some ⟨w.heap.size + 1 + 1, 0, none⟩) 2 2, .slice (some ⟨w.heap.size + 1 + 1 + 1, 0, none⟩) 2 2] := blk_new a4 [.slice (some ⟨w.heap.size, 0, none⟩) 2 2, .slice (some ⟨w.heap.size + 1, 0, none⟩) 2 2, .slice (some ⟨w.heap.size + 1 + 1, 0, none⟩) 2 2, .slice (some ⟨w.heap.size + 1 + 1 + 1, 0, none⟩) 2 2] 24
  have s5 := alloc_size a4 (.cells #[.slice (some ⟨w.heap.size, 0, none⟩) 2 2, .slice (some ⟨w.heap.size + 1, 0, none⟩) 2 2, .slice (some ⟨w.heap.size + 1 + 1, 0, none⟩) 2 2, .slice (some ⟨w.heap.size + 1 + 1 + 1, 0, none⟩) 2 2] 24)
  replace B1 := B1.below' b5
  replace B2 := B2.below' b5
  replace B3 := B3.below' b5
  replace B4 := B4.below' b5
  generalize a4.alloc (.cells #[.slice (some ⟨w.heap.size, 0, none⟩) 2 2, .slice (some ⟨w.heap.size + 1, 0, none⟩) 2 2, .slice (some ⟨w.heap.size + 1 + 1, 0, none⟩) 2 2, .slice (some ⟨w.heap.size + 1 + 1 + 1, 0, none⟩) 2 2] 24) = a5 at *
  have b6 := alloc_below a5 (.cells #[.int .i64 2, .slice (some ⟨w.heap.size + 1 + 1 + 1 + 1, 0, none⟩) 4 4] 31)
  have B6 : Blk (a5.alloc (.cells #[.int .i64 2, .slice (some ⟨w.heap.size + 1 + 1 + 1 + 1, 0, none⟩) 4 4] 31)) a5.heap.size 31 [.int .i64 2, .slice (some ⟨w.heap.size + 1 + 1 + 1 + 1, 0, none⟩) 4 4] := blk_new a5 [.int .i64 2, .slice (some ⟨w.heap.size + 1 + 1 + 1 + 1, 0, none⟩) 4 4] 31
  have s6 := alloc_size a5 (.cells #[.int .i64 2, .slice (some ⟨w.heap.size + 1 + 1 + 1 + 1, 0, none⟩) 4 4] 31)
  replace B1 := B1.below' b6
  replace B2 := B2.below' b6
  replace B3 := B3.below' b6
  replace B4 := B4.below' b6
  replace B5 := B5.below' b6
  generalize a5.alloc (.cells #[.int .i64 2, .slice (some ⟨w.heap.size + 1 + 1 + 1 + 1, 0, none⟩) 4 4] 31) = a6 at *
  have b7 := alloc_below a6 (.cells #[.int .i64 1] 3)
  have B7 : Blk (a6.alloc (.cells #[.int .i64 1] 3)) a6.heap.size 3 [.int .i64 1] := blk_new a6 [.int .i64 1] 3
  have s7 := alloc_size a6 (.cells #[.int .i64 1] 3)
  replace B1 := B1.below' b7
  replace B2 := B2.below' b7
  replace B3 := B3.below' b7
  replace B4 := B4.below' b7
  replace B5 := B5.below' b7
  replace B6 := B6.below' b7
  generalize a6.alloc (.cells #[.int .i64 1] 3) = a7 at *
  have b8 := alloc_below a7 (.cells #[] 3)
  have B8 : Blk (a7.alloc (.cells #[] 3)) a7.heap.size 3 [] := blk_new a7 [] 3
  have s8 := alloc_size a7 (.cells #[] 3)
  replace B1 := B1.below' b8
  replace B2 := B2.below' b8
  replace B3 := B3.below' b8
  replace B4 := B4.below' b8
  replace B5 := B5.below' b8
  replace B6 := B6.below' b8
  replace B7 := B7.below' b8
  generalize a7.alloc (.cells #[] 3) = a8 at *
  have b9 := alloc_below a8 (.cells #[.slice (some ⟨w.heap.size + 1 + 1 + 1 + 1 + 1 + 1, 0, none⟩) 1 1, .slice (some ⟨w.heap.size + 1 + 1 + 1 + 1 + 1 + 1 + 1, 0, none⟩) 0 0] 24)
  have B9 : Blk (a8.alloc (.cells #[.slice (some ⟨w.heap.size + 1 + 1 + 1 + 1 + 1 + 1, 0, none⟩) 1 1, .slice (some ⟨w.heap.size + 1 + 1 + 1 + 1 + 1 + 1 + 1, 0, none⟩) 0 0] 24)) a8.heap.size 24 [.slice (some ⟨w.heap.size + 1 + 1 + 1 + 1 + 1 + 1, 0, none⟩) 1 1, .slice (some ⟨w.heap.size + 1 + 1 + 1 + 1 + 1 + 1 + 1, 0, none⟩) 0 0] := blk_new a8 [.slice (some ⟨w.heap.size + 1 + 1 + 1 + 1 + 1 + 1, 0, none⟩) 1 1, .slice (some ⟨w.heap.size + 1 + 1 + 1 + 1 + 1 + 1 + 1, 0, none⟩) 0 0] 24
  have s9 := alloc_size a8 (.cells #[.slice (some ⟨w.heap.size + 1 + 1 + 1 + 1 + 1 + 1, 0, none⟩) 1 1, .slice (some ⟨w.heap.size + 1 + 1 + 1 + 1 + 1 + 1 + 1, 0, none⟩) 0 0] 24)
  replace B1 := B1.below' b9
  replace B2 := B2.below' b9
  replace B3 := B3.below' b9
  replace B4 := B4.below' b9
  replace B5 := B5.below' b9
  replace B6 := B6.below' b9
  replace B7 := B7.below' b9
  replace B8 := B8.below' b9
  generalize a8.alloc (.cells #[.slice (some ⟨w.heap.size + 1 + 1 + 1 + 1 + 1 + 1, 0, none⟩) 1 1, .slice (some ⟨w.heap.size + 1 + 1 + 1 + 1 + 1 + 1 + 1, 0, none⟩) 0 0] 24) = a9 at *
  have e1 : a1.heap.size = w.heap.size + 1 := s1
  have e2 : a2.heap.size = w.heap.size + 1 + 1 := by omega
  have e3 : a3.heap.size = w.heap.size + 1 + 1 + 1 := by omega
  have e4 : a4.heap.size = w.heap.size + 1 + 1 + 1 + 1 := by omega
  have e5 : a5.heap.size = w.heap.size + 1 + 1 + 1 + 1 + 1 := by omega
  have e6 : a6.heap.size = w.heap.size + 1 + 1 + 1 + 1 + 1 + 1 := by omega
  have e7 : a7.heap.size = w.heap.size + 1 + 1 + 1 + 1 + 1 + 1 + 1 := by omega
  have e8 : a8.heap.size = w.heap.size + 1 + 1 + 1 + 1 + 1 + 1 + 1 + 1 := by omega
  rw [e1] at B2
  rw [e2] at B3
  rw [e3] at B4
  rw [e4] at B5
  rw [e5] at B6
  rw [e6] at B7
  rw [e7] at B8
  rw [e8] at B9
  have hb9 : Below w.heap.size w a9 := by
    refine b1.trans ((b2.mono (by omega)).trans ((b3.mono (by omega)).trans ((b4.mono (by omega)).trans ((b5.mono (by omega)).trans ((b6.mono (by omega)).trans ((b7.mono (by omega)).trans ((b8.mono (by omega)).trans (b9.mono (by omega)))))))))
  have hc9 : ListsAt a9 a9.heap.size (some ⟨w.heap.size + 1 + 1 + 1 + 1, 0, none⟩) ex4 := lists_at B5 rfl (fun i hi => by
    match i, hi with
    | 0, _ => exact ⟨_, _, rfl, ints_at B1 rfl⟩
    | 1, _ => exact ⟨_, _, rfl, ints_at B2 rfl⟩
    | 2, _ => exact ⟨_, _, rfl, ints_at B3 rfl⟩
    | 3, _ => exact ⟨_, _, rfl, ints_at B4 rfl⟩
    | n + 4, h => exact absurd h (by simp [ex4]))
  have hp9 : ListsAt a9 a9.heap.size (some ⟨w.heap.size + 1 + 1 + 1 + 1 + 1 + 1 + 1 + 1, 0, none⟩) [[1], []] := lists_at B9 rfl (fun i hi => by
    match i, hi with
    | 0, _ => exact ⟨_, _, rfl, ints_at B7 rfl⟩
    | 1, _ => exact ⟨_, _, rfl, fun h => absurd rfl h⟩
    | n + 2, h => exact absurd h (by simp))
  have c1 := check_good 2 (some ⟨w.heap.size + 1 + 1 + 1 + 1, 0, none⟩) (some ⟨w.heap.size + 1 + 1 + 1 + 1 + 1 + 1 + 1 + 1, 0, none⟩) 4 2 ex4 [[1], []] a9 hc9 hp9 ex4_good ex4_fault (by simp)
  rw [ex4_check] at c1
  refine c1.mono ?_
  rintro e u1 ⟨rfl, hu1⟩
  have hbu : Below w.heap.size w u1 := hb9.trans (hu1.mono hb9.size)
  have hcu := (hc9.below hu1 (Nat.le_refl _)).mono hu1.size
  have F1 := B6.below' hu1
  have hsu := hbu.size
  clear B1 B2 B3 B4 B5 B6 B7 B8 B9 b1 b2 b3 b4 b5 b6 b7 b8 b9 s1 s2 s3 s4 s5 s6 s7 s8 s9 e1 e2 e3 e4 e5 e6 e7 e8 hc9 hp9 c1 hb9 hu1
  generalize hN5 : w.heap.size + 1 + 1 + 1 + 1 + 1 = N5 at *
  generalize hN4 : w.heap.size + 1 + 1 + 1 + 1 = N4 at *
  have f0 : u1.cell? ⟨N5, 0, none⟩ = some (.int .i64 2) := F1.cell (i := 0) (by simp) undef
  have f1 : u1.cell? ⟨N5, 1, none⟩ = some (.slice (some ⟨N4, 0, none⟩) 4 4) := F1.cell (i := 1) (by simp) undef
  have hN5l := F1.lt
  clear hN5 hN4
  go_wp2_with fail
  have b1 := alloc_below u1 (.cells #[] 3)
  have s1 := alloc_size u1 (.cells #[] 3)
  generalize u1.alloc (.cells #[] 3) = v1 at *
  have b2 := alloc_below v1 (.cells #[.slice (some ⟨u1.heap.size, 0, none⟩) 0 0] 24)
  have B2 : Blk (v1.alloc (.cells #[.slice (some ⟨u1.heap.size, 0, none⟩) 0 0] 24)) v1.heap.size 24 [.slice (some ⟨u1.heap.size, 0, none⟩) 0 0] := blk_new v1 [.slice (some ⟨u1.heap.size, 0, none⟩) 0 0] 24
  have s2 := alloc_size v1 (.cells #[.slice (some ⟨u1.heap.size, 0, none⟩) 0 0] 24)
  generalize v1.alloc (.cells #[.slice (some ⟨u1.heap.size, 0, none⟩) 0 0] 24) = v2 at *
  rw [s1] at B2
  have hv2 : Below u1.heap.size u1 v2 := b1.trans (b2.mono (by omega))
  have hc2 := (hcu.below hv2 (Nat.le_refl _)).mono hv2.size
  have hp2 : ListsAt v2 v2.heap.size (some ⟨u1.heap.size + 1, 0, none⟩) [[]] := lists_at B2 rfl (fun i hi => by
    match i, hi with
    | 0, _ => exact ⟨_, _, rfl, fun h => absurd rfl h⟩
    | n + 1, h => exact absurd h (by simp))
  have c1 := check_good 2 (some ⟨N4, 0, none⟩) (some ⟨u1.heap.size + 1, 0, none⟩) 4 1 ex4 [[]] v2 hc2 hp2 ex4_good ex4_fault (by simp)
  rw [ex4_check0] at c1
  refine c1.mono ?_
  rintro e u2 ⟨rfl, hu2⟩
  have hbu2 : Below w.heap.size w u2 := hbu.trans ((hv2.mono hsu).trans (hu2.mono (by have := hv2.size; omega)))
  clear c1 hp2 hc2 hv2 b1 b2 B2 s1 s2 hcu F1 f0 f1 hu2 hbu hsu hN5l
  go_wp2_with fail
  have d1 := alloc_below u2 (.cells #[.int .i64 1, .int .i64 (-2)] 3)
  have D1 : Blk (u2.alloc (.cells #[.int .i64 1, .int .i64 (-2)] 3)) u2.heap.size 3 [.int .i64 1, .int .i64 (-2)] := blk_new u2 [.int .i64 1, .int .i64 (-2)] 3
  have t1 := alloc_size u2 (.cells #[.int .i64 1, .int .i64 (-2)] 3)
  generalize u2.alloc (.cells #[.int .i64 1, .int .i64 (-2)] 3) = x1 at *
  have d2 := alloc_below x1 (.cells #[.int .i64 2] 3)
  have D2 : Blk (x1.alloc (.cells #[.int .i64 2] 3)) x1.heap.size 3 [.int .i64 2] := blk_new x1 [.int .i64 2] 3
  have t2 := alloc_size x1 (.cells #[.int .i64 2] 3)
  replace D1 := D1.below' d2
  generalize x1.alloc (.cells #[.int .i64 2] 3) = x2 at *
  have d3 := alloc_below x2 (.cells #[.slice (some ⟨u2.heap.size, 0, none⟩) 2 2, .slice (some ⟨u2.heap.size + 1, 0, none⟩) 1 1] 24)
  have D3 : Blk (x2.alloc (.cells #[.slice (some ⟨u2.heap.size, 0, none⟩) 2 2, .slice (some ⟨u2.heap.size + 1, 0, none⟩) 1 1] 24)) x2.heap.size 24 [.slice (some ⟨u2.heap.size, 0, none⟩) 2 2, .slice (some ⟨u2.heap.size + 1, 0, none⟩) 1 1] := blk_new x2 [.slice (some ⟨u2.heap.size, 0, none⟩) 2 2, .slice (some ⟨u2.heap.size + 1, 0, none⟩) 1 1] 24
  replace D1 := D1.below' d3
  replace D2 := D2.below' d3
  generalize x2.alloc (.cells #[.slice (some ⟨u2.heap.size, 0, none⟩) 2 2, .slice (some ⟨u2.heap.size + 1, 0, none⟩) 1 1] 24) = x3 at *
  have t2' : x2.heap.size = u2.heap.size + 1 + 1 := by omega
  rw [t1] at D2
  rw [t2'] at D3
  have hx3 : Below u2.heap.size u2 x3 := d1.trans ((d2.mono (by omega)).trans (d3.mono (by omega)))
  have hbx : Below w.heap.size w x3 := hbu2.trans (hx3.mono hbu2.size)
  have hc3 : ListsAt x3 x3.heap.size (some ⟨u2.heap.size + 1 + 1, 0, none⟩) ex3 := lists_at D3 rfl (fun i hi => by
    match i, hi with
    | 0, _ => exact ⟨_, _, rfl, ints_at D1 rfl⟩
    | 1, _ => exact ⟨_, _, rfl, ints_at D2 rfl⟩
    | n + 2, h => exact absurd h (by simp [ex3]))
  have c2 := propagate_all 2 (some ⟨u2.heap.size + 1 + 1, 0, none⟩) none 2 0 ex3 [] x3 hc3 (fun h => absurd rfl h) ex3_good ex3_fault (by simp) (hT.below hbx hw0) (Nat.lt_of_lt_of_le hw0 hbx.size)
  refine c2.mono ?_
  rintro e u3 ⟨v, zs, c, x, rfl, hO, hP, hu3⟩
  obtain ⟨rfl, rfl, rfl⟩ := hP.same ex3_prop
  obtain ⟨g, gc, hv, hgl, hcells⟩ := hO.at (by simp)
  simp only [List.length_map, List.length_cons, List.length_nil] at hv
  have g0 : u3.cell? ⟨g, 0, none⟩ = some (.int .i64 1) := hcells 0 (by simp)
  have g1 : u3.cell? ⟨g, 1, none⟩ = some (.int .i64 2) := hcells 1 (by simp)
  subst hv
  have HB : Hid (Below w.heap.size w u3) := hbx.trans (hu3.mono hbx.size)
  clear c2 hc3 hP hO hcells D1 D2 D3 d1 d2 d3 hx3 hbx
  go_wp2
  go_ret
  exact ⟨rfl, HB.out⟩
end Go.Proofs.YtlodenfdcckemaaDoor

/-
  The walks of the functions that hand lists in with spare room, and look whether it was kept.
-/

namespace Go.Proofs.YtlodenfdcckemaaDoor
open Go.RowKit

def mark (zs : List Int) (k : Nat) : List Value := (zs ++ (List.replicate k 77 ++ List.replicate (4 - k) 0)).map (Value.int .i64)

theorem mark_set (zs : List Int) (k : Nat) (hk : k < 4) : (mark zs k).set (zs.length + k) (.int .i64 77) = mark zs (k + 1) := by
  unfold mark
  rw [← List.map_set]
  congr 1
  rw [List.set_append_right _ _ (by omega)]
  congr 1
  have : k = 0 ∨ k = 1 ∨ k = 2 ∨ k = 3 := by omega
  rw [show zs.length + k - zs.length = k by omega]
  rcases this with rfl | rfl | rfl | rfl <;> rfl

theorem mark_four (zs : List Int) : mark zs 4 = (zs ++ [77, 77, 77, 77]).map (Value.int .i64) := rfl

theorem mark_zero (zs : List Int) : splice (List.replicate (zs.length + 4) (Value.int .i64 0)) 0 (zs.map (Value.int .i64)) = mark zs 0 := by
  unfold splice mark
  simp [List.drop_replicate]

theorem mark_length (zs : List Int) (k : Nat) (hk : k ≤ 4) : (mark zs k).length = zs.length + 4 := by unfold mark; simp; omega

set_option maxHeartbeats 400000 in
theorem numbers_any (ao : Option Addr) (cap : Nat) (zs : List Int) (w : World) (hc : IntsAt w w.heap.size ao zs) (hl : zs.length * 8 ≤ 140737488351232) :
    Calls Tryd.prog 12 #[.slice ao zs.length cap] w fun e w' => e = .returned (.slice (some ⟨w.heap.size, 0, none⟩) zs.length (zs.length + 4)) ∧
      Blk w' w.heap.size 3 ((zs ++ [77, 77, 77, 77]).map (Value.int .i64)) ∧ Below w.heap.size w w' := by
  have hsz3 : (Tryd.prog.info? 3).map (·.size) = some 1 := by kernel_rfl
  obtain ⟨cl, hcl⟩ : ∃ cl, cl = zs.map (Value.int .i64) := ⟨_, rfl⟩
  have hlen : cl.length = zs.length := by rw [hcl]; simp
  have hone : ∀ v ∈ cl, v.oneCell' = true := by rw [hcl]; exact ints_one zs
  have hsp : splice (List.replicate (zs.length + 4) (Value.int .i64 0)) 0 cl = mark zs 0 := by rw [hcl]; exact mark_zero zs
  have hsrc : ∀ w1, Below w.heap.size w w1 → 0 < cl.length → ∃ ad, ao = some ad ∧ ∀ j v, cl[j]? = some v → w1.cell? (ad.add j) = some v := by
    intro w1 hb1 hp
    rw [hcl]
    exact (hc.below hb1 (Nat.le_refl _)).src (by omega)
  have HL : Hid (cl.length = zs.length) := hlen
  have H1 : Hid (∀ v ∈ cl, v.oneCell' = true) := hone
  have HS : Hid _ := hsrc
  have HP : Hid _ := hsp
  clear hcl hlen hc hone hsrc hsp
  go_enter Tryd.func12, Tryd.ntmps12
  go_wp2_with (first
    | (at_make; refine wpList_make_blk _ rfl (.tmp 7) (.tmp 7) 24 rfl 3 (.int .i64 0) 8 Tryd.underlying24 Tryd.info3 rfl .i64 .i64 (zs.length + 4) _ _ rfl rfl (by omega) (by omega) (by omega) (by omega) ?_; intro w1 hB1 hb1 hs1)
    | (refine wpList_copy_lit (.tmp 9) (.tmp 10) 24 24 3 Tryd.underlying24 hsz3 w.heap.size _ _ _ _ _ rfl rfl (List.replicate (zs.length + 4) (.int .i64 0)) 3 hB1 cl (by have := HL.out; simp; omega) (HS.out _ hb1) (by have := HL.out; simp; omega) H1.out w.heap.size w hb1 (Nat.le_refl _) ?_; rw [HP.out]; clear hB1 hs1 hb1; intro w2 hB2 hb2))
  clear HS HP H1 hsz3
  go_loopw [4] (fun i wr => ∃ (k : Nat), k ≤ 4 ∧ i = .int .i64 k ∧ Blk wr w.heap.size 3 (mark zs k) ∧ Below w.heap.size w wr) (fun i _ => 4 - (intOf i).toNat)
  case atStart => exact ⟨0, by omega, rfl, hB2, hb2⟩
  case round =>
    obtain ⟨k, hk, rfl, hB, hb⟩ := hrel
    by_cases hlt : k < 4
    · have hset := (hB.set (zs.length + k) (.int .i64 77))
      rw [mark_set _ _ hlt] at hset
      have hcell := hB.cell (i := zs.length + k) (by rw [mark_length _ _ hk]; omega) undef
      have hfr := hB.frozen (zs.length + k)
      have HB : Hid _ := hset
      obtain ⟨old, hold⟩ : ∃ x, x = (mark zs k).getD (zs.length + k) undef := ⟨_, rfl⟩
      rw [← hold] at hcell
      clear hset hold hB hB2 hb2
      go_wp2
      go_roundw
      case rel => exact ⟨k + 1, by omega, by go_num, HB.out, hb.setCell (Nat.le_refl _) _⟩
      case measure => simp [intOf]; omega
    · obtain rfl : k = 4 := by omega
      go_wp2
      go_ret
      exact ⟨rfl, hB, hb⟩

theorem marked_low (zs : List Int) (k : Nat) (h : k < zs.length) : ((zs ++ [77, 77, 77, 77]).map (Value.int .i64)).getD k undef = .int .i64 (zs.getD k 0) := by
  simp [h, List.getElem?_append]
theorem marked_high (zs : List Int) (k : Nat) (h : zs.length ≤ k) (h2 : k < zs.length + 4) : ((zs ++ [77, 77, 77, 77]).map (Value.int .i64)).getD k undef = .int .i64 77 := by
  obtain ⟨j, rfl⟩ : ∃ j, k = zs.length + j := ⟨k - zs.length, by omega⟩
  have : j = 0 ∨ j = 1 ∨ j = 2 ∨ j = 3 := by omega
  rcases this with rfl | rfl | rfl | rfl <;> simp

set_option maxHeartbeats 400000 in
theorem kept_any (g : Nat) (ao : Option Addr) (cap : Nat) (zs : List Int) (w : World) (hB : Blk w g 3 ((zs ++ [77, 77, 77, 77]).map (Value.int .i64))) (hc : IntsAt w w.heap.size ao zs) (hl : zs.length * 8 ≤ 140737488351232) :
    Calls Tryd.prog 19 #[.slice (some ⟨g, 0, none⟩) zs.length (zs.length + 4), .slice ao zs.length cap] w fun e w' => e = .returned (.bool true) ∧ Below w.heap.size w w' := by
  have hg := hB.lt
  go_enter Tryd.func19, Tryd.ntmps19
  go_wp2
  go_loopw [6] (fun i wr => ∃ (k : Nat), k ≤ zs.length + 4 ∧ i = .int .i64 k ∧ Below w.heap.size w wr) (fun i _ => zs.length + 4 - (intOf i).toNat)
  case atStart => exact ⟨0, by omega, rfl, Below.refl _ _⟩
  case round =>
    obtain ⟨k, hk, rfl, hb⟩ := hrel
    by_cases hlt : k < zs.length + 4
    · have hcell := (hb.cell (p := ⟨g, k, none⟩) hg).trans (hB.cell (i := k) (by simp; omega) undef)
      by_cases hz : k < zs.length
      · rw [marked_low _ _ hz] at hcell
        obtain ⟨b, o, rfl, hbl, hcc⟩ := hc (by intro h; rw [h] at hz; simp at hz)
        have hcell2 := (hb.cell (p := ⟨b, o + k, none⟩) hbl).trans (hcc k hz)
        obtain ⟨x, hx⟩ : ∃ x, x = zs.getD k 0 := ⟨_, rfl⟩
        rw [← hx] at hcell hcell2
        clear hx hcc
        have ht1 : decide (k < zs.length) = true := by simp; omega
        have ht2 : decide (zs.length ≤ k) = false := by simp; omega
        have hne : (x != x) = false := by simp
        go_wp2
        go_quiet (fail)
        go_wp2
        go_roundw
        case rel => exact ⟨k + 1, by omega, by go_num, below_drewN hb _⟩
        case measure => simp [intOf]; omega
      · rw [marked_high _ _ (by omega) hlt] at hcell
        have ht1 : decide (k < zs.length) = false := by simp; omega
        have ht2 : decide (zs.length ≤ k) = true := by simp; omega
        go_wp2
        go_quiet (fail)
        go_wp2
        go_roundw
        case rel => exact ⟨k + 1, by omega, by go_num, below_drewN hb _⟩
        case measure => simp [intOf]; omega
    · go_wp2
      go_ret
      exact ⟨rfl, hb⟩
end Go.Proofs.YtlodenfdcckemaaDoor

/-
  The walks of the functions that hand formulas in with spare room, and look whether it was kept.
-/

namespace Go.Proofs.YtlodenfdcckemaaDoor
open Go.RowKit

/-- A list with its spare room, as cells. -/
def marked (c : List Int) : List Value := (c ++ [77, 77, 77, 77]).map (Value.int .i64)

/-- Cell i of a list of lists with spare room; the list lies at block gi. -/
def handCell (cs : List (List Int)) (i gi : Nat) : Value := .slice (some ⟨gi, 0, none⟩) (cs.getD i []).length ((cs.getD i []).length + 4)

/-- The lists cs lie at block g with spare room, the first k of them and of the room. -/
def HandedTo (w : World) (B g : Nat) (cs : List (List Int)) (k : Nat) : Prop :=
  g < B ∧ ∃ L, Blk w g 24 L ∧ L.length = cs.length + 4 ∧ ∀ i, i < k → ∃ gi, L.getD i undef = handCell cs i gi ∧ g < gi ∧ gi < B ∧ Blk w gi 3 (marked (cs.getD i []))

def Handed (w : World) (B g : Nat) (cs : List (List Int)) : Prop := HandedTo w B g cs (cs.length + 4)

theorem HandedTo.below {w w' : World} {B B' g k : Nat} {cs : List (List Int)} (h : HandedTo w B g cs k) (hb : Below B' w w') (hB : B ≤ B') : HandedTo w' B g cs k := by
  obtain ⟨hg, L, h1, h2, h3⟩ := h
  refine ⟨hg, L, h1.below hb (by omega), h2, fun i hi => ?_⟩
  obtain ⟨gi, e1, e0, e2, e3⟩ := h3 i hi
  exact ⟨gi, e1, e0, e2, e3.below hb (by omega)⟩

theorem HandedTo.mono {w : World} {B B' g k : Nat} {cs : List (List Int)} (h : HandedTo w B g cs k) (hB : B ≤ B') : HandedTo w B' g cs k := by
  obtain ⟨hg, L, h1, h2, h3⟩ := h
  refine ⟨by omega, L, h1, h2, fun i hi => ?_⟩
  obtain ⟨gi, e1, e0, e2, e3⟩ := h3 i hi
  exact ⟨gi, e1, e0, by omega, e3⟩

theorem HandedTo.step {w : World} {B g k gi : Nat} {cs : List (List Int)} (h : HandedTo w B g cs k) (hk : k < cs.length + 4) (hgi : g < gi) (hB : gi < B) (hb : Blk w gi 3 (marked (cs.getD k []))) :
    HandedTo (w.setCell ⟨g, k, none⟩ (handCell cs k gi)) B g cs (k + 1) := by
  obtain ⟨hg, L, h1, h2, h3⟩ := h
  refine ⟨hg, _, h1.set k _, by simp [h2], fun i hi => ?_⟩
  by_cases e : i = k
  · subst e
    refine ⟨gi, ?_, hgi, hB, hb.setOther (by simp; omega) _⟩
    simp [h2, hk]
  · obtain ⟨gj, e1, e0, e2, e3⟩ := h3 i (by omega)
    refine ⟨gj, ?_, e0, e2, e3.setOther (by simp; omega) _⟩
    rw [← e1]
    simp [Ne.symm e]

theorem HandedTo.start {w' : World} {g : Nat} {cs : List (List Int)} (h : Blk w' g 24 (List.replicate (cs.length + 4) (.slice none 0 0))) : HandedTo w' w'.heap.size g cs 0 :=
  ⟨h.lt, _, h, by simp, fun i hi => by omega⟩

theorem HandedTo.room {w : World} {B g k : Nat} {cs : List (List Int)} (h : HandedTo w B g cs k) {i : Nat} (hi : i < cs.length + 4) : (∃ old, w.cell? ⟨g, i, none⟩ = some old) ∧ w.frozen? ⟨g, i, none⟩ = false := by
  obtain ⟨hg, L, h1, h2, h3⟩ := h
  exact ⟨⟨_, h1.cell (by omega) undef⟩, h1.frozen i⟩

theorem marked_length (c : List Int) : (marked c).length = c.length + 4 := by simp [marked]

theorem Handed.lists {w : World} {B g : Nat} {cs : List (List Int)} (h : Handed w B g cs) : ListsAt w B (some ⟨g, 0, none⟩) cs := by
  intro _
  obtain ⟨hg, L, h1, h2, h3⟩ := h
  refine ⟨g, 0, rfl, hg, fun i hi => ?_⟩
  obtain ⟨gi, e1, _, e2, e3⟩ := h3 i (by omega)
  refine ⟨some ⟨gi, 0, none⟩, (cs.getD i []).length + 4, ?_, fun _ => ⟨gi, 0, rfl, e2, fun j hj => ?_⟩⟩
  · rw [Nat.zero_add, h1.cell (by omega) undef, e1]; rfl
  · rw [Nat.zero_add, e3.cell (by rw [marked_length]; omega) undef, marked, marked_low _ _ hj]

theorem ints_none (w : World) (B : Nat) : IntsAt w B none [] := fun h => absurd rfl h

set_option maxHeartbeats 400000 in
theorem lists_any (ao : Option Addr) (cap : Nat) (cs : List (List Int)) (w : World) (hc : ListsAt w w.heap.size ao cs) (hl : cs.length * 24 ≤ 140737488351232) (hin : ∀ c ∈ cs, c.length * 8 ≤ 140737488351232) :
    Calls Tryd.prog 41 #[.slice ao cs.length cap] w fun e w' => e = .returned (.slice (some ⟨w.heap.size, 0, none⟩) cs.length (cs.length + 4)) ∧
      Handed w' w'.heap.size w.heap.size cs ∧ Below w.heap.size w w' := by
  have HN : Hid _ := hin
  clear hin
  go_enter Tryd.func41, Tryd.ntmps41
  go_wp2_with (first
    | (at_make; refine wpList_make_blk _ rfl (.tmp 7) (.tmp 7) 23 rfl 24 (.slice none 0 0) 24 Tryd.underlying23 Tryd.info24 rfl .i64 .i64 (cs.length + 4) _ _ rfl rfl (by omega) (by omega) (by omega) (by omega) ?_; intro w1 hB1 hb1 hs1))
  go_loopw [4] (fun i wr => ∃ (k : Nat), k ≤ cs.length + 4 ∧ i = .int .i64 k ∧ HandedTo wr wr.heap.size w.heap.size cs k ∧ Below w.heap.size w wr) (fun i _ => cs.length + 4 - (intOf i).toNat)
  case atStart => exact ⟨0, by omega, rfl, HandedTo.start hB1, hb1⟩
  case round =>
    clear hB1 hs1 hb1
    obtain ⟨k, hk, rfl, hH, hb⟩ := hrel
    by_cases hlt : k < cs.length + 4
    · by_cases hz : k < cs.length
      · obtain ⟨b, o, rfl, hbl, hcc⟩ := hc (by intro h; rw [h] at hz; simp at hz)
        obtain ⟨A, C, hck, hci⟩ := hcc k hz
        replace hck := (hb.cell (p := ⟨b, o + k, none⟩) hbl).trans hck
        have hci2 := (hci.below hb (Nat.le_refl _)).mono hb.size
        have hlen : (cs.getD k []).length * 8 ≤ 140737488351232 := HN.out _ (by rw [getD_lt _ _ _ hz]; exact List.getElem_mem hz)
        have hcelleq : Hid (∀ gi, Value.slice (some ⟨gi, 0, none⟩) (cs.getD k []).length ((cs.getD k []).length + 4) = handCell cs k gi) := fun gi => rfl
        have hmk : Hid (∀ (w : World) (g : Nat), Blk w g 3 (((cs.getD k []) ++ [77, 77, 77, 77]).map (Value.int .i64)) → Blk w g 3 (marked (cs.getD k []))) := fun _ _ h => h
        obtain ⟨c, hx⟩ : ∃ x, x = cs.getD k [] := ⟨_, rfl⟩
        rw [← hx] at hck hci2 hlen hcelleq hmk
        have HX : Hid (c = cs.getD k []) := hx
        clear hx hci hcc
        go_wp2_with (go_at_call 12; refine (numbers_any A C c _ hci2 hlen).mono ?_; rintro e w2 ⟨rfl, hBn, hbn⟩; have hH2 := hH.below hbn (Nat.le_refl _); obtain ⟨⟨old, hold⟩, hfr⟩ := hH2.room hlt)
        go_roundw
        case rel =>
          refine ⟨k + 1, by omega, by go_num, ?_, (hb.trans (hbn.mono hb.size)).setCell (Nat.le_refl _) _⟩
          have := (hH2.mono (B' := w2.heap.size) hbn.size).step hlt (gi := wr.heap.size) hH.1 hBn.lt (HX.out ▸ hmk.out _ _ hBn)
          rw [hcelleq.out]
          simpa [World.setCell] using this
        case measure => simp [intOf]; omega
      · have hnil : cs.getD k [] = [] := by rw [List.getD_eq_getElem?_getD, List.getElem?_eq_none (by omega)]; rfl
        have HX : Hid (cs.getD k [] = []) := hnil
        have hci2 : IntsAt wr wr.heap.size none [] := ints_none _ _
        clear hnil
        go_wp2_with (go_at_call 12; refine (numbers_any none 0 [] _ hci2 (by simp)).mono ?_; rintro e w2 ⟨rfl, hBn, hbn⟩; have hH2 := hH.below hbn (Nat.le_refl _); obtain ⟨⟨old, hold⟩, hfr⟩ := hH2.room hlt)
        go_roundw
        case rel =>
          refine ⟨k + 1, by omega, by go_num, ?_, (hb.trans (hbn.mono hb.size)).setCell (Nat.le_refl _) _⟩
          have hst := (hH2.mono (B' := w2.heap.size) hbn.size).step hlt (gi := wr.heap.size) hH.1 hBn.lt (by rw [HX.out]; exact hBn)
          have e : handCell cs k wr.heap.size = .slice (some ⟨wr.heap.size, 0, none⟩) 0 4 := by rw [handCell, HX.out]; rfl
          rw [e] at hst
          simpa [World.setCell] using hst
        case measure => simp [intOf]; omega
    · obtain rfl : k = cs.length + 4 := by omega
      go_wp2
      go_ret
      exact ⟨rfl, hH, hb⟩

theorem HandedTo.setOther {w : World} {B g k : Nat} {cs : List (List Int)} (h : HandedTo w B g cs k) {a : Addr} (ha : a.block < g) (v : Value) : HandedTo (w.setCell a v) B g cs k := by
  obtain ⟨hg, L, h1, h2, h3⟩ := h
  refine ⟨hg, L, h1.setOther (by omega) v, h2, fun i hi => ?_⟩
  obtain ⟨gi, e1, e0, e2, e3⟩ := h3 i hi
  exact ⟨gi, e1, e0, e2, e3.setOther (by omega) v⟩

theorem handed_done {w w2 w3 : World} {cs : List (List Int)} (hsz : w2.heap.size = w.heap.size + 2) (hH : Handed w3 w3.heap.size w2.heap.size cs) (hb2 : Below w.heap.size w w2) (hb : Below w2.heap.size w2 w3) (u v : Value) (i j : Nat) :
    Handed ((w3.setCell ⟨w.heap.size + 1, i, none⟩ u).setCell ⟨w.heap.size + 1, j, none⟩ v) ((w3.setCell ⟨w.heap.size + 1, i, none⟩ u).setCell ⟨w.heap.size + 1, j, none⟩ v).heap.size w2.heap.size cs ∧
      Below w.heap.size w ((w3.setCell ⟨w.heap.size + 1, i, none⟩ u).setCell ⟨w.heap.size + 1, j, none⟩ v) := by
  constructor
  · have := (HandedTo.setOther (HandedTo.setOther hH (a := ⟨w.heap.size + 1, i, none⟩) (by simp; omega) u) (a := ⟨w.heap.size + 1, j, none⟩) (by simp; omega) v)
    unfold Handed
    simpa [World.setCell] using this
  · exact ((hb2.trans (hb.mono (by omega))).setCell (by simp) u).setCell (by simp) v

theorem later {w2 w3 : World} {N : Nat} {vars : Int} {v : Value} {L : List Value} (c0 : w2.cell? ⟨N, 0, none⟩ = some (.int .i64 vars)) (c1 : w2.cell? ⟨N, 1, none⟩ = some v) (B2 : Blk w2 (N + 1) 31 L) (hL : L.length = 2) (hb : Below w2.heap.size w2.drew w3) :
    Below w2.heap.size w2 w3 ∧ w3.cell? ⟨N, 0, none⟩ = some (.int .i64 vars) ∧ w3.cell? ⟨N, 1, none⟩ = some v ∧ (∃ x, w3.cell? ⟨N + 1, 0, none⟩ = some x) ∧ (∃ x, w3.cell? ⟨N + 1, 1, none⟩ = some x) ∧ w3.frozen? ⟨N + 1, 0, none⟩ = false ∧ w3.frozen? ⟨N + 1, 1, none⟩ = false := by
  have hb' : Below w2.heap.size w2 w3 := (Below.refl _ w2).drew.trans hb
  have hN := B2.lt
  have B3 := B2.below' hb'
  exact ⟨hb', (hb'.cell (p := ⟨N, 0, none⟩) (by simp; omega)).trans c0, (hb'.cell (p := ⟨N, 1, none⟩) (by simp; omega)).trans c1, ⟨_, B3.cell (by omega) undef⟩, ⟨_, B3.cell (by omega) undef⟩, B3.frozen 0, B3.frozen 1⟩

set_option maxHeartbeats 400000 in
theorem handed_any (vars : Int) (ao : Option Addr) (cap : Nat) (cs : List (List Int)) (w : World) (hc : ListsAt w w.heap.size ao cs) (hl : cs.length * 24 ≤ 140737488351232) (hin : ∀ c ∈ cs, c.length * 8 ≤ 140737488351232) :
    Calls Tryd.prog 11 #[.agg #[.int .i64 vars, .slice ao cs.length cap]] w fun e w' => ∃ g, e = .returned (.agg #[.int .i64 vars, .slice (some ⟨g, 0, none⟩) cs.length (cs.length + 4)]) ∧
      w.heap.size ≤ g ∧ Handed w' w'.heap.size g cs ∧ Below w.heap.size w w' := by
  have HN : Hid (∀ c ∈ cs, c.length * 8 ≤ 140737488351232) := hin
  clear hin
  go_enter Tryd.func11, Tryd.ntmps11
  go_wp2
  generalize hw2 : (w.alloc (Obj.cells #[Value.int IntKind.i64 vars, Value.slice ao cs.length cap] 31)).alloc (Obj.cells #[Value.int IntKind.i64 0, Value.slice none 0 0] 31) = w2
  have c0 : w2.cell? ⟨w.heap.size, 0, none⟩ = some (.int .i64 vars) := by rw [← hw2]; simp
  have c1 : w2.cell? ⟨w.heap.size, 1, none⟩ = some (.slice ao cs.length cap) := by rw [← hw2]; simp
  have hsz : w2.heap.size = w.heap.size + 2 := by rw [← hw2]; simp
  have hb2 : Below w.heap.size w w2 := by rw [← hw2]; exact ((Below.refl _ _).alloc (Nat.le_refl _) _).alloc (by simp) _
  have B2 : Blk w2 (w.heap.size + 1) 31 [.int .i64 0, .slice none 0 0] := by
    rw [← hw2]
    have := blk_new (w.alloc (Obj.cells #[Value.int IntKind.i64 vars, Value.slice ao cs.length cap] 31)) [.int .i64 0, .slice none 0 0] 31
    simpa using this
  clear hw2
  have hc2 := (hc.below hb2 (Nat.le_refl _)).mono hb2.size
  clear hc
  have HSZ : Hid _ := hsz
  clear hsz
  go_region_with (go_at_call 41; refine (lists_any ao cap cs _ ?_ hl HN.out).mono ?_; exact hc2; rintro e w3 ⟨rfl, hH, hb3⟩; obtain ⟨hb4, c0', c1', ⟨x0, d0⟩, ⟨x1, d1⟩, f0, f1⟩ := later c0 c1 B2 rfl hb3)
  all_goals go_wp2
  all_goals
    have hd := handed_done HSZ.out hH hb2 hb4 (.int .i64 vars) (.slice (some ⟨w2.heap.size, 0, none⟩) cs.length (cs.length + 4)) 0 1
    exact bodyPost_ret (v := .agg #[.int .i64 vars, .slice (some ⟨w2.heap.size, 0, none⟩) cs.length (cs.length + 4)]) (by simp [results, Tryd.results11, go_sem, d0, d1]) rfl ⟨_, rfl, hb2.size, hd.1, hd.2⟩
end Go.Proofs.YtlodenfdcckemaaDoor

/-
  The walk of the function that looks whether a formula that was handed in was kept.
-/

namespace Go.Proofs.YtlodenfdcckemaaDoor
open Go.RowKit

theorem Handed.cellAt {w : World} {B g : Nat} {cs : List (List Int)} (h : Handed w B g cs) {i : Nat} (hi : i < cs.length + 4) :
    ∃ gi, w.cell? ⟨g, i, none⟩ = some (.slice (some ⟨gi, 0, none⟩) (cs.getD i []).length ((cs.getD i []).length + 4)) ∧ gi < B ∧ Blk w gi 3 (marked (cs.getD i [])) := by
  obtain ⟨hg, L, h1, h2, h3⟩ := h
  obtain ⟨gi, e1, _, e2, e3⟩ := h3 i hi
  exact ⟨gi, by rw [h1.cell (by omega) undef, e1]; rfl, e2, e3⟩

set_option maxHeartbeats 400000 in
theorem keptLists_any (g : Nat) (ao : Option Addr) (cap : Nat) (cs : List (List Int)) (w : World) (hH : Handed w w.heap.size g cs) (hc : ListsAt w w.heap.size ao cs) (hl : cs.length * 24 ≤ 140737488351232) (hin : ∀ c ∈ cs, c.length * 8 ≤ 140737488351232) :
    Calls Tryd.prog 18 #[.slice (some ⟨g, 0, none⟩) cs.length (cs.length + 4), .slice ao cs.length cap] w fun e w' => e = .returned (.bool true) ∧ Below w.heap.size w w' := by
  have HN : Hid (∀ c ∈ cs, c.length * 8 ≤ 140737488351232) := hin
  clear hin
  go_enter Tryd.func18, Tryd.ntmps18
  go_wp2
  go_loopw [6] (fun i wr => ∃ (k : Nat), k ≤ cs.length + 4 ∧ i = .int .i64 k ∧ Below w.heap.size w wr) (fun i _ => cs.length + 4 - (intOf i).toNat)
  case atStart => exact ⟨0, by omega, rfl, Below.refl _ _⟩
  case round =>
    obtain ⟨k, hk, rfl, hb⟩ := hrel
    by_cases hlt : k < cs.length + 4
    · have hH1 : Handed wr w.heap.size g cs := hH.below hb (Nat.le_refl _)
      obtain ⟨gi, hcell, hgi, hBi⟩ := hH1.cellAt hlt
      by_cases hz : k < cs.length
      · obtain ⟨b, o, rfl, hbl, hcc⟩ := hc (by intro h; rw [h] at hz; simp at hz)
        obtain ⟨A, C, hck, hci⟩ := hcc k hz
        replace hck := (hb.cell (p := ⟨b, o + k, none⟩) hbl).trans hck
        have hci2 := (hci.below hb (Nat.le_refl _)).mono hb.size
        have hlen : (cs.getD k []).length * 8 ≤ 140737488351232 := HN.out _ (by rw [getD_lt _ _ _ hz]; exact List.getElem_mem hz)
        obtain ⟨c, hx⟩ : ∃ x, x = cs.getD k [] := ⟨_, rfl⟩
        rw [← hx] at hck hci2 hlen hcell hBi
        clear hx hci hcc hH1
        have hne : ((c.length : Int) != (c.length : Int)) = false := by simp
        go_wp2_with (go_at_call 19; refine (kept_any gi A C c _ hBi hci2 hlen).mono ?_; rintro e w2 ⟨rfl, hbn⟩)
        go_roundw
        case rel => exact ⟨k + 1, by omega, by go_num, hb.trans (hbn.mono hb.size)⟩
        case measure => simp [intOf]; omega
      · have hnil : cs.getD k [] = [] := by rw [List.getD_eq_getElem?_getD, List.getElem?_eq_none (by omega)]; rfl
        rw [hnil] at hcell hBi
        have hci2 : IntsAt wr wr.heap.size none [] := ints_none _ _
        clear hnil hH1
        simp only [List.length_nil, Nat.zero_add] at hcell
        go_wp2_with (go_at_call 19; refine (kept_any gi none 0 [] _ hBi hci2 (by simp)).mono ?_; rintro e w2 ⟨rfl, hbn⟩)
        go_roundw
        case rel => exact ⟨k + 1, by omega, by go_num, hb.trans (hbn.mono hb.size)⟩
        case measure => simp [intOf]; omega
    · go_wp2
      go_ret
      exact ⟨rfl, hb⟩
end Go.Proofs.YtlodenfdcckemaaDoor

/-
  The walk of the law on faults.
-/

namespace Go.Proofs.YtlodenfdcckemaaDoor
open Go.RowKit

/-- What stays as it is while the law runs: the formula, in its box at block N; the one that is handed in, at block g, in its box at block hb. -/
structure Inv (w w' : World) (N hb g : Nat) (vars : Int) (ao : Option Addr) (cap : Nat) (cs : List (List Int)) : Prop where
  old : Below w.heap.size w w'
  sz : w.heap.size = N
  boxF : Blk w' N 31 [.int .i64 vars, .slice ao cs.length cap]
  boxH : Blk w' hb 31 [.int .i64 vars, .slice (some ⟨g, 0, none⟩) cs.length (cs.length + 4)]
  lists : ListsAt w' w'.heap.size ao cs
  hand : Handed w' w'.heap.size g cs

theorem Inv.step {w w' w'' : World} {N hb g : Nat} {vars : Int} {ao : Option Addr} {cap : Nat} {cs : List (List Int)} (h : Inv w w' N hb g vars ao cap cs) (hb' : Below w'.heap.size w' w'') : Inv w w'' N hb g vars ao cap cs :=
  ⟨h.old.trans (hb'.mono h.old.size), h.sz, h.boxF.below' hb', h.boxH.below' hb', (h.lists.below hb' (Nat.le_refl _)).mono hb'.size, (HandedTo.below h.hand hb' (Nat.le_refl _)).mono hb'.size⟩

theorem Inv.alloc {w w' : World} {N hb g : Nat} {vars : Int} {ao : Option Addr} {cap : Nat} {cs : List (List Int)} (h : Inv w w' N hb g vars ao cap cs) (o : Obj) : Inv w (w'.alloc o) N hb g vars ao cap cs :=
  h.step ((Below.refl _ _).alloc (Nat.le_refl _) o)

theorem Inv.cells {w w' : World} {N hb g : Nat} {vars : Int} {ao : Option Addr} {cap : Nat} {cs : List (List Int)} (h : Inv w w' N hb g vars ao cap cs) :
    w'.cell? ⟨N, 0, none⟩ = some (.int .i64 vars) ∧ w'.cell? ⟨N, 1, none⟩ = some (.slice ao cs.length cap) ∧ w'.cell? ⟨hb, 0, none⟩ = some (.int .i64 vars) ∧ w'.cell? ⟨hb, 1, none⟩ = some (.slice (some ⟨g, 0, none⟩) cs.length (cs.length + 4)) ∧
      ListsAt w' w'.heap.size (some ⟨g, 0, none⟩) cs :=
  ⟨h.boxF.cell (i := 0) (by simp) undef, h.boxF.cell (i := 1) (by simp) undef, h.boxH.cell (i := 0) (by simp) undef, h.boxH.cell (i := 1) (by simp) undef, Handed.lists h.hand⟩

theorem Inv.start {w w1 : World} {g : Nat} {vars : Int} {ao : Option Addr} {cap : Nat} {cs : List (List Int)} (hc : ListsAt w w.heap.size ao cs) (hH : Handed w1 w1.heap.size g cs)
    (hb : Below (w.heap.size + 1) (w.alloc (.cells #[.int .i64 vars, .slice ao cs.length cap] 31)) w1) :
    Inv w (w1.alloc (.cells #[.int .i64 vars, .slice (some ⟨g, 0, none⟩) cs.length (cs.length + 4)] 31)) w.heap.size w1.heap.size g vars ao cap cs := by
  have hw1 : Below w.heap.size w (w.alloc (.cells #[.int .i64 vars, .slice ao cs.length cap] 31)) := (Below.refl _ _).alloc (Nat.le_refl _) _
  have hw2 : Below w.heap.size w w1 := hw1.trans (hb.mono (by omega))
  have hb3 : Below w1.heap.size w1 (w1.alloc (.cells #[.int .i64 vars, .slice (some ⟨g, 0, none⟩) cs.length (cs.length + 4)] 31)) := (Below.refl _ _).alloc (Nat.le_refl _) _
  have hw3 := hw2.trans (hb3.mono hw2.size)
  refine ⟨hw3, rfl, ?_, ?_, (hc.below hw3 (Nat.le_refl _)).mono hw3.size, (HandedTo.below hH hb3 (Nat.le_refl _)).mono hb3.size⟩
  · have B0 : Blk (w.alloc (.cells #[.int .i64 vars, .slice ao cs.length cap] 31)) w.heap.size 31 [.int .i64 vars, .slice ao cs.length cap] := blk_new w [.int .i64 vars, .slice ao cs.length cap] 31
    exact (B0.below hb (by omega)).below' hb3
  · exact blk_new w1 [.int .i64 vars, .slice (some ⟨g, 0, none⟩) cs.length (cs.length + 4)] 31

/-- What is asked of a formula's size and numbers: what Go's own memory gives. -/
structure Fits (cs : List (List Int)) : Prop where
  len : cs.length * 24 ≤ 140737488351232
  each : ∀ c ∈ cs, c.length * 8 ≤ 140737488351232
  nums : ∀ c ∈ cs, ∀ l ∈ c, -9223372036854775808 ≤ l ∧ l ≤ 9223372036854775807


end Go.Proofs.YtlodenfdcckemaaDoor

/-
  The walk of a formula's making out of raw numbers.
-/

namespace Go.Proofs.YtlodenfdcckemaaDoor
open Go.RowKit

/-- Lists that a call has made, in memory: each its own block, all from base on. -/
structure MadeL (w : World) (base : Nat) (v : Value) (vs : List Value) (cs : List (List Int)) : Prop where
  oe : Own w base 24 v vs
  len : vs.length = cs.length
  ls : ∀ i, i < vs.length → Own w base 3 (vs.getD i undef) (ints (cs.getD i []))

theorem MadeL.start (w : World) (base : Nat) : MadeL w base (.slice none 0 0) [] [] := ⟨Own.nil _ _ _, rfl, fun i hi => absurd hi (by simp)⟩

theorem MadeL.chg {w w' : World} {base : Nat} {v : Value} {vs : List Value} {cs : List (List Int)} {S : Nat → Prop} (h : MadeL w base v vs cs) (hc : Chg S w w') (hn : ∀ k, base ≤ k → k < w.heap.size → ¬ S k) : MadeL w' base v vs cs :=
  ⟨h.oe.chg hc (fun k e => hn k (h.oe.lt e).1 (h.oe.lt e).2), h.len, fun i hi => (h.ls i hi).chg hc (fun k e => hn k ((h.ls i hi).lt e).1 ((h.ls i hi).lt e).2)⟩

theorem MadeL.below' {w w' : World} {base : Nat} {v : Value} {vs : List Value} {cs : List (List Int)} (h : MadeL w base v vs cs) (hb : Below w.heap.size w w') : MadeL w' base v vs cs :=
  h.chg (S := fun _ => False) (Chg.of_below hb) (fun _ _ _ e => e)

theorem MadeL.lists {w : World} {base : Nat} {v : Value} {vs : List Value} {cs : List (List Int)} (h : MadeL w base v vs cs) : ∃ ao cap, v = .slice ao cs.length cap ∧ ListsAt w w.heap.size ao cs := by
  obtain ⟨ao, cap, hv⟩ := h.oe.shape
  refine ⟨ao, cap, by rw [hv, h.len], fun hne => ?_⟩
  have hpos : 0 < vs.length := by rw [h.len]; exact List.length_pos_iff.2 hne
  obtain ⟨g, cap', hv', hg, hcells⟩ := h.oe.at hpos
  rw [hv] at hv'
  simp only [Value.slice.injEq] at hv'
  refine ⟨g, 0, hv'.1, hg, fun i hi => ?_⟩
  have hi' : i < vs.length := by rw [h.len]; exact hi
  obtain ⟨A, C, h1, h2⟩ := (h.ls i hi').ints (Nat.le_refl _)
  exact ⟨A, C, by rw [Nat.zero_add, hcells i hi', h1], h2⟩

/-- A list more. -/
theorem MadeL.more {w w' : World} {base g cap n : Nat} {v x : Value} {vs : List Value} {cs : List (List Int)} {c : List Int} (h : MadeL w base v vs cs) (hx : Own w base 3 x (ints c)) (hown : Own w' base 24 (.slice (some ⟨g, 0, none⟩) n cap) (vs ++ [x])) (hC : Chg (fun k => v.ownBlock = some k) w w') : MadeL w' base (.slice (some ⟨g, 0, none⟩) n cap) (vs ++ [x]) (cs ++ [c]) := by
  have hl := h.len
  refine ⟨hown, by simp [hl], fun i hi => ?_⟩
  by_cases hlt : i < vs.length
  · have := (h.ls i hlt).chg hC (fun k e e' => own_ne h.oe (h.ls i hlt) (by decide) e' e)
    rw [getD_lt _ _ _ hi, List.getElem_append_left hlt, getD_lt _ _ _ (by simp; omega), List.getElem_append_left (by omega)]
    rw [getD_lt _ _ _ hlt, getD_lt _ _ _ (by omega)] at this
    exact this
  · have hi' : i = vs.length := by simp at hi; omega
    subst hi'
    have := hx.chg hC (fun k e e' => own_ne h.oe hx (by decide) e' e)
    rw [getD_lt _ _ _ hi, getD_lt _ _ _ (by simp; omega)]
    simpa [hl] using this

/-- Behind a clause's putting in. -/
theorem kf_end {w w3 wq w5 : World} {base Fb Rb g5 n5 c5 : Nat} {V : Int} {v x : Value} {vs : List Value} {cs : List (List Int)} {c : List Int} {o : Obj} (hM : MadeL w3 base v vs cs) (hBq : Below w3.heap.size w3 wq) (hx : Own wq w3.heap.size 3 x (ints c)) (hO5 : Own w5 base 24 (.slice (some ⟨g5, 0, none⟩) n5 c5) (vs ++ [x])) (hgr : (wq.alloc o).grownBy w5 v.ownBlock)
    (hF : Blk w3 Fb 31 [.int .i64 V, v]) (hR : Blk w3 Rb 31 [.int .i64 0, .slice none 0 0]) (hFb : Fb < base) (hRb : Rb < base) (hRF : Rb ≠ Fb) (hwF : w.heap.size ≤ Fb) (hb3 : base ≤ w3.heap.size) (hbe : Below w.heap.size w w3) :
    w5.cell? ⟨Fb, 1, none⟩ = some v ∧ w5.frozen? ⟨Fb, 1, none⟩ = false ∧ MadeL (w5.setCell ⟨Fb, 1, none⟩ (.slice (some ⟨g5, 0, none⟩) n5 c5)) base (.slice (some ⟨g5, 0, none⟩) n5 c5) (vs ++ [x]) (cs ++ [c]) ∧
      Blk (w5.setCell ⟨Fb, 1, none⟩ (.slice (some ⟨g5, 0, none⟩) n5 c5)) Fb 31 [.int .i64 V, .slice (some ⟨g5, 0, none⟩) n5 c5] ∧ Blk (w5.setCell ⟨Fb, 1, none⟩ (.slice (some ⟨g5, 0, none⟩) n5 c5)) Rb 31 [.int .i64 0, .slice none 0 0] ∧ Below w.heap.size w (w5.setCell ⟨Fb, 1, none⟩ (.slice (some ⟨g5, 0, none⟩) n5 c5)) := by
  have hsq := hBq.size
  have hMq := hM.below' hBq
  have hC5 : Chg (fun k => v.ownBlock = some k) wq w5 := (Chg.of_below (alloc_below wq o)).trans (Chg.of_grown (S := fun k => v.ownBlock = some k) hgr (fun k e => e) (fun k e o' ho => (hMq.oe.alloc o).cells e o' ho))
  have hvb : ∀ k, v.ownBlock = some k → base ≤ k := fun k e => (hMq.oe.lt e).1
  have F5 : Blk w5 Fb 31 [.int .i64 V, v] := (hF.below' hBq).chg hC5 (fun e => by have := hvb _ e; omega)
  have R5 : Blk w5 Rb 31 [.int .i64 0, .slice none 0 0] := (hR.below' hBq).chg hC5 (fun e => by have := hvb _ e; omega)
  have hCs : Chg (fun k => k = Fb) w5 (w5.setCell ⟨Fb, 1, none⟩ (.slice (some ⟨g5, 0, none⟩) n5 c5)) := Chg.setB (S := fun k => k = Fb) (Chg.refl _ _) Fb 1 rfl _
  have hM5 := hMq.more (hx.base hb3) hO5 hC5
  refine ⟨F5.cell (i := 1) (by simp) undef, F5.frozen 1, hM5.chg hCs (fun k h1 _ h2 => by omega), F5.set 1 _, R5.setOther (a := ⟨Fb, 1, none⟩) hRF _, ?_⟩
  have h1 : Below w.heap.size w wq := hbe.trans (hBq.mono hbe.size)
  have h2 : Below w.heap.size w w5 := h1.trans (hC5.below h1.size fun k e => by have := hvb k e; omega)
  exact h2.trans (hCs.below h2.size fun k e => by omega)

theorem MadeL.base {w : World} {b b' : Nat} {v : Value} {vs : List Value} {cs : List (List Int)} (h : MadeL w b v vs cs) (hb : b' ≤ b) : MadeL w b' v vs cs := ⟨h.oe.base hb, h.len, fun i hi => (h.ls i hi).base hb⟩

theorem res1 {fn : Func} {tmps : Array Value} {W : World} {R : Nat} {a : Int} {ao : Option Addr} {n cap : Nat} (hf : fn.results = #[.cell 6 31]) (hB : Blk W R 31 [.int .i64 a, .slice ao n cap]) (h2 : tmps[6]? = some (.pointer (some ⟨R, 0, none⟩))) :
    (results fn tmps).run Tryd.prog W = .ok (.agg #[.int .i64 a, .slice ao n cap]) W := by
  have c0 : W.cell? ⟨R, 0, none⟩ = some (.int .i64 a) := hB.cell (i := 0) (by simp) undef
  have c1 : W.cell? ⟨R, 1, none⟩ = some (.slice ao n cap) := hB.cell (i := 1) (by simp) undef
  simp [results, hf, go_sem, c0, c1, h2]

/-- The clause that a raw list spells. -/
def rowBy (V : Int) (r : List Int) : List Int := (r.take 4).map fun c => litBy c V

set_option maxRecDepth 100000 in
set_option maxHeartbeats 8000000 in
theorem kformula_any (vars : Int) (most : Nat) (ao : Option Addr) (cap : Nat) (raw : List (List Int)) (w : World) (hc : ListsAt w w.heap.size ao raw) (hF : Fits raw) (hv0 : -9223372036854775808 ≤ vars) (hv1 : vars ≤ 9223372036854775807) (hm0 : 1 ≤ most) (hm1 : most ≤ 20) :
    Calls Tryd.prog 26 #[.int .i64 vars, .slice ao raw.length cap, .int .i64 most] w fun e w' => ∃ v vs, e = .returned (.agg #[.int .i64 (rawV vars most), v]) ∧ MadeL w' w.heap.size v vs (rawC (rawV vars most) raw) ∧ Below w.heap.size w w' := by
  have hr := pickOf_range vars (show (0 : Int) < (most : Int) by omega)
  have c1 := pick_any vars (most : Int) (w.alloc (.cells #[.int .i64 0, .slice none 0 0] 31)) hv0 hv1 (by omega) (by omega)
  obtain ⟨V, hV⟩ : ∃ V : Nat, rawV vars most = V := ⟨(rawV vars most).toNat, by unfold rawV; omega⟩
  have hV1 : 1 ≤ V := by unfold rawV at hV; omega
  have hV2 : V ≤ 20 := by unfold rawV at hV; omega
  rw [hV]
  go_enter Tryd.func26, Tryd.ntmps26
  go_wp2_with fail
  refine c1.mono ?_
  rintro e w' ⟨rfl, rfl⟩
  clear c1
  have hVp : (1 : Int) + pickOf vars (most : Int) = V := by rw [← hV]; rfl
  have HVp : Hid ((1 : Int) + pickOf vars (most : Int) = V) := hVp
  generalize pickOf vars (most : Int) = pk at *
  obtain ⟨i0, hi, hz0, hz1, hz2⟩ := info_parts Tryd.info3
  go_wp2
  have b1 := alloc_below w (.cells #[.int .i64 0, .slice none 0 0] 31)
  have B1 : Blk (w.alloc (.cells #[.int .i64 0, .slice none 0 0] 31)) w.heap.size 31 [.int .i64 0, .slice none 0 0] := blk_new w [.int .i64 0, .slice none 0 0] 31
  have s1 := alloc_size w (.cells #[.int .i64 0, .slice none 0 0] 31)
  generalize w.alloc (.cells #[.int .i64 0, .slice none 0 0] 31) = w1 at *
  have b2 := alloc_below w1 (.cells #[.int .i64 V, .slice none 0 0] 31)
  have B2 : Blk (w1.alloc (.cells #[.int .i64 V, .slice none 0 0] 31)) w1.heap.size 31 [.int .i64 V, .slice none 0 0] := blk_new w1 [.int .i64 V, .slice none 0 0] 31
  have s2 := alloc_size w1 (.cells #[.int .i64 V, .slice none 0 0] 31)
  replace B1 := B1.below' b2
  generalize w1.alloc (.cells #[.int .i64 V, .slice none 0 0] 31) = w2 at *
  rw [s1] at B2
  have hb2 : Below w.heap.size w w2 := b1.trans (b2.mono (by omega))
  have hs2 : w2.heap.size = w.heap.size + 1 + 1 := by omega
  have HS2 : Hid (w2.heap.size = w.heap.size + 1 + 1) := hs2
  clear b1 b2 s1 s2 hr hV hVp hs2
  obtain ⟨Rb, HRb⟩ : ∃ Rb, Hid (Rb = w.heap.size) := ⟨_, rfl⟩
  obtain ⟨Fb, HFb⟩ : ∃ Fb, Hid (Fb = w.heap.size + 1) := ⟨_, rfl⟩
  obtain ⟨base, HBa⟩ : ∃ base, Hid (base = w.heap.size + 1 + 1) := ⟨_, rfl⟩
  rw [← HFb.out] at B2
  rw [← HRb.out] at B1
  rw [← HFb.out, ← HRb.out]
  have HB2 : Hid (Below w.heap.size w w2) := hb2
  clear hb2
  go_loopw [8] (fun x wr => ∃ (k : Nat) (v : Value) (vs : List Value), k ≤ raw.length ∧ k ≤ 60 ∧ x = .int .i64 k ∧ Hid (Blk wr Rb 31 [.int .i64 0, .slice none 0 0]) ∧ Hid (Blk wr Fb 31 [.int .i64 V, v]) ∧ Hid (MadeL wr base v vs ((raw.take k).map (rowBy V))) ∧ Hid (Below w.heap.size w wr)) (fun x _ => 60 - (intOf x).toNat)
  case atStart => exact ⟨0, .slice none 0 0, [], Nat.zero_le _, Nat.zero_le _, rfl, B1, B2, MadeL.start _ _, HB2⟩
  case round =>
    obtain ⟨k, v, vs, hk, hk60, rfl, HR, HF1, HM, HBe⟩ := hrel
    have hFl := HF1.out.lt
    have hRl := HR.out.lt
    have hbr : base ≤ wr.heap.size := by have h1 := HBa.out; have h2 := HFb.out; omega
    by_cases hlt : k < raw.length <;> by_cases hlt60 : k < 60
    · have hcr := hc.below HBe.out (Nat.le_refl _)
      obtain ⟨b, o, rfl, hb, hcell⟩ := hcr (by intro h; rw [h] at hlt; simp at hlt)
      obtain ⟨A, Cc, hck, hin⟩ := hcell k hlt
      have hmem := mem_lists hlt
      have hnm := hF.nums _ hmem
      have hel := hF.each _ hmem
      have HT : Hid (raw.take (k + 1) = raw.take k ++ [raw.getD k []]) := take_succ_lists raw k hlt
      generalize raw.getD k [] = r at hck hin HT hnm hel
      have HIn : Hid (IntsAt wr w.heap.size A r) := hin
      have HNm : Hid (∀ l ∈ r, -9223372036854775808 ≤ l ∧ l ≤ 9223372036854775807) := hnm
      have HCK : Hid (wr.cell? ⟨b, o + k, none⟩ = some (.slice A r.length Cc)) := hck
      have hwl : w.heap.size ≤ wr.heap.size := HBe.out.size
      have hbl : b < wr.heap.size := by omega
      clear hcell hmem hin hnm hcr hck
      obtain ⟨w3, rfl⟩ : ∃ x, x = wr := ⟨wr, rfl⟩
      have hck0 := HCK.out
      have hk60' : (k : Int) < 60 := by omega
      have hkr' : (k : Int) < (raw.length : Int) := by omega
      go_wp2
      clear hck0
      go_loopw [9, 10] (fun vc x wq => ∃ (j : Nat), j ≤ r.length ∧ j ≤ 4 ∧ x = .int .i64 j ∧ Hid (Own wq w3.heap.size 3 vc (ints ((r.take j).map fun c => litBy c V))) ∧ Hid (Below w3.heap.size w3 wq)) (fun _ x _ => 4 - (intOf x).toNat)
      case atStart => exact ⟨0, Nat.zero_le _, Nat.zero_le _, rfl, Own.nil _ _ _, Below.refl _ _⟩
      case round =>
        obtain ⟨j, hj, hj4, rfl, HO, HBq⟩ := hrel
        have hck : wr.cell? ⟨b, o + k, none⟩ = some (.slice A r.length Cc) := (HBq.out.cell (p := ⟨b, o + k, none⟩) hbl).trans HCK.out
        have hsq := HBq.out.size
        have hVc : wr.cell? ⟨Fb, 0, none⟩ = some (.int .i64 V) := (HF1.out.below' HBq.out).cell (i := 0) (by simp) undef
        by_cases hlj : j < r.length <;> by_cases hlj4 : j < 4
        · have hinq := HIn.out.below HBq.out hwl
          obtain ⟨b', o', rfl, hb', hcell'⟩ := hinq (by intro h; rw [h] at hlj; simp at hlj)
          have hcx := hcell' j hlj
          have hmem : r.getD j 0 ∈ r := by rw [getD_lt _ _ _ hlj]; exact List.getElem_mem hlj
          obtain ⟨hx0, hx1⟩ := HNm.out _ hmem
          have HRT : Hid (r.take (j + 1) = r.take j ++ [r.getD j 0]) := take_succ_getD r j hlj
          generalize r.getD j 0 = x at hcx hx0 hx1 HRT
          clear hcell' hinq hmem
          have c2 := kliteral_any x V
          have hlb := litBy_lit x hV1
          generalize hy : litBy x V = y at c2
          have HY : Hid (litBy x V = y) := hy
          clear hy hlb
          have hjl : ((r.take j).map fun c => litBy c V).length = j := by simp; omega
          have hck3 : wr.drew.cell? ⟨b, o + k, none⟩ = _ := hck
          have hcx3 : wr.drew.cell? ⟨b', o' + j, none⟩ = _ := hcx
          have hVc3 : wr.drew.cell? ⟨Fb, 0, none⟩ = _ := hVc
          have OA : Own (wr.alloc (.cells #[.int .i64 y] 3)).drew w3.heap.size 3 u9 (ints ((r.take j).map fun c => litBy c V)) := (HO.out.alloc (.cells #[.int .i64 y] 3)).chg (S := fun _ => False) (Chg.drew (Chg.refl _ _)) (fun _ _ h => h)
          have BA0 := alloc_below wr (.cells #[.int .i64 y] 3)
          have BA : Below wr.heap.size wr (wr.alloc (.cells #[.int .i64 y] 3)).drew := ⟨BA0.os, BA0.tape, BA0.output, BA0.size, BA0.block⟩
          have NA : Blk (wr.alloc (.cells #[.int .i64 y] 3)).drew wr.heap.size 3 [.int .i64 y] := (blk_new wr [.int .i64 y] 3).drew
          have SA : (wr.alloc (.cells #[.int .i64 y] 3)).drew.heap.size = wr.heap.size + 1 := alloc_size wr _
          have hbw : b' < wr.heap.size := by omega
          have hone : ∀ u ∈ [Value.int .i64 y], u.oneCell' = true := by intro u hu; simp at hu; rw [hu]; rfl
          have OA' : (wr.alloc (.cells #[.int .i64 y] 3)).drew.ownsRow w3.heap.size 3 1 u9 j (ints ((r.take j).map fun c => litBy c V)) := by
            have := OA.own
            rwa [List.length_map, hjl] at this
          have hlow : ∀ q, q < w3.heap.size → u9.ownBlock ≠ some q := fun q hq e => by have := (OA.lt e).1; omega
          have hb3 : b < w3.heap.size := hbl
          have hb'3 : b' < w3.heap.size := by omega
          have hF3 : Fb < w3.heap.size := hFl
          have hbq1 : b < wr.heap.size := by omega
          have hFq1 : Fb < wr.heap.size := by omega
          go_wp2
          go_region_held3 (fun q => q.cell? ⟨b, o + k, none⟩ = some (.slice (some ⟨b', o', none⟩) r.length Cc) ∧ q.cell? ⟨b', o' + j, none⟩ = some (.int .i64 x) ∧ q.cell? ⟨Fb, 0, none⟩ = some (.int .i64 V))
            (first | exact ⟨k1, k2, k3⟩ | exact ⟨hck3, hcx3, hVc3⟩ | exact ⟨(BA.cell (p := ⟨b, o + k, none⟩) hbq1).trans hck, (BA.cell (p := ⟨b', o' + j, none⟩) hbw).trans hcx, (BA.cell (p := ⟨Fb, 0, none⟩) hFq1).trans hVc⟩ | go_keep)
            (first
              | (go_at_call 31; refine (c2 _ hx0 hx1 hV1 hV2).mono ?_; rintro e q ⟨rfl, rfl⟩)
              | (refine step_append_lies _ (by rfl) (.tmp 39) (.tmp 50) 24 (by rfl) w3.heap.size 3 i0 (.int .i64 0) 1 8 Tryd.underlying24 hi hz0 hz1 hz2 (by rfl) (by decide) u9 j (ints ((r.take j).map fun c => litBy c V)) (by rfl) (by exact OA') ⟨wr.heap.size, 0, none⟩ 1 1 [.int .i64 y] (by rfl) (by rfl) (by exact World.news_of_block NA) hone (by decide) (by unfold maxLen; omega) (by omega) (by rw [SA]; omega) (wr.heap.size + 1) SA ?_; intro g5 cap5 w5 hO5 hgr5 hat5 hlt5; have k1 : w5.cell? ⟨b, o + k, none⟩ = some (.slice (some ⟨b', o', none⟩) r.length Cc) := (World.cell?_of_block (w := (wr.alloc (.cells #[.int .i64 y] 3)).drew) (hgr5.block b (by rw [SA]; omega) (fun e => hlow b hb3 e.symm))).trans ((BA.cell (p := ⟨b, o + k, none⟩) hbq1).trans hck); have k2 : w5.cell? ⟨b', o' + j, none⟩ = some (.int .i64 x) := (World.cell?_of_block (w := (wr.alloc (.cells #[.int .i64 y] 3)).drew) (hgr5.block b' (by rw [SA]; omega) (fun e => hlow b' hb'3 e.symm))).trans ((BA.cell (p := ⟨b', o' + j, none⟩) hbw).trans hcx); have k3 : w5.cell? ⟨Fb, 0, none⟩ = some (.int .i64 V) := (World.cell?_of_block (w := (wr.alloc (.cells #[.int .i64 y] 3)).drew) (hgr5.block Fb (by rw [SA]; omega) (fun e => hlow Fb hF3 e.symm))).trans ((BA.cell (p := ⟨Fb, 0, none⟩) hFq1).trans hVc)))
          go_wp2
          go_roundw
          case rel =>
            refine ⟨j + 1, by omega, by omega, by go_num, ?_, ?_⟩
            · have e : ints ((r.take (j + 1)).map fun c => litBy c V) = ints ((r.take j).map fun c => litBy c V) ++ [.int .i64 y] := by rw [HRT.out, ← HY.out]; simp
              rw [e]
              exact own_of hO5
            · refine HBq.out.trans ((BA.mono hsq).trans ⟨hgr5.os, hgr5.tape, hgr5.output, hgr5.size, fun q hq => hgr5.block q (by rw [SA]; omega) (fun e => hlow q hq e.symm)⟩)
          case measure => simp [intOf]; omega
        all_goals
          have HJ : Hid (r.take j = r.take 4) := by
            unfold Hid
            by_cases h4 : j = 4
            · rw [h4]
            · have : j = r.length := by omega
              rw [this, List.take_length, List.take_of_length_le (by omega)]
          have HOv := HO.out
          rw [HJ.out] at HOv
          have HO1 : Hid (Own wr w3.heap.size 3 u9 (ints (rowBy V r))) := HOv
          have hMq := HM.out.below' HBq.out
          obtain ⟨ve, vcap, hvs⟩ := hMq.oe.shape
          have hvl := HM.out.len
          rw [List.length_map, List.length_take, Nat.min_eq_left hk] at hvl
          rw [hvl] at hvs
          obtain ⟨ua, uc, hu9⟩ := HO1.out.shape
          rw [List.length_map] at hu9
          subst hu9
          subst hvs
          have cv : wr.cell? ⟨Fb, 1, none⟩ = some (.slice ve k vcap) := (HF1.out.below' HBq.out).cell (i := 1) (by simp) undef
          have OA := hMq.oe.alloc (.cells #[.slice ua (rowBy V r).length uc] 24)
          have NA : Blk (wr.alloc (.cells #[.slice ua (rowBy V r).length uc] 24)) wr.heap.size 24 [.slice ua (rowBy V r).length uc] := blk_new wr [.slice ua (rowBy V r).length uc] 24
          have hone : ∀ u ∈ [Value.slice ua (rowBy V r).length uc], u.oneCell' = true := by intro u hu; simp at hu; rw [hu]; rfl
          have hFq1 : Fb < wr.heap.size := by omega
          have hFbb : Fb < base := by have h1 := HFb.out; have h2 := HBa.out; omega
          have hRbb : Rb < base := by have h1 := HRb.out; have h2 := HBa.out; omega
          have hRF : Rb ≠ Fb := by have h1 := HRb.out; have h2 := HFb.out; omega
          have hwF : w.heap.size ≤ Fb := by have h2 := HFb.out; omega
          clear HOv hVc
          generalize hrl : (rowBy V r).length = rl at *
          have HRL : Hid ((rowBy V r).length = rl) := hrl
          clear hrl
          go_wp2_with (first | (at_builtin; refine wpList_append_new (.tmp 53) (.tmp 55) 23 24 (.slice none 0 0) 24 Tryd.underlying23 Tryd.info24 rfl base wr.heap.size (.slice ve k vcap) vs [.slice ua rl uc] 1 k hvl rfl (by decide) (by rfl) (by rfl) OA NA hone (by unfold maxLen; omega) (by omega) (by rw [alloc_size]; omega) ?_; intro g5 cap5 w5 hO5 hgr5 hat5 hlt5; obtain ⟨E1, E2, E3, E4, E5, E6⟩ := kf_end HM.out HBq.out HO1.out hO5 hgr5 HF1.out HR.out hFbb hRbb hRF hwF hbr HBe.out))
          go_roundw
          case rel =>
            refine ⟨k + 1, _, vs ++ [.slice ua rl uc], by omega, by omega, by go_num, E5, E4, ?_, E6⟩
            rw [HT.out, List.map_append]
            exact E3
          case measure => simp [intOf]; omega
    all_goals
      have HK : Hid (raw.take k = raw.take 60) := by
        unfold Hid
        by_cases h6 : k = 60
        · rw [h6]
        · have : k = raw.length := by omega
          rw [this, List.take_length, List.take_of_length_le (by omega)]
      have c0 : wr.cell? ⟨Fb, 0, none⟩ = some (.int .i64 V) := HF1.out.cell (i := 0) (by simp) undef
      have c1 : wr.cell? ⟨Fb, 1, none⟩ = some v := HF1.out.cell (i := 1) (by simp) undef
      have r0 : wr.cell? ⟨Rb, 0, none⟩ = some (.int .i64 0) := HR.out.cell (i := 0) (by simp) undef
      have r1 : wr.cell? ⟨Rb, 1, none⟩ = some (.slice none 0 0) := HR.out.cell (i := 1) (by simp) undef
      have f0 := HR.out.frozen 0
      have f1 := HR.out.frozen 1
      obtain ⟨ve, vcap, hvs⟩ := HM.out.oe.shape
      subst hvs
      have HL : Hid (rawC V raw = (raw.take k).map (rowBy V)) := by unfold Hid rawC; rw [HK.out]; rfl
      have hbase : w.heap.size ≤ base := by have h2 := HBa.out; omega
      have hRw : w.heap.size ≤ Rb := by have h2 := HRb.out; omega
      have hRbb : Rb < base := by have h1 := HRb.out; have h2 := HBa.out; omega
      have B0 := (HR.out.set 0 (.int .i64 V)).set 1 (.slice ve vs.length vcap)
      have hCs : Chg (fun k => k = Rb) wr ((wr.setCell ⟨Rb, 0, none⟩ (.int .i64 V)).setCell ⟨Rb, 1, none⟩ (.slice ve vs.length vcap)) := Chg.setB (S := fun k => k = Rb) (Chg.setB (S := fun k => k = Rb) (Chg.refl _ _) Rb 0 rfl _) Rb 1 rfl _
      have HM2 : Hid (MadeL ((wr.setCell ⟨Rb, 0, none⟩ (.int .i64 V)).setCell ⟨Rb, 1, none⟩ (.slice ve vs.length vcap)) w.heap.size (.slice ve vs.length vcap) vs (rawC V raw)) := by
        unfold Hid
        rw [HL.out]
        exact (HM.out.chg hCs (fun q h1 _ h2 => by omega)).base hbase
      have HB9 : Hid (Below w.heap.size w ((wr.setCell ⟨Rb, 0, none⟩ (.int .i64 V)).setCell ⟨Rb, 1, none⟩ (.slice ve vs.length vcap))) := HBe.out.trans (hCs.below HBe.out.size fun q e => by omega)
      have HB0 : Hid (Blk ((wr.setCell ⟨Rb, 0, none⟩ (.int .i64 V)).setCell ⟨Rb, 1, none⟩ (.slice ve vs.length vcap)) Rb 31 [.int .i64 V, .slice ve vs.length vcap]) := B0
      clear B0 hCs
      go_wp2
      exact bodyPost_ret (res1 rfl HB0.out rfl) rfl ⟨_, vs, rfl, HM2.out, HB9.out⟩
end Go.Proofs.YtlodenfdcckemaaDoor

/-
  What follows at once: it holds in each assignment that makes all true, it is closed, it grows (of no program's walk).
-/

namespace Go.Proofs.YtlodenfdcckemaaDoor
open Go.RowKit

theorem tIn_neg (b : Nat) {l : Int} (h : l ≠ 0) : tIn b (-l) = !tIn b l := by
  unfold tIn
  by_cases hp : 0 < l
  · rw [if_neg (by omega), if_pos hp, Int.neg_neg]
  · rw [if_pos (by omega), if_neg hp, Bool.not_not]

theorem makesB_mem {b : Nat} {cs : List (List Int)} (h : makesB b cs = true) {c : List Int} (hc : c ∈ cs) : ∃ m ∈ c, tIn b m = true := by
  unfold makesB at h
  exact List.any_eq_true.1 (List.all_eq_true.1 h c hc)

theorem Fol.sound {C : List (List Int)} {G : Int → Prop} {b : Nat} (hm : makesB b C = true) (hz : ∀ c ∈ C, ∀ l ∈ c, l ≠ 0) (hg : ∀ l, G l → tIn b l = true) {l : Int} (h : Fol C G l) : tIn b l = true := by
  induction h with
  | given h => exact hg _ h
  | @unit c l hc hl _ ih =>
    obtain ⟨m, hmc, ht⟩ := makesB_mem hm hc
    by_cases e : m = l
    · rw [← e]; exact ht
    · have := ih m hmc e
      rw [tIn_neg b (hz c hc m hmc), ht] at this
      cases this

theorem Fol.nz {C : List (List Int)} {G : Int → Prop} (hz : ∀ c ∈ C, ∀ l ∈ c, l ≠ 0) (hg : ∀ l, G l → l ≠ 0) {l : Int} (h : Fol C G l) : l ≠ 0 := by
  cases h with
  | given h => exact hg _ h
  | unit hc hl _ => exact hz _ hc _ hl

theorem Conf.never {C : List (List Int)} {G : Int → Prop} {b : Nat} (hm : makesB b C = true) (hz : ∀ c ∈ C, ∀ l ∈ c, l ≠ 0) (hg0 : ∀ l, G l → l ≠ 0) (hg : ∀ l, G l → tIn b l = true) : ¬ Conf C G := by
  rintro (⟨l, h1, h2⟩ | ⟨c, hc, h⟩)
  · have a := h1.sound hm hz hg
    have b' := h2.sound hm hz hg
    rw [tIn_neg b (h1.nz hz hg0), a] at b'
    cases b'
  · obtain ⟨m, hmc, ht⟩ := makesB_mem hm hc
    have := (h m hmc).sound hm hz hg
    rw [tIn_neg b (hz c hc m hmc), ht] at this
    cases this

theorem Fol.through {C : List (List Int)} {G H : Int → Prop} (h : ∀ l, H l → Fol C G l) {l : Int} (hl : Fol C H l) : Fol C G l := by
  induction hl with
  | given k => exact h _ k
  | unit hc hl _ ih => exact .unit hc hl ih

theorem Conf.through {C : List (List Int)} {G H : Int → Prop} (h : ∀ l, H l → Fol C G l) (hc : Conf C H) : Conf C G := by
  rcases hc with ⟨l, h1, h2⟩ | ⟨c, hc, hm⟩
  · exact .inl ⟨l, h1.through h, h2.through h⟩
  · exact .inr ⟨c, hc, fun m hmc => (hm m hmc).through h⟩

theorem mem_tellOf {V : Nat} {T : Int → Bool} {l : Int} : l ∈ tellOf V T ↔ IsLit V l ∧ T l = true := by
  unfold tellOf
  rw [List.mem_filter, List.mem_map]
  constructor
  · rintro ⟨⟨m, hm, rfl⟩, ht⟩
    exact ⟨atp_lit (List.mem_range.1 hm), ht⟩
  · rintro ⟨hl, ht⟩
    exact ⟨⟨pl l, List.mem_range.2 (pl_lt hl), atp_pl hl.1⟩, ht⟩

theorem litsFault_of {V : Nat} {g : List Int} (h : ∀ l ∈ g, IsLit V l) : litsFault V g = 0 := by
  apply litsFault_all
  rw [List.all_eq_true]
  intro l hl
  obtain ⟨h1, h2, h3⟩ := h l hl
  unfold lit
  simp only [Bool.and_eq_true, Bool.not_eq_true', beq_eq_false_iff_ne, decide_eq_true_eq]
  exact ⟨⟨h1, h2⟩, h3⟩

/-- Literals that are ones: no error. -/
theorem PRes.ok {V : Nat} {C : List (List Int)} {g zs : List Int} {c : Bool} {x : Int} (h : PRes V C g zs c x) (hg : ∀ l ∈ g, IsLit V l) : x = 0 := by
  have hf := litsFault_of hg
  rcases h with ⟨h1, _⟩ | ⟨_, _, _, _, h⟩ | ⟨_, _, _, h, _⟩
  · exact absurd hf h1
  · exact h
  · exact h

/-- A conflict: nothing is told, and no assignment makes all true. -/
theorem PRes.conf {V : Nat} {C : List (List Int)} {g zs : List Int} {x : Int} (h : PRes V C g zs true x) : zs = [] ∧ Conf C (fun l => l ∈ g) := by
  rcases h with ⟨_, _, h, _⟩ | ⟨_, h2, h3, _, _⟩ | ⟨_, _, h, _⟩
  · cases h
  · exact ⟨h3, h2⟩
  · cases h

/-- No conflict: what is told is what follows. -/
theorem PRes.free {V : Nat} {C : List (List Int)} {g zs : List Int} {x : Int} (h : PRes V C g zs false x) (hg : ∀ l ∈ g, IsLit V l) : ¬ Conf C (fun l => l ∈ g) ∧ (∀ l, l ∈ zs ↔ Fol C (fun l => l ∈ g) l) ∧ (∀ l ∈ zs, IsLit V l) := by
  have hf := litsFault_of hg
  rcases h with ⟨h1, _⟩ | ⟨_, _, _, h, _⟩ | ⟨_, h2, _, _, T, h5, h6, rfl⟩
  · exact absurd hf h1
  · cases h
  · refine ⟨h2, fun l => ?_, fun l hl => (mem_tellOf.1 hl).1⟩
    rw [mem_tellOf]
    exact ⟨fun ⟨a, b⟩ => (h5 l a).1 b, fun h => ⟨h6 l h, (h5 l (h6 l h)).2 h⟩⟩

/-- Asked again with what follows: the same follows. -/
theorem PRes.again {V : Nat} {C : List (List Int)} {g zs zs' : List Int} {x x' : Int} {c' : Bool} (h : PRes V C g zs false x) (hg : ∀ l ∈ g, IsLit V l) (h' : PRes V C zs zs' c' x') : zs' = zs ∧ c' = false ∧ x' = 0 := by
  obtain ⟨hn, hm, hl⟩ := h.free hg
  have hx := h'.ok hl
  have hgr : ∀ l, l ∈ zs → Fol C (fun l => l ∈ g) l := fun l h => (hm l).1 h
  have hgr' : ∀ l, l ∈ g → Fol C (fun l => l ∈ zs) l := fun l h => .given ((hm l).2 (.given h))
  have hc' : c' = false := by
    cases c' with
    | false => rfl
    | true => exact absurd (h'.conf.2.through hgr) hn
  subst hc'
  refine ⟨?_, rfl, hx⟩
  have hf := litsFault_of hg
  have hf' := litsFault_of hl
  rcases h with ⟨h1, _⟩ | ⟨_, _, _, h, _⟩ | ⟨_, h2, _, _, T, h5, h6, h7⟩
  · exact absurd hf h1
  · cases h
  rcases h' with ⟨h1, _⟩ | ⟨_, _, _, h, _⟩ | ⟨_, k2, _, _, U, k5, k6, k7⟩
  · exact absurd hf' h1
  · cases h
  rw [k7, h7]
  apply tellOf_congr
  intro l hl
  rw [Bool.eq_iff_iff, k5 l hl, h5 l hl]
  exact ⟨fun h => h.through hgr, fun h => h.through hgr'⟩

/-- With more given, more follows. -/
theorem PRes.grows {V : Nat} {C : List (List Int)} {g g' zs zs' : List Int} {x x' : Int} (h : PRes V C g zs false x) (hg : ∀ l ∈ g, IsLit V l) (hg' : ∀ l ∈ g', IsLit V l) (hs : ∀ l ∈ g, l ∈ g') (h' : PRes V C g' zs' false x') : ∀ l ∈ zs, l ∈ zs' := by
  intro l hl
  exact ((h'.free hg').2.1 l).2 ((((h.free hg).2.1 l).1 hl).through (fun m hm => .given (hs m hm)))

/-- What follows holds in each assignment that makes all true. -/
theorem PRes.holds {V : Nat} {C : List (List Int)} {g zs : List Int} {c : Bool} {x : Int} (h : PRes V C g zs c x) (hg : ∀ l ∈ g, IsLit V l) (hC : ∀ c ∈ C, ∀ l ∈ c, IsLit V l) {b : Nat} (hm : makesB b C = true) (ht : g.all (tIn b) = true) : c = false ∧ ∀ l ∈ zs, tIn b l = true := by
  have hz : ∀ c ∈ C, ∀ l ∈ c, l ≠ 0 := fun c hc l hl => (hC c hc l hl).1
  have htg : ∀ l, l ∈ g → tIn b l = true := List.all_eq_true.1 ht
  cases c with
  | true => exact absurd h.conf.2 (Conf.never hm hz (fun l hl => (hg l hl).1) htg)
  | false => exact ⟨rfl, fun l hl => (((h.free hg).2.1 l).1 hl).sound hm hz htg⟩
end Go.Proofs.YtlodenfdcckemaaDoor

/-
  Two lists of lists with the same numbers: they are found the same.
-/

namespace Go.Proofs.YtlodenfdcckemaaDoor
open Go.RowKit

set_option maxHeartbeats 2000000 in
theorem ksame_any (ao bo : Option Addr) (ca cb : Nat) (cs : List (List Int)) (w : World) (ha : ListsAt w w.heap.size ao cs) (hb : ListsAt w w.heap.size bo cs) (hl : cs.length ≤ 1000) (hc : ∀ c ∈ cs, c.length ≤ 1000) :
    Calls Tryd.prog 30 #[.slice ao cs.length ca, .slice bo cs.length cb] w fun e w' => e = .returned (.bool true) ∧ ∃ n, w' = w.drewN n := by
  have hne : ((cs.length : Int) != (cs.length : Int)) = false := by simp
  go_enter Tryd.func30, Tryd.ntmps30
  go_wp2
  go_loopw [5] (fun i wr => ∃ (k n : Nat), k ≤ cs.length ∧ i = .int .i64 k ∧ wr = w.drewN n) (fun i _ => cs.length - (intOf i).toNat)
  case atStart => exact ⟨0, 0, by omega, rfl, rfl⟩
  case round =>
    obtain ⟨k, n, hk, rfl, rfl⟩ := hrel
    by_cases hlt : k < cs.length
    · obtain ⟨b, o, rfl, hbl, hca⟩ := ha (by intro h; rw [h] at hlt; simp at hlt)
      obtain ⟨b', o', rfl, hbl', hcb⟩ := hb (by intro h; rw [h] at hlt; simp at hlt)
      obtain ⟨A1, C1, h1, i1⟩ := hca k hlt
      obtain ⟨A2, C2, h2, i2⟩ := hcb k hlt
      have hcl : (cs.getD k []).length ≤ 1000 := hc _ (mem_lists hlt)
      generalize cs.getD k [] = zs at *
      have hnz : ((zs.length : Int) != (zs.length : Int)) = false := by simp
      have H1 : Hid (w.cell? ⟨b, o + k, none⟩ = some (.slice A1 zs.length C1)) := h1
      have H2 : Hid (w.cell? ⟨b', o' + k, none⟩ = some (.slice A2 zs.length C2)) := h2
      have I1 : Hid (IntsAt w w.heap.size A1 zs) := i1
      have I2 : Hid (IntsAt w w.heap.size A2 zs) := i2
      clear hca hcb ha hb i1 i2
      go_wp2
      go_quiet (fail)
      clear h1 h2
      go_wp2
      go_loopw [6] (fun i wr => ∃ (j m : Nat), j ≤ zs.length ∧ i = .int .i64 j ∧ wr = w.drewN m) (fun i _ => zs.length - (intOf i).toNat)
      case atStart => exact ⟨0, n + nq, by omega, rfl, World.drewN_drewN ..⟩
      case round =>
        obtain ⟨j, m, hj, rfl, rfl⟩ := hrel
        have h1 := H1.out
        have h2 := H2.out
        by_cases hlj : j < zs.length
        · obtain ⟨d, p, rfl, hdl, hda⟩ := I1.out (by intro h; rw [h] at hlj; simp at hlj)
          obtain ⟨d', p', rfl, hdl', hdb⟩ := I2.out (by intro h; rw [h] at hlj; simp at hlj)
          have x1 := hda j hlj
          have x2 := hdb j hlj
          generalize zs.getD j 0 = x at *
          have hnx : (x != x) = false := by simp
          clear hda hdb
          go_wp2
          go_quiet (fail)
          go_wp2
          go_roundw
          case rel => exact ⟨j + 1, m + nq, by omega, by go_num, rfl⟩
          case measure => simp [intOf]; omega
        · go_wp2
          go_roundw
          case rel => exact ⟨k + 1, m, by omega, by go_num, rfl⟩
          case measure => simp [intOf]; omega
    · go_wp2
      go_ret
      exact ⟨rfl, n, rfl⟩
end Go.Proofs.YtlodenfdcckemaaDoor

/-
  The formula that raw numbers spell has no fault.
-/

namespace Go.Proofs.YtlodenfdcckemaaDoor
open Go.RowKit

theorem clausesFault_of (vars : Int) : ∀ (cs : List (List Int)) (i : Nat), (∀ c ∈ cs, clauseFault vars c = 0) → (clausesFault vars i cs).1 = 0
  | [], _, _ => by unfold clausesFault; rfl
  | c :: cs, i, h => by
    rw [clausesFault, if_pos (h c (by simp))]
    exact clausesFault_of vars cs (i + 1) (fun d hd => h d (by simp [hd]))

theorem fault_good {n : Nat} {cs : List (List Int)} (h : Good n cs) : (fault n cs).1 = 0 := by
  have h0 := h.vars
  have h1 := h.many
  rw [fault_rest (by omega) (by omega) (by omega)]
  apply clausesFault_of
  intro c hc
  have := h.long c hc
  rw [clauseFault_lits (by omega)]
  exact litsFault_of (fun l hl => h.lits c hc l hl)

theorem rawC_good {V : Nat} (h1 : 1 ≤ V) (h2 : V ≤ 20) (raw : List (List Int)) : Good V (rawC V raw) := by
  refine ⟨h2, ?_, fun c hc => ?_, fun c hc x hx => ?_⟩
  · unfold rawC; simp; omega
  · obtain ⟨r, _, rfl⟩ := List.mem_map.1 hc
    simp; omega
  · obtain ⟨r, _, rfl⟩ := List.mem_map.1 hc
    obtain ⟨y, _, rfl⟩ := List.mem_map.1 hx
    exact litBy_lit y h1

theorem rowBy_lits {V : Nat} (h1 : 1 ≤ V) (r : List Int) : ∀ l ∈ rowBy V r, IsLit V l := by
  intro l hl
  obtain ⟨y, _, rfl⟩ := List.mem_map.1 hl
  exact litBy_lit y h1

theorem rowBy_len (V : Int) (r : List Int) : (rowBy V r).length ≤ 4 := by unfold rowBy; simp; omega

theorem shl_small {V : Nat} (h : V ≤ 8) : wrap64 ((2 : Int) ^ V) = ((2 ^ V : Nat) : Int) ∧ (2 ^ V : Nat) ≤ 256 := by
  rcases (show V = 0 ∨ V = 1 ∨ V = 2 ∨ V = 3 ∨ V = 4 ∨ V = 5 ∨ V = 6 ∨ V = 7 ∨ V = 8 by omega) with rfl | rfl | rfl | rfl | rfl | rfl | rfl | rfl | rfl <;> exact ⟨by unfold wrap64; omega, by decide⟩

theorem PRes.lits {V : Nat} {C : List (List Int)} {g zs : List Int} {c : Bool} {x : Int} (h : PRes V C g zs c x) (hg : ∀ l ∈ g, IsLit V l) : ∀ l ∈ zs, IsLit V l := by
  cases c with
  | true => rw [h.conf.1]; intro l hl; simp at hl
  | false => exact (h.free hg).2.2
end Go.Proofs.YtlodenfdcckemaaDoor
