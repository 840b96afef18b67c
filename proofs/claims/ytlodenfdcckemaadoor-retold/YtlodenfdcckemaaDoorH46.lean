/-
  The walk of the document's examples.
-/
import Derived.Test.YtlodenfdcckemaaDoorH33
import Derived.Test.YtlodenfdcckemaaDoorH44
import Derived.Test.YtlodenfdcckemaaDoorH45
namespace Go.Proofs.YtlodenfdcckemaaDoor
open Go.RowKit

theorem ints_at {w : World} {N : Nat} {zs : List Int} {L : List Value} (h : Blk w N 3 L) (hL : L = ints zs) : IntsAt w w.heap.size (some ⟨N, 0, none⟩) zs := by
  intro _
  refine ⟨N, 0, rfl, h.lt, fun i hi => ?_⟩
  subst hL
  rw [Nat.zero_add, h.cell (by simpa using hi) undef]
  simp [hi]

theorem lists_at {w : World} {N : Nat} {cs : List (List Int)} {L : List Value} (h : Blk w N 24 L) (hl : L.length = cs.length) (hL : ∀ i, i < cs.length → ∃ A C, L.getD i undef = .slice A (cs.getD i []).length C ∧ IntsAt w w.heap.size A (cs.getD i [])) : ListsAt w w.heap.size (some ⟨N, 0, none⟩) cs := by
  intro _
  refine ⟨N, 0, rfl, h.lt, fun i hi => ?_⟩
  obtain ⟨A, C, h1, h2⟩ := hL i hi
  exact ⟨A, C, by rw [Nat.zero_add, h.cell (by omega) undef, h1], h2⟩

set_option maxRecDepth 100000 in
set_option maxHeartbeats 4000000 in
theorem known_any (w : World) (hT : Tab w) (hw0 : 0 < w.heap.size) : Calls Tryd.prog 25 #[] w fun e w' => e = .returned (.bool true) ∧ Below w.heap.size w w' := by
  go_enter Tryd.func25, Tryd.ntmps25
  go_wp2_with fail
  have b1 := alloc_below w (.cells #[.int .i64 1, .int .i64 2] 3)
  have B1 : Blk (w.alloc (.cells #[.int .i64 1, .int .i64 2] 3)) w.heap.size 3 [.int .i64 1, .int .i64 2] := blk_new w [.int .i64 1, .int .i64 2] 3
  have s1 := alloc_size w (.cells #[.int .i64 1, .int .i64 2] 3)
  generalize w.alloc (.cells #[.int .i64 1, .int .i64 2] 3) = a1 at *
  have b2 := alloc_below a1 (.cells #[.int .i64 1, .int .i64 (-2)] 3)
  have B2 : Blk (a1.alloc (.cells #[.int .i64 1, .int .i64 (-2)] 3)) a1.heap.size 3 [.int .i64 1, .int .i64 (-2)] := blk_new a1 [.int .i64 1, .int .i64 (-2)] 3
  have s2 := alloc_size a1 (.cells #[.int .i64 1, .int .i64 (-2)] 3)
  replace B1 := B1.below' b2
  generalize a1.alloc (.cells #[.int .i64 1, .int .i64 (-2)] 3) = a2 at *
  have b3 := alloc_below a2 (.cells #[.int .i64 (-1), .int .i64 2] 3)
  have B3 : Blk (a2.alloc (.cells #[.int .i64 (-1), .int .i64 2] 3)) a2.heap.size 3 [.int .i64 (-1), .int .i64 2] := blk_new a2 [.int .i64 (-1), .int .i64 2] 3
  have s3 := alloc_size a2 (.cells #[.int .i64 (-1), .int .i64 2] 3)
  replace B1 := B1.below' b3
  replace B2 := B2.below' b3
  generalize a2.alloc (.cells #[.int .i64 (-1), .int .i64 2] 3) = a3 at *
  have b4 := alloc_below a3 (.cells #[.int .i64 (-1), .int .i64 (-2)] 3)
  have B4 : Blk (a3.alloc (.cells #[.int .i64 (-1), .int .i64 (-2)] 3)) a3.heap.size 3 [.int .i64 (-1), .int .i64 (-2)] := blk_new a3 [.int .i64 (-1), .int .i64 (-2)] 3
  have s4 := alloc_size a3 (.cells #[.int .i64 (-1), .int .i64 (-2)] 3)
  replace B1 := B1.below' b4
  replace B2 := B2.below' b4
  replace B3 := B3.below' b4
  generalize a3.alloc (.cells #[.int .i64 (-1), .int .i64 (-2)] 3) = a4 at *
  have b5 := alloc_below a4 (.cells #[.slice (some ⟨w.heap.size, 0, none⟩) 2 2, .slice (some ⟨w.heap.size + 1, 0, none⟩) 2 2, .slice (some ⟨w.heap.size + 1 + 1, 0, none⟩) 2 2, .slice (some ⟨w.heap.size + 1 + 1 + 1, 0, none⟩) 2 2] 24)
  have B5 : Blk (a4.alloc (.cells #[.slice (some ⟨w.heap.size, 0, none⟩) 2 2, .slice (some ⟨w.heap.size + 1, 0, none⟩) 2 2, .slice (some ⟨w.heap.size + 1 + 1, 0, none⟩) 2 2, .slice (some ⟨w.heap.size + 1 + 1 + 1, 0, none⟩) 2 2] 24)) a4.heap.size 24 [.slice (some ⟨w.heap.size, 0, none⟩) 2 2, .slice (some ⟨w.heap.size + 1, 0, none⟩) 2 2, .slice (some ⟨w.heap.size + 1 + 1, 0, none⟩) 2 2, .slice (some ⟨w.heap.size + 1 + 1 + 1, 0, none⟩) 2 2] := blk_new a4 [.slice (some ⟨w.heap.size, 0, none⟩) 2 2, .slice (some ⟨w.heap.size + 1, 0, none⟩) 2 2, .slice (some ⟨w.heap.size + 1 + 1, 0, none⟩) 2 2, .slice (some ⟨w.heap.size + 1 + 1 + 1, 0, none⟩) 2 2] 24
  have s5 := alloc_size a4 (.cells #[.slice (some ⟨w.heap.size, 0, none⟩) 2 2, .slice (some ⟨w.heap.size + 1, 0, none⟩) 2 2, .slice (some ⟨w.heap.size + 1 + 1, 0, none⟩) 2 2, .slice (some ⟨w.heap.size + 1 + 1 + 1, 0, none⟩) 2 2] 24)
  replace B1 := B1.below' b5
  replace B2 := B2.below' b5
  replace B3 := B3.below' b5
  replace B4 := B4.below' b5
  generalize a4.alloc (.cells #[.slice (some ⟨w.heap.size, 0, none⟩) 2 2, .slice (some ⟨w.heap.size + 1, 0, none⟩) 2 2, .slice (some ⟨w.heap.size + 1 + 1, 0, none⟩) 2 2, .slice (some ⟨w.heap.size + 1 + 1 + 1, 0, none⟩) 2 2] 24) = a5 at *
  have b6 := alloc_below a5 (.cells #[.int .i64 2, .slice (some ⟨w.heap.size + 1 + 1 + 1 + 1, 0, none⟩) 4 4] 31)
  have B6 : Blk (a5.alloc (.cells #[.int .i64 2, .slice (some ⟨w.heap.size + 1 + 1 + 1 + 1, 0, none⟩) 4 4] 31)) a5.heap.size 31 [.int .i64 2, .slice (some ⟨w.heap.size + 1 + 1 + 1 + 1, 0, none⟩) 4 4] := blk_new a5 [.int .i64 2, .slice (some ⟨w.heap.size + 1 + 1 + 1 + 1, 0, none⟩) 4 4] 31
  have s6 := alloc_size a5 (.cells #[.int .i64 2, .slice (some ⟨w.heap.size + 1 + 1 + 1 + 1, 0, none⟩) 4 4] 31)
  replace B1 := B1.below' b6
  replace B2 := B2.below' b6
  replace B3 := B3.below' b6
  replace B4 := B4.below' b6
  replace B5 := B5.below' b6
  generalize a5.alloc (.cells #[.int .i64 2, .slice (some ⟨w.heap.size + 1 + 1 + 1 + 1, 0, none⟩) 4 4] 31) = a6 at *
  have b7 := alloc_below a6 (.cells #[.int .i64 1] 3)
  have B7 : Blk (a6.alloc (.cells #[.int .i64 1] 3)) a6.heap.size 3 [.int .i64 1] := blk_new a6 [.int .i64 1] 3
  have s7 := alloc_size a6 (.cells #[.int .i64 1] 3)
  replace B1 := B1.below' b7
  replace B2 := B2.below' b7
  replace B3 := B3.below' b7
  replace B4 := B4.below' b7
  replace B5 := B5.below' b7
  replace B6 := B6.below' b7
  generalize a6.alloc (.cells #[.int .i64 1] 3) = a7 at *
  have b8 := alloc_below a7 (.cells #[] 3)
  have B8 : Blk (a7.alloc (.cells #[] 3)) a7.heap.size 3 [] := blk_new a7 [] 3
  have s8 := alloc_size a7 (.cells #[] 3)
  replace B1 := B1.below' b8
  replace B2 := B2.below' b8
  replace B3 := B3.below' b8
  replace B4 := B4.below' b8
  replace B5 := B5.below' b8
  replace B6 := B6.below' b8
  replace B7 := B7.below' b8
  generalize a7.alloc (.cells #[] 3) = a8 at *
  have b9 := alloc_below a8 (.cells #[.slice (some ⟨w.heap.size + 1 + 1 + 1 + 1 + 1 + 1, 0, none⟩) 1 1, .slice (some ⟨w.heap.size + 1 + 1 + 1 + 1 + 1 + 1 + 1, 0, none⟩) 0 0] 24)
  have B9 : Blk (a8.alloc (.cells #[.slice (some ⟨w.heap.size + 1 + 1 + 1 + 1 + 1 + 1, 0, none⟩) 1 1, .slice (some ⟨w.heap.size + 1 + 1 + 1 + 1 + 1 + 1 + 1, 0, none⟩) 0 0] 24)) a8.heap.size 24 [.slice (some ⟨w.heap.size + 1 + 1 + 1 + 1 + 1 + 1, 0, none⟩) 1 1, .slice (some ⟨w.heap.size + 1 + 1 + 1 + 1 + 1 + 1 + 1, 0, none⟩) 0 0] := blk_new a8 [.slice (some ⟨w.heap.size + 1 + 1 + 1 + 1 + 1 + 1, 0, none⟩) 1 1, .slice (some ⟨w.heap.size + 1 + 1 + 1 + 1 + 1 + 1 + 1, 0, none⟩) 0 0] 24
  have s9 := alloc_size a8 (.cells #[.slice (some ⟨w.heap.size + 1 + 1 + 1 + 1 + 1 + 1, 0, none⟩) 1 1, .slice (some ⟨w.heap.size + 1 + 1 + 1 + 1 + 1 + 1 + 1, 0, none⟩) 0 0] 24)
  replace B1 := B1.below' b9
  replace B2 := B2.below' b9
  replace B3 := B3.below' b9
  replace B4 := B4.below' b9
  replace B5 := B5.below' b9
  replace B6 := B6.below' b9
  replace B7 := B7.below' b9
  replace B8 := B8.below' b9
  generalize a8.alloc (.cells #[.slice (some ⟨w.heap.size + 1 + 1 + 1 + 1 + 1 + 1, 0, none⟩) 1 1, .slice (some ⟨w.heap.size + 1 + 1 + 1 + 1 + 1 + 1 + 1, 0, none⟩) 0 0] 24) = a9 at *
  have e1 : a1.heap.size = w.heap.size + 1 := s1
  have e2 : a2.heap.size = w.heap.size + 1 + 1 := by omega
  have e3 : a3.heap.size = w.heap.size + 1 + 1 + 1 := by omega
  have e4 : a4.heap.size = w.heap.size + 1 + 1 + 1 + 1 := by omega
  have e5 : a5.heap.size = w.heap.size + 1 + 1 + 1 + 1 + 1 := by omega
  have e6 : a6.heap.size = w.heap.size + 1 + 1 + 1 + 1 + 1 + 1 := by omega
  have e7 : a7.heap.size = w.heap.size + 1 + 1 + 1 + 1 + 1 + 1 + 1 := by omega
  have e8 : a8.heap.size = w.heap.size + 1 + 1 + 1 + 1 + 1 + 1 + 1 + 1 := by omega
  rw [e1] at B2
  rw [e2] at B3
  rw [e3] at B4
  rw [e4] at B5
  rw [e5] at B6
  rw [e6] at B7
  rw [e7] at B8
  rw [e8] at B9
  have hb9 : Below w.heap.size w a9 := by
    refine b1.trans ((b2.mono (by omega)).trans ((b3.mono (by omega)).trans ((b4.mono (by omega)).trans ((b5.mono (by omega)).trans ((b6.mono (by omega)).trans ((b7.mono (by omega)).trans ((b8.mono (by omega)).trans (b9.mono (by omega)))))))))
  have hc9 : ListsAt a9 a9.heap.size (some ⟨w.heap.size + 1 + 1 + 1 + 1, 0, none⟩) ex4 := lists_at B5 rfl (fun i hi => by
    match i, hi with
    | 0, _ => exact ⟨_, _, rfl, ints_at B1 rfl⟩
    | 1, _ => exact ⟨_, _, rfl, ints_at B2 rfl⟩
    | 2, _ => exact ⟨_, _, rfl, ints_at B3 rfl⟩
    | 3, _ => exact ⟨_, _, rfl, ints_at B4 rfl⟩
    | n + 4, h => exact absurd h (by simp [ex4]))
  have hp9 : ListsAt a9 a9.heap.size (some ⟨w.heap.size + 1 + 1 + 1 + 1 + 1 + 1 + 1 + 1, 0, none⟩) [[1], []] := lists_at B9 rfl (fun i hi => by
    match i, hi with
    | 0, _ => exact ⟨_, _, rfl, ints_at B7 rfl⟩
    | 1, _ => exact ⟨_, _, rfl, fun h => absurd rfl h⟩
    | n + 2, h => exact absurd h (by simp))
  have c1 := check_good 2 (some ⟨w.heap.size + 1 + 1 + 1 + 1, 0, none⟩) (some ⟨w.heap.size + 1 + 1 + 1 + 1 + 1 + 1 + 1 + 1, 0, none⟩) 4 2 ex4 [[1], []] a9 hc9 hp9 ex4_good ex4_fault (by simp)
  rw [ex4_check] at c1
  refine c1.mono ?_
  rintro e u1 ⟨rfl, hu1⟩
  have hbu : Below w.heap.size w u1 := hb9.trans (hu1.mono hb9.size)
  have hcu := (hc9.below hu1 (Nat.le_refl _)).mono hu1.size
  have F1 := B6.below' hu1
  have hsu := hbu.size
  clear B1 B2 B3 B4 B5 B6 B7 B8 B9 b1 b2 b3 b4 b5 b6 b7 b8 b9 s1 s2 s3 s4 s5 s6 s7 s8 s9 e1 e2 e3 e4 e5 e6 e7 e8 hc9 hp9 c1 hb9 hu1
  generalize hN5 : w.heap.size + 1 + 1 + 1 + 1 + 1 = N5 at *
  generalize hN4 : w.heap.size + 1 + 1 + 1 + 1 = N4 at *
  have f0 : u1.cell? ⟨N5, 0, none⟩ = some (.int .i64 2) := F1.cell (i := 0) (by simp) undef
  have f1 : u1.cell? ⟨N5, 1, none⟩ = some (.slice (some ⟨N4, 0, none⟩) 4 4) := F1.cell (i := 1) (by simp) undef
  have hN5l := F1.lt
  clear hN5 hN4
  go_wp2_with fail
  have b1 := alloc_below u1 (.cells #[] 3)
  have s1 := alloc_size u1 (.cells #[] 3)
  generalize u1.alloc (.cells #[] 3) = v1 at *
  have b2 := alloc_below v1 (.cells #[.slice (some ⟨u1.heap.size, 0, none⟩) 0 0] 24)
  have B2 : Blk (v1.alloc (.cells #[.slice (some ⟨u1.heap.size, 0, none⟩) 0 0] 24)) v1.heap.size 24 [.slice (some ⟨u1.heap.size, 0, none⟩) 0 0] := blk_new v1 [.slice (some ⟨u1.heap.size, 0, none⟩) 0 0] 24
  have s2 := alloc_size v1 (.cells #[.slice (some ⟨u1.heap.size, 0, none⟩) 0 0] 24)
  generalize v1.alloc (.cells #[.slice (some ⟨u1.heap.size, 0, none⟩) 0 0] 24) = v2 at *
  rw [s1] at B2
  have hv2 : Below u1.heap.size u1 v2 := b1.trans (b2.mono (by omega))
  have hc2 := (hcu.below hv2 (Nat.le_refl _)).mono hv2.size
  have hp2 : ListsAt v2 v2.heap.size (some ⟨u1.heap.size + 1, 0, none⟩) [[]] := lists_at B2 rfl (fun i hi => by
    match i, hi with
    | 0, _ => exact ⟨_, _, rfl, fun h => absurd rfl h⟩
    | n + 1, h => exact absurd h (by simp))
  have c1 := check_good 2 (some ⟨N4, 0, none⟩) (some ⟨u1.heap.size + 1, 0, none⟩) 4 1 ex4 [[]] v2 hc2 hp2 ex4_good ex4_fault (by simp)
  rw [ex4_check0] at c1
  refine c1.mono ?_
  rintro e u2 ⟨rfl, hu2⟩
  have hbu2 : Below w.heap.size w u2 := hbu.trans ((hv2.mono hsu).trans (hu2.mono (by have := hv2.size; omega)))
  clear c1 hp2 hc2 hv2 b1 b2 B2 s1 s2 hcu F1 f0 f1 hu2 hbu hsu hN5l
  go_wp2_with fail
  have d1 := alloc_below u2 (.cells #[.int .i64 1, .int .i64 (-2)] 3)
  have D1 : Blk (u2.alloc (.cells #[.int .i64 1, .int .i64 (-2)] 3)) u2.heap.size 3 [.int .i64 1, .int .i64 (-2)] := blk_new u2 [.int .i64 1, .int .i64 (-2)] 3
  have t1 := alloc_size u2 (.cells #[.int .i64 1, .int .i64 (-2)] 3)
  generalize u2.alloc (.cells #[.int .i64 1, .int .i64 (-2)] 3) = x1 at *
  have d2 := alloc_below x1 (.cells #[.int .i64 2] 3)
  have D2 : Blk (x1.alloc (.cells #[.int .i64 2] 3)) x1.heap.size 3 [.int .i64 2] := blk_new x1 [.int .i64 2] 3
  have t2 := alloc_size x1 (.cells #[.int .i64 2] 3)
  replace D1 := D1.below' d2
  generalize x1.alloc (.cells #[.int .i64 2] 3) = x2 at *
  have d3 := alloc_below x2 (.cells #[.slice (some ⟨u2.heap.size, 0, none⟩) 2 2, .slice (some ⟨u2.heap.size + 1, 0, none⟩) 1 1] 24)
  have D3 : Blk (x2.alloc (.cells #[.slice (some ⟨u2.heap.size, 0, none⟩) 2 2, .slice (some ⟨u2.heap.size + 1, 0, none⟩) 1 1] 24)) x2.heap.size 24 [.slice (some ⟨u2.heap.size, 0, none⟩) 2 2, .slice (some ⟨u2.heap.size + 1, 0, none⟩) 1 1] := blk_new x2 [.slice (some ⟨u2.heap.size, 0, none⟩) 2 2, .slice (some ⟨u2.heap.size + 1, 0, none⟩) 1 1] 24
  replace D1 := D1.below' d3
  replace D2 := D2.below' d3
  generalize x2.alloc (.cells #[.slice (some ⟨u2.heap.size, 0, none⟩) 2 2, .slice (some ⟨u2.heap.size + 1, 0, none⟩) 1 1] 24) = x3 at *
  have t2' : x2.heap.size = u2.heap.size + 1 + 1 := by omega
  rw [t1] at D2
  rw [t2'] at D3
  have hx3 : Below u2.heap.size u2 x3 := d1.trans ((d2.mono (by omega)).trans (d3.mono (by omega)))
  have hbx : Below w.heap.size w x3 := hbu2.trans (hx3.mono hbu2.size)
  have hc3 : ListsAt x3 x3.heap.size (some ⟨u2.heap.size + 1 + 1, 0, none⟩) ex3 := lists_at D3 rfl (fun i hi => by
    match i, hi with
    | 0, _ => exact ⟨_, _, rfl, ints_at D1 rfl⟩
    | 1, _ => exact ⟨_, _, rfl, ints_at D2 rfl⟩
    | n + 2, h => exact absurd h (by simp [ex3]))
  have c2 := propagate_all 2 (some ⟨u2.heap.size + 1 + 1, 0, none⟩) none 2 0 ex3 [] x3 hc3 (fun h => absurd rfl h) ex3_good ex3_fault (by simp) (hT.below hbx hw0) (Nat.lt_of_lt_of_le hw0 hbx.size)
  refine c2.mono ?_
  rintro e u3 ⟨v, zs, c, x, rfl, hO, hP, hu3⟩
  obtain ⟨rfl, rfl, rfl⟩ := hP.same ex3_prop
  obtain ⟨g, gc, hv, hgl, hcells⟩ := hO.at (by simp)
  simp only [List.length_map, List.length_cons, List.length_nil] at hv
  have g0 : u3.cell? ⟨g, 0, none⟩ = some (.int .i64 1) := hcells 0 (by simp)
  have g1 : u3.cell? ⟨g, 1, none⟩ = some (.int .i64 2) := hcells 1 (by simp)
  subst hv
  have HB : Hid (Below w.heap.size w u3) := hbx.trans (hu3.mono hbx.size)
  clear c2 hc3 hP hO hcells D1 D2 D3 d1 d2 d3 hx3 hbx
  go_wp2
  go_ret
  exact ⟨rfl, HB.out⟩
end Go.Proofs.YtlodenfdcckemaaDoor
