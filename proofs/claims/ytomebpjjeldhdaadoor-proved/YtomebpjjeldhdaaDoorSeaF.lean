/-
  The walk of falseAt.
-/
import Derived.Test.YtomebpjjeldhdaaDoorStk3
import Derived.Test.YtomebpjjeldhdaaDoorFromR
namespace Go.Proofs.YtomebpjjeldhdaaDoor
open Go.RowKit Go.Shelf

attribute [local go_sem] Oper.semAt_some

theorem blk_own {β : Type} (B g : Nat) (t : TypeId) (f : β → List Value) : OwnFrom B (fun s W => Blk W g t (f s)) := fun s W W' row hs hg hr =>
  hs.grown hg (fun e => by
    obtain ⟨_, o, ho, hc⟩ := hr g e
    unfold Blk at hs
    rw [hs] at ho
    cases ho
    cases hc)

theorem falseAt_snoc (L : Nat) (x : Pk) : ∀ (P : List Pk) (a : Nat), falseAt L (P ++ [x]) a = if x.lev = L then falseAt L P a ||| opp x.lit else falseAt L P a
  | [], a => rfl
  | p :: P, a => by rw [List.cons_append, falseAt, falseAt, falseAt_snoc L x P]

theorem falseAt_lt (L : Nat) : ∀ (P : List Pk) (a : Nat), a < 18446744073709551616 → falseAt L P a < 18446744073709551616
  | [], a, h => h
  | p :: P, a, h => by
    rw [falseAt]
    refine falseAt_lt L P _ ?_
    split
    · exact Nat.or_lt_two_pow (n := 64) h (opp_lt64 p.lit)
    · exact h

set_option maxRecDepth 100000 in
set_option maxHeartbeats 4000000 in
theorem falseAt_any (X : Nat) (L : Nat) (a0 a1 v a3 a4 : Value) (xs : List Pks) (w : World) (hB : Blk w X 134 [a0, a1, v, a3, a4]) (hR : Row3 w v (vals xs)) (h64 : xs.length ≤ 64) :
    Calls Tryd.prog 129 #[.pointer (some ⟨X, 0, none⟩), .int .i64 L] w fun e w' => e = .returned (sv (falseAt L (vals xs) 0)) ∧ Below w.heap.size w w' := by
  have hXl := hB.lt
  have hit : w.cell? ⟨X, 2, none⟩ = some v := hB.cell (i := 2) (by simp) undef
  refine (callsIn_wide (n := 9)).1 ?_
  refine callsIn_of_wp_marks Tryd.func129 rfl trivial ?_ rfl
  simp only [Tryd.ntmps129, List.size_toArray, List.length_cons, List.length_nil, Nat.reduceAdd, Nat.reduceSub, Array.replicate_succ, Array.replicate_zero, List.push_toArray, List.append_toArray, List.nil_append, List.cons_append]
  gi_wp2_with (refine ⟨trivial, ?_⟩; gi_at_call 114; refine (callsIn_wide.2 (down_any X _)).mono ?_; rintro e w' ⟨rfl, rfl⟩)
  have hb0 : Below w.heap.size w (((w.alloc (.cells #[.int .i64 L] 3)).alloc (.cells #[.int .u64 0] 84)).alloc (.cells #[.pointer (some ⟨X, 2, none⟩)] 182)) := (((Below.refl _ _).alloc (Nat.le_refl _) _).alloc (by simp) _).alloc (by simp; omega) _
  have B1 := ((blk_new w [.int .i64 L] 3).alloc (.cells #[.int .u64 0] 84)).alloc (.cells #[.pointer (some ⟨X, 2, none⟩)] 182)
  have B2 := (blk_new (w.alloc (.cells #[.int .i64 L] 3)) [.int .u64 0] 84).alloc (.cells #[.pointer (some ⟨X, 2, none⟩)] 182)
  have B3 := blk_new ((w.alloc (.cells #[.int .i64 L] 3)).alloc (.cells #[.int .u64 0] 84)) [.pointer (some ⟨X, 2, none⟩)] 182
  have hsz : (((w.alloc (.cells #[.int .i64 L] 3)).alloc (.cells #[.int .u64 0] 84)).alloc (.cells #[.pointer (some ⟨X, 2, none⟩)] 182)).heap.size = w.heap.size + 1 + 1 + 1 := by simp
  rw [World.size_alloc] at B2
  rw [World.size_alloc, World.size_alloc] at B3
  dsimp only [List.toArray] at B1 B2 B3
  generalize ((w.alloc (.cells #[.int .i64 L] 3)).alloc (.cells #[.int .u64 0] 84)).alloc (.cells #[.pointer (some ⟨X, 2, none⟩)] 182) = W0 at *
  have hD0 : DownAt W0 (w.heap.size + 1 + 1) X v (vals xs) := ⟨B3, (hb0.cell (p := ⟨X, 2, none⟩) hXl).trans hit, hR.below' hb0⟩
  refine wpIn_rangeFunc_ownH rfl (by omega) (gf := 131) (lb := #[.pointer (some ⟨w.heap.size + 1 + 1, 0, none⟩)]) rfl trivial (enters_of Tryd.func131 (by kernel_rfl) rfl)
    (down_stops 8 (by omega) (w.heap.size + 1 + 1) X w.heap.size v xs W0 (by omega) hXl (fun k e => hR.lt e) hD0 h64) (fun h k => kpD_t h k) (kpD_b (by omega) (by omega)) (Below.refl _ _) (fun _ => rfl)
    (fun pre W => Below w.heap.size w W ∧ Blk W w.heap.size 3 [.int .i64 L] ∧ Blk W (w.heap.size + 1) 84 [sv (falseAt L (vals pre) 0)] ∧ Blk W (w.heap.size + 1 + 1) 182 [.pointer (some ⟨X, 2, none⟩)]) (fun _ _ _ => False)
    (OwnFrom.and (ownFrom_below (Nat.le_refl _) (by omega)) (OwnFrom.and (blk_own _ _ _ (fun _ => _)) (OwnFrom.and (blk_own _ _ _ (fun pre => [sv (falseAt L (vals pre) 0)])) (blk_own _ _ _ (fun _ => _))))) (fun _ _ _ _ _ hs _ _ => hs)
    ⟨hb0, B1, B2, B3⟩
    (fun x a' W => ∃ Bx, w.heap.size + 1 + 1 + 1 ≤ Bx ∧ Blk W Bx 162 (pkc x.1) ∧ a' = { tmps := #[.pointer (some ⟨X, 0, none⟩), .int .i64 L, undef, .pointer (some ⟨w.heap.size, 0, none⟩), .int .u64 0, .pointer (some ⟨w.heap.size + 1, 0, none⟩), .pointer (some ⟨Bx, 0, none⟩), .pointer (some ⟨X, 0, none⟩), .pointer (some ⟨X, 0, none⟩), .pointer (some ⟨X, 2, none⟩), .func (.func 131) #[] #[.pointer (some ⟨w.heap.size + 1 + 1, 0, none⟩)], pkv x.1, undef, undef, undef, undef, undef, undef, undef, undef, undef, undef], defers := [] })
    (fun x a' s W W' row hs hg hr => by obtain ⟨Bx, h1, h2, h3⟩ := hs; exact ⟨Bx, h1, blk_own (β := Unit) _ Bx _ (fun _ => pkc x.1) () W W' row h2 hg hr, h3⟩) ?assign ?body ?done ?stop
  case assign =>
    rintro l pre x W K ⟨h1, h2, h3, h4⟩ hK
    have hsW := h1.size
    have hlW := h4.lt
    unfold pkv
    gi_wp2
    exact hK _ _ ((KeepsOthers.alloc _ _).from _) ⟨(Below.refl _ W).alloc h1.size _, Below.heap_alloc _ _ _ hlW⟩ ⟨h1.alloc h1.size _, h2.alloc _, h3.alloc _, h4.alloc _⟩ ⟨W.heap.size, hlW, blk_new W (pkc x.1) 162, rfl⟩
  case body =>
    rintro l pre x a' W hl ⟨r, hr⟩ ⟨h1, h2, h3, h4⟩ ⟨Bx, hBx, bX, rfl⟩ hlt
    have p0 : W.cell? ⟨Bx, 0, none⟩ = some (sv x.1.lit) := bX.cell (i := 0) (by simp [pkc]) undef
    have p2 : W.cell? ⟨Bx, 2, none⟩ = some (.int .i64 x.1.lev) := bX.cell (i := 2) (by simp [pkc]) undef
    have l0 : W.cell? ⟨w.heap.size, 0, none⟩ = some (.int .i64 L) := h2.cell (i := 0) (by simp) undef
    have c0 : W.cell? ⟨w.heap.size + 1, 0, none⟩ = some (sv (falseAt L (vals pre) 0)) := h3.cell (i := 0) (by simp) undef
    have f0 := h3.frozen 0
    have HE : Hid (falseAt L (vals (pre ++ [x])) 0 = if x.1.lev = L then falseAt L (vals pre) 0 ||| opp x.1.lit else falseAt L (vals pre) 0) := by unfold Hid; rw [show vals (pre ++ [x]) = vals pre ++ [x.1] by simp [vals]]; exact falseAt_snoc L x.1 (vals pre) 0
    have hA64 := falseAt_lt L (vals pre) 0 (by decide)
    have hx := x.2
    obtain ⟨A, hA⟩ : ∃ A, falseAt L (vals pre) 0 = A := ⟨_, rfl⟩
    rw [hA] at c0 HE hA64 h3
    have hor := or_spell A (opp x.1.lit) hA64 (opp_lt64 _)
    have c1 := opposites_any x.1.lit hx.1
    generalize opp x.1.lit = O at *
    by_cases hc : x.1.lev = L
    · have hc' : ((x.1.lev : Int) == (L : Int)) = true := by simp [hc]
      rw [if_pos hc] at HE
      clear hc hA
      gi_wp2
      have hd : 1 ≤ 9 - 1 - 1 := by omega
      have hmx : Tryd.prog.follows .mixedOrders = true := by kernel_rfl
      gi_region_with_o (refine ⟨trivial, ?_⟩; gi_at_call 85; refine (CallsIn.inRound l (callsIn_wide.2 (c1 _))).mono ?_; rintro e w' ⟨rfl, hw'⟩; obtain rfl := hw'.symm)
      all_goals gi_wp2
      all_goals
        exact ⟨((KeepsOthers.setCell _ _ _).trans (KeepsOthers.drew _)).from _, ⟨((Below.refl w.heap.size W).setCell (p := ⟨w.heap.size + 1, 0, none⟩) (Nat.le_succ _) _).drew, Below.heap_setCell W ⟨w.heap.size + 1, 0, none⟩ _ _ (by simp)⟩,
          (h1.setCell (p := ⟨w.heap.size + 1, 0, none⟩) (Nat.le_succ _) _).drew, (h2.setOther (a := ⟨w.heap.size + 1, 0, none⟩) (by simp) _).drew, by rw [HE.out]; exact (h3.set 0 _).drew, (h4.setOther (a := ⟨w.heap.size + 1, 0, none⟩) (by simp) _).drew⟩
    · have hc' : ((x.1.lev : Int) == (L : Int)) = false := by simp; omega
      rw [if_neg hc] at HE
      clear hc hA
      gi_wp2
      exact ⟨KeepsFrom.refl _ _, ⟨Below.refl _ _, rfl⟩, h1, h2, by rw [HE.out]; exact h3, h4⟩
  case done =>
    rintro D ys W hD rfl ⟨h1, h2, h3, -⟩ hK
    have c0 : W.cell? ⟨w.heap.size + 1, 0, none⟩ = some (sv (falseAt L (vals ys) 0)) := h3.cell (i := 0) (by simp) undef
    gi_wp2
    refine ⟨by simp, .inl ⟨_, _, rfl, run_takeDeferred hK, ?_⟩⟩
    exact ⟨_, results_tmp rfl _ _ _, rfl, h1.trans (belowK_b (w := w) (Nat.le_refl _) W D _ _ (by omega) hK rfl rfl)⟩
  case stop =>
    rintro D c pre W _ _ h _
    exact h.elim
end Go.Proofs.YtomebpjjeldhdaaDoor
