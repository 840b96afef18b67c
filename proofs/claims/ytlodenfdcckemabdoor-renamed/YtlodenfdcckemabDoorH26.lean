/-
  Several texts, one behind the other.
-/
import Derived.Test.YtlodenfdcckemabDoorH24
import Derived.Test.YtlodenfdcckemabDoorH25
/-
  The walk of lemma.
-/

namespace Go.Proofs.YtlodenfdcckemabDoor
open Go.RowKit Go.Shelf

attribute [local go_sem] Oper.semAt_some

theorem wide_fn (f : Nat) : Fence.wide.fn f ↔ True := ⟨fun _ => trivial, fun _ => trivial⟩

attribute [local go_sem] wide_fn

theorem lemOf_snoc (last L : Nat) (x : Pk) : ∀ (P : List Pk) (c : Nat), lemOf last L (P ++ [x]) c = repl last L x (lemOf last L P c)
  | [], c => rfl
  | p :: P, c => by rw [List.cons_append, lemOf, lemOf, lemOf_snoc last L x P]

theorem repl_lt (last L : Nat) (x : Pk) (c : Nat) (hx : x.cl < 18446744073709551616) (hc : c < 18446744073709551616) : repl last L x c < 18446744073709551616 := by
  unfold repl
  split
  · exact Nat.or_lt_two_pow (n := 64) (dif_lt (k := 64) hc) (dif_lt (k := 64) hx)
  · exact hc

theorem lemOf_lt (last L : Nat) : ∀ (P : List Pk) (c : Nat), (∀ p ∈ P, p.cl < 18446744073709551616) → c < 18446744073709551616 → lemOf last L P c < 18446744073709551616
  | [], _, _, h => h
  | p :: P, c, hp, h => by
    rw [lemOf]
    exact lemOf_lt last L P _ (fun q hq => hp q (List.mem_cons_of_mem _ hq)) (repl_lt last L p c (hp p List.mem_cons_self) h)

theorem sea_drewN (n₀ : Nat) (W : World) (n : Nat) : Below n₀ W (W.drewN n) := ⟨rfl, rfl, rfl, Nat.le_refl _, fun _ _ => rfl⟩
theorem keeps_drewN (W : World) (n : Nat) : KeepsOthers W (W.drewN n) := ⟨Nat.le_refl _, fun _ _ h _ => h⟩

/-- A region that does not panic. -/
theorem wpIn_calm {F : Fence} {n : Nat} {P : Program} {c : Code} {K : Act → World → Prop} {Q : Exit → Act → World → Prop} {a : Act} {w : World} (h : c.wpIn F n P (Exit.then K (fun _ _ _ => False)) a w) : c.wpIn F n P (Exit.then K Q) a w :=
  Code.wpIn_mono (fun e a w h => by cases e <;> first | exact h | exact (h : False).elim) h

/-- What a piece of code leaves, told: it does not panic. -/
theorem wpIn_cut {F : Fence} {n : Nat} {P : Program} {c : Code} {K : Act → World → Prop} {Q : Exit → Act → World → Prop} {a : Act} {w : World} (R : Act → World → Prop) (h : c.wpIn F n P (Exit.then R (fun _ _ _ => False)) a w) (hR : ∀ a w, R a w → K a w) : c.wpIn F n P (Exit.then K Q) a w :=
  Code.wpIn_mono (fun e a w h => by cases e <;> first | exact hR _ _ h | exact (h : False).elim) h

set_option maxRecDepth 100000 in
set_option maxHeartbeats 4000000 in
theorem lemma_any (X : Nat) (L : Nat) (a0 a1 v a3 : Value) (xs : List Pks) (k : Nat) (w : World) (hB : Blk w X 80 [a0, a1, v, a3, .int .i64 L]) (hR : Row3 w v (vals xs)) (h64 : xs.length ≤ 64) (hk : k < 18446744073709551616) :
    Calls Tryd.prog 55 #[.pointer (some ⟨X, 0, none⟩), sv k] w fun e w' => e = .returned (sv (lemOf (falseAt L (vals xs) 0) L (vals xs) k)) ∧ Below w.heap.size w w' := by
  have hXl := hB.lt
  refine (callsIn_wide (n := 9)).1 ?_
  refine callsIn_of_wp_marks Tryd.func55 rfl trivial ?_ rfl
  simp only [Tryd.ntmps55, List.size_toArray, List.length_cons, List.length_nil, Nat.reduceAdd, Nat.reduceSub, Array.replicate_succ, Array.replicate_zero, List.push_toArray, List.append_toArray, List.nil_append, List.cons_append]
  have hmx : Tryd.prog.follows .mixedOrders = true := by kernel_rfl
  have hd : 1 ≤ 9 := by omega
  have hb0 : Below w.heap.size w ((w.alloc (.cells #[.pointer (some ⟨X, 0, none⟩)] 70)).alloc (.cells #[.int .u64 k] 53)) := ((Below.refl _ _).alloc (Nat.le_refl _) _).alloc (by simp) _
  have B0 := (blk_new w [.pointer (some ⟨X, 0, none⟩)] 70).alloc (.cells #[.int .u64 k] 53)
  have B1 := blk_new (w.alloc (.cells #[.pointer (some ⟨X, 0, none⟩)] 70)) [.int .u64 k] 53
  have hsz : ((w.alloc (.cells #[.pointer (some ⟨X, 0, none⟩)] 70)).alloc (.cells #[.int .u64 k] 53)).heap.size = w.heap.size + 1 + 1 := by simp
  rw [World.size_alloc] at B1
  dsimp only [List.toArray] at B0 B1
  gi_wp2
  generalize (w.alloc (.cells #[.pointer (some ⟨X, 0, none⟩)] 70)).alloc (.cells #[.int .u64 k] 53) = W0 at *
  have BX := hB.below' hb0
  have hR0 := hR.below' hb0
  have c0 : W0.cell? ⟨w.heap.size, 0, none⟩ = some (.pointer (some ⟨X, 0, none⟩)) := B0.cell (i := 0) (by simp) undef
  have c4 : W0.cell? ⟨X, 4, none⟩ = some (.int .i64 L) := BX.cell (i := 4) (by simp) undef
  have HSZ : Hid (W0.heap.size = w.heap.size + 1 + 1) := hsz
  have hX0 : X < W0.heap.size := by omega
  have hw0 : w.heap.size < W0.heap.size := by omega
  have hw1 : w.heap.size + 1 < W0.heap.size := by omega
  clear hsz
  have cF := falseAt_any X L a0 a1 v a3 (.int .i64 L) xs
  have HL : Hid (falseAt L (vals xs) 0 < 18446744073709551616) := falseAt_lt L (vals xs) 0 (by decide)
  generalize hla : falseAt L (vals xs) 0 = last at *
  have HLa : Hid (falseAt L (vals xs) 0 = last) := hla
  clear hla
  refine wpIn_cut (fun a W3 => ∃ b5, a = { tmps := #[.pointer (some ⟨X, 0, none⟩), sv k, .pointer (some ⟨w.heap.size, 0, none⟩), .pointer (some ⟨w.heap.size + 1, 0, none⟩), .int .u64 0, .pointer (some ⟨b5, 0, none⟩), undef, undef, undef, .pointer (some ⟨X, 0, none⟩), .pointer (some ⟨X, 0, none⟩), .pointer (some ⟨X, 0, none⟩), .pointer (some ⟨X, 4, none⟩), .int .i64 L, sv last, undef, undef, undef, undef, undef, undef, undef, undef, undef, undef, undef, undef, undef, undef, undef, undef, undef, undef, undef, undef, undef, undef, undef, undef, undef, undef, undef, undef, undef, undef, undef, undef, undef, undef, undef, undef, undef, undef, undef, undef, undef, undef, undef, undef, undef, undef, undef, undef], defers := [] } ∧ Below W0.heap.size W0 W3 ∧ Blk W3 b5 53 [sv last] ∧ W0.heap.size ≤ b5) ?_ ?_
  · gi_region_with_o (gi_at_call 70; refine (callsIn_wide.2 (cF _ (by first | exact BX.drew | exact Blk.alloc (w := W0.drew) BX.drew _) (by first | exact hR0 | exact Row3.below' (w := W0.drew) hR0 (alloc_below _ _)) h64)).mono ?_; rintro e W2 ⟨rfl, hb2⟩; first | (have B5 : Blk W2 W0.heap.size 53 [.int .u64 0] := Blk.below' (blk_new W0.drew [.int .u64 0] 53) hb2; have n5 : W2.cell? ⟨W0.heap.size, 0, none⟩ = some (.int .u64 0) := B5.cell (i := 0) (by simp) undef; have n6 := B5.frozen 0) | skip)
    all_goals first
      | exact ⟨W2.heap.size, rfl, ((Below.refl _ W0).drew.trans hb2).alloc hb2.size _, blk_new W2 [sv last] 53, hb2.size⟩
      | exact ⟨W0.heap.size, rfl, (((alloc_below W0 _).drew).trans (hb2.mono (by simp [World.drew]))).setCell (p := ⟨W0.heap.size, 0, none⟩) (Nat.le_refl _) _, B5.set 0 _, Nat.le_refl _⟩
  · rintro _ W3 ⟨b5, rfl, hb3, B5, hb5⟩
    have c3 : W3.cell? ⟨w.heap.size, 0, none⟩ = some (.pointer (some ⟨X, 0, none⟩)) := (hb3.cell (p := ⟨w.heap.size, 0, none⟩) hw0).trans c0
    clear c0 c4 cF
    gi_wp2_with (gi_at_call 56; refine (callsIn_wide.2 (down_any X _)).mono ?_; rintro e w' ⟨rfl, rfl⟩)
    have hb4 : Below W0.heap.size W0 (W3.alloc (.cells #[.pointer (some ⟨X, 2, none⟩)] 112)) := hb3.alloc hb3.size _
    have B5' := B5.alloc (.cells #[.pointer (some ⟨X, 2, none⟩)] 112)
    have B6 := blk_new W3 [.pointer (some ⟨X, 2, none⟩)] 112
    have hs4 : (W3.alloc (.cells #[.pointer (some ⟨X, 2, none⟩)] 112)).heap.size = W3.heap.size + 1 := by simp
    dsimp only [List.toArray] at B6
    generalize hn3 : W3.heap.size = n3 at *
    have hs3 := hb3.size
    rw [hn3] at hs3
    have hs0 := HSZ.out
    clear hn3 hb3 B5 c3
    generalize W3.alloc (.cells #[.pointer (some ⟨X, 2, none⟩)] 112) = W4 at *
    have hbw : Below w.heap.size w W4 := hb0.trans (hb4.mono (by omega))
    have B04 := B0.below' hb4
    have B14 := B1.below' hb4
    have hit4 : W4.cell? ⟨X, 2, none⟩ = some v := (hb4.cell (p := ⟨X, 2, none⟩) hX0).trans (BX.cell (i := 2) (by simp) undef)
    have hD0 : DownAt W4 n3 X v (vals xs) := ⟨B6, hit4, hR0.below' hb4⟩
    have hb5lt := B5'.lt
    have hcX : ∀ W, Below w.heap.size w W → W.cell? ⟨X, 4, none⟩ = some (.int .i64 L) := fun W hb => (hb.cell (p := ⟨X, 4, none⟩) hXl).trans (hB.cell (i := 4) (by simp) undef)
    have HcX : Hid _ := hcX
    have hcl : ∀ p ∈ vals xs, p.cl < 18446744073709551616 := fun p hp => by
      unfold vals at hp
      obtain ⟨y, _, rfl⟩ := List.mem_map.1 hp
      exact y.2.2.1
    clear hcX B0 B1 BX hR0 hit4
    refine wpIn_rangeFunc_ownH rfl (by omega) (gf := 71) (lb := #[.pointer (some ⟨n3, 0, none⟩)]) rfl trivial (enters_of Tryd.func71 (by kernel_rfl) rfl)
      (down_stops 8 (by omega) n3 X w.heap.size v xs W4 (by omega) hXl (fun k e => hR.lt e) hD0 h64) (fun h k => kpD_t h k) (kpD_b (by omega) (by omega)) (Below.refl _ _) (fun _ => rfl)
      (fun pre W => Below w.heap.size w W ∧ Blk W w.heap.size 70 [.pointer (some ⟨X, 0, none⟩)] ∧ Blk W (w.heap.size + 1) 53 [sv (lemOf last L (vals pre) k)] ∧ Blk W b5 53 [sv last] ∧ Blk W n3 112 [.pointer (some ⟨X, 2, none⟩)]) (fun _ _ _ => False)
      (OwnFrom.and (ownFrom_below (Nat.le_refl _) (by omega)) (OwnFrom.and (blk_own _ _ _ (fun _ => _)) (OwnFrom.and (blk_own _ _ _ (fun pre => [sv (lemOf last L (vals pre) k)])) (OwnFrom.and (blk_own _ _ _ (fun _ => _)) (blk_own _ _ _ (fun _ => _)))))) (fun _ _ _ _ _ hs _ _ => hs)
      ⟨hbw, B04, B14, B5', B6⟩
      (fun x a' W => ∃ Bx, n3 + 1 ≤ Bx ∧ Blk W Bx 95 (pkc x.1) ∧ a' = { tmps := #[.pointer (some ⟨X, 0, none⟩), sv k, .pointer (some ⟨w.heap.size, 0, none⟩), .pointer (some ⟨w.heap.size + 1, 0, none⟩), .int .u64 0, .pointer (some ⟨b5, 0, none⟩), .pointer (some ⟨Bx, 0, none⟩), undef, undef, .pointer (some ⟨X, 0, none⟩), .pointer (some ⟨X, 0, none⟩), .pointer (some ⟨X, 0, none⟩), .pointer (some ⟨X, 4, none⟩), .int .i64 L, sv last, .pointer (some ⟨X, 0, none⟩), .pointer (some ⟨X, 0, none⟩), .pointer (some ⟨X, 2, none⟩), .func (.func 71) #[] #[.pointer (some ⟨n3, 0, none⟩)], pkv x.1, undef, undef, undef, undef, undef, undef, undef, undef, undef, undef, undef, undef, undef, undef, undef, undef, undef, undef, undef, undef, undef, undef, undef, undef, undef, undef, undef, undef, undef, undef, undef, undef, undef, undef, undef, undef, undef, undef, undef, undef, undef, undef, undef], defers := [] })
      (fun x a' s W W' row hs hg hr => by obtain ⟨Bx, h1, h2, h3⟩ := hs; exact ⟨Bx, h1, blk_own (β := Unit) _ Bx _ (fun _ => pkc x.1) () W W' row h2 hg hr, h3⟩) ?assign ?body ?done ?stop
    case assign =>
      rintro l pre x W K ⟨h1, h2, h3, h4, h5⟩ hK
      have hlW := h5.lt
      unfold pkv
      gi_wp2
      exact hK _ _ ((KeepsOthers.alloc _ _).from _) ⟨(Below.refl _ W).alloc h1.size _, Below.heap_alloc _ _ _ hlW⟩ ⟨h1.alloc h1.size _, h2.alloc _, h3.alloc _, h4.alloc _, h5.alloc _⟩ ⟨W.heap.size, hlW, blk_new W (pkc x.1) 95, rfl⟩
    case body =>
      rintro l pre x a' W hl ⟨r, hr⟩ ⟨h1, h2, h3, h4, h5⟩ ⟨Bx, hBx, bX, rfl⟩ hlt
      have p0 : W.cell? ⟨Bx, 0, none⟩ = some (sv x.1.lit) := bX.cell (i := 0) (by simp [pkc]) undef
      have p1 : W.cell? ⟨Bx, 1, none⟩ = some (sv x.1.cl) := bX.cell (i := 1) (by simp [pkc]) undef
      have p2 : W.cell? ⟨Bx, 2, none⟩ = some (.int .i64 x.1.lev) := bX.cell (i := 2) (by simp [pkc]) undef
      have s0 : W.cell? ⟨w.heap.size, 0, none⟩ = some (.pointer (some ⟨X, 0, none⟩)) := h2.cell (i := 0) (by simp) undef
      have c0 : W.cell? ⟨w.heap.size + 1, 0, none⟩ = some (sv (lemOf last L (vals pre) k)) := h3.cell (i := 0) (by simp) undef
      have c5 : W.cell? ⟨b5, 0, none⟩ = some (sv last) := h4.cell (i := 0) (by simp) undef
      have f0 := h3.frozen 0
      have x4 := HcX.out W h1
      have HE : Hid (lemOf last L (vals (pre ++ [x])) k = repl last L x.1 (lemOf last L (vals pre) k)) := by unfold Hid; rw [show vals (pre ++ [x]) = vals pre ++ [x.1] by simp [vals]]; exact lemOf_snoc last L x.1 (vals pre) k
      have hcl2 : ∀ p ∈ vals pre, p.cl < 18446744073709551616 := fun p hp => by
        unfold vals at hp
        obtain ⟨y, _, rfl⟩ := List.mem_map.1 hp
        exact y.2.2.1
      have hA64 := lemOf_lt last L (vals pre) k hcl2 hk
      obtain ⟨hx1, hx2, hx3⟩ := x.2
      have hl64 := HL.out
      obtain ⟨A, hA⟩ : ∃ A, lemOf last L (vals pre) k = A := ⟨_, rfl⟩
      rw [hA] at c0 HE hA64 h3
      have ho64 := opp_lt64 x.1.lit
      have HRe : Hid (repl last L x.1 A = if (x.1.lev = 0 ∨ (x.1.lev = L ∧ single (A &&& last) = false)) ∧ x.1.cl ≠ 0 ∧ within (opp x.1.lit) A = true then dif A (opp x.1.lit) ||| dif x.1.cl x.1.lit else A) := rfl
      have hand := bits_and_u64_nat A last hA64 hl64
      have hdif1 := dif_spell A (opp x.1.lit) hA64 ho64
      have hdif2 := dif_spell x.1.cl x.1.lit hx2 hx1
      have hd1 : dif A (opp x.1.lit) < 18446744073709551616 := dif_lt (k := 64) hA64
      have hd2 : dif x.1.cl x.1.lit < 18446744073709551616 := dif_lt (k := 64) hx2
      have hor := or_spell (dif A (opp x.1.lit)) (dif x.1.cl x.1.lit) hd1 hd2
      have hand64 : A &&& last < 18446744073709551616 := Nat.lt_of_le_of_lt Nat.and_le_left hA64
      have c1 := opposites_any x.1.lit hx1
      have c2 := single_any (A &&& last) hand64
      have c3 := within_any (opp x.1.lit) A ho64 hA64
      generalize opp x.1.lit = O at *
      generalize dif A O = d1 at *
      generalize dif x.1.cl x.1.lit = d2 at *
      generalize hsg : single (A &&& last) = sg at *
      generalize hwi : within O A = wi at *
      generalize A &&& last = AL at *
      have hd : 1 ≤ 9 - 1 - 1 := by omega
      clear hA hsg hwi hcl2 hlt hD0 hb4 hbw B04 B14 B5' B6
      gi_wp2_with (gi_at_call 39; refine (CallsIn.inRound l (callsIn_wide.2 (c1 _))).mono ?_; rintro e w' ⟨rfl, hw'⟩; obtain rfl := hw'.symm)
      obtain ⟨rp, hrp⟩ : ∃ rp : Bool, (rp = true ↔ (x.1.lev = 0 ∨ (x.1.lev = L ∧ sg = false))) := ⟨decide (x.1.lev = 0 ∨ (x.1.lev = L ∧ sg = false)), by simp⟩
      refine wpIn_cut (fun a W' => ∃ (nq : Nat), W' = W.drewN nq ∧ ∃ (u23 u24 u25 u26 u27 u28 u29 u30 u31 u32 u33 u34 u35 u36 u37 u38 u39 u40 u41 : Value), a = { tmps := #[.pointer (some ⟨X, 0, none⟩), sv k, .pointer (some ⟨w.heap.size, 0, none⟩), .pointer (some ⟨w.heap.size + 1, 0, none⟩), .int .u64 0, .pointer (some ⟨b5, 0, none⟩), .pointer (some ⟨Bx, 0, none⟩), sv O, .bool rp, .pointer (some ⟨X, 0, none⟩), .pointer (some ⟨X, 0, none⟩), .pointer (some ⟨X, 0, none⟩), .pointer (some ⟨X, 4, none⟩), .int .i64 L, sv last, .pointer (some ⟨X, 0, none⟩), .pointer (some ⟨X, 0, none⟩), .pointer (some ⟨X, 2, none⟩), .func (.func 71) #[] #[.pointer (some ⟨n3, 0, none⟩)], pkv x.1, .pointer (some ⟨Bx, 0, none⟩), sv x.1.lit, sv O, u23, u24, u25, u26, u27, u28, u29, u30, u31, u32, u33, u34, u35, u36, u37, u38, u39, u40, u41, undef, undef, undef, undef, undef, undef, undef, undef, undef, undef, undef, undef, undef, undef, undef, undef, undef, undef, undef, undef, undef], defers := [] }) ?_ ?_
      · by_cases hz : x.1.lev = 0
        · have hz' : ((x.1.lev : Int) == 0) = true := by simp [hz]
          obtain rfl : rp = true := hrp.2 (Or.inl hz)
          clear hrp hz HE HRe
          refine wpIn_quiet_round rfl hmx (by kernel_rfl) (no_defer (by rfl)) ?_
          repeat (gi_big_quiet_step ((gi_at_call 48; exact CallsIn.quiet_of_same (callsIn_wide.2 (c2 _)))))
          refine wpQuietIn_nil ?_
          rintro _ ⟨nq, rfl⟩
          exact ⟨_, rfl, _, _, _, _, _, _, _, _, _, _, _, _, _, _, _, _, _, _, _, rfl⟩
        · have hz' : ((x.1.lev : Int) == 0) = false := by simp; omega
          by_cases hLe : x.1.lev = L
          · have hL' : ((x.1.lev : Int) == (L : Int)) = true := by simp [hLe]
            cases sg with
            | true =>
              obtain rfl : rp = false := bool_false fun h => by rcases hrp.1 h with h | ⟨_, h⟩ <;> simp_all
              clear hrp hz HE HRe hLe
              refine wpIn_quiet_round rfl hmx (by kernel_rfl) (no_defer (by rfl)) ?_
              repeat (gi_big_quiet_step ((gi_at_call 48; exact CallsIn.quiet_of_same (callsIn_wide.2 (c2 _)))))
              refine wpQuietIn_nil ?_
              rintro _ ⟨nq, rfl⟩
              exact ⟨_, rfl, _, _, _, _, _, _, _, _, _, _, _, _, _, _, _, _, _, _, _, rfl⟩
            | false =>
              obtain rfl : rp = true := hrp.2 (Or.inr ⟨hLe, rfl⟩)
              clear hrp hz HE HRe hLe
              refine wpIn_quiet_round rfl hmx (by kernel_rfl) (no_defer (by rfl)) ?_
              repeat (gi_big_quiet_step ((gi_at_call 48; exact CallsIn.quiet_of_same (callsIn_wide.2 (c2 _)))))
              refine wpQuietIn_nil ?_
              rintro _ ⟨nq, rfl⟩
              exact ⟨_, rfl, _, _, _, _, _, _, _, _, _, _, _, _, _, _, _, _, _, _, _, rfl⟩
          · have hL' : ((x.1.lev : Int) == (L : Int)) = false := by simp; omega
            obtain rfl : rp = false := bool_false fun h => by rcases hrp.1 h with h | ⟨h, _⟩ <;> simp_all
            clear hrp hz HE HRe hLe
            refine wpIn_quiet_round rfl hmx (by kernel_rfl) (no_defer (by rfl)) ?_
            repeat (gi_big_quiet_step ((gi_at_call 48; exact CallsIn.quiet_of_same (callsIn_wide.2 (c2 _)))))
            refine wpQuietIn_nil ?_
            rintro _ ⟨nq, rfl⟩
            exact ⟨_, rfl, _, _, _, _, _, _, _, _, _, _, _, _, _, _, _, _, _, _, _, rfl⟩
      · rintro _ _ ⟨nq, rfl, u23, u24, u25, u26, u27, u28, u29, u30, u31, u32, u33, u34, u35, u36, u37, u38, u39, u40, u41, rfl⟩
        have HX : Hid (lemOf last L (vals (pre ++ [x])) k = if rp = true ∧ x.1.cl ≠ 0 ∧ wi = true then d1 ||| d2 else A) := by
          unfold Hid
          rw [HE.out, HRe.out]
          simp only [hrp]
        have n1 : ¬ (w.heap.size + 1 = w.heap.size) := by omega
        clear HE HRe hrp
        cases rp with
        | false =>
          have HX' : Hid (lemOf last L (vals (pre ++ [x])) k = A) := by unfold Hid; rw [HX.out]; simp
          gi_wp2
          exact ⟨(keeps_drewN _ _).from _, ⟨sea_drewN _ _ _, rfl⟩, h1.trans (sea_drewN _ _ _), h2.drewN _, by rw [HX'.out]; exact h3.drewN _, h4.drewN _, h5.drewN _⟩
        | true =>
          by_cases hz : x.1.cl = 0
          · have hz1 : ((x.1.cl : Int) == 0) = true := by simp [hz]
            have hz2 : ((x.1.cl : Int) != 0) = false := by simp [hz]
            have HX' : Hid (lemOf last L (vals (pre ++ [x])) k = A) := by unfold Hid; rw [HX.out]; simp [hz]
            clear hz
            gi_wp2
            exact ⟨(keeps_drewN _ _).from _, ⟨sea_drewN _ _ _, rfl⟩, h1.trans (sea_drewN _ _ _), h2.drewN _, by rw [HX'.out]; exact h3.drewN _, h4.drewN _, h5.drewN _⟩
          · have hz1 : ((x.1.cl : Int) == 0) = false := by simp [hz]
            have hz2 : ((x.1.cl : Int) != 0) = true := by simp [hz]
            cases wi with
            | false =>
              have HX' : Hid (lemOf last L (vals (pre ++ [x])) k = A) := by unfold Hid; rw [HX.out]; simp [hz]
              gi_wp2_with (gi_at_call 38; refine (CallsIn.inRound l (callsIn_wide.2 (c3 _))).mono ?_; rintro e w' ⟨rfl, hw'⟩; obtain rfl := hw'.symm)
              exact ⟨(keeps_drewN _ _).from _, ⟨sea_drewN _ _ _, rfl⟩, h1.trans (sea_drewN _ _ _), h2.drewN _, by rw [HX'.out]; exact h3.drewN _, h4.drewN _, h5.drewN _⟩
            | true =>
              have HX' : Hid (lemOf last L (vals (pre ++ [x])) k = d1 ||| d2) := by unfold Hid; rw [HX.out]; simp [hz]
              gi_wp2_with (gi_at_call 38; refine (CallsIn.inRound l (callsIn_wide.2 (c3 _))).mono ?_; rintro e w' ⟨rfl, hw'⟩; obtain rfl := hw'.symm)
              exact ⟨((keeps_drewN _ _).trans (KeepsOthers.setCell _ _ _)).from _, ⟨(sea_drewN w.heap.size W nq).setCell (p := ⟨w.heap.size + 1, 0, none⟩) (Nat.le_succ _) _, Below.heap_setCell (W.drewN nq) ⟨w.heap.size + 1, 0, none⟩ _ _ (by simp; omega)⟩,
                (h1.trans (sea_drewN _ _ nq)).setCell (p := ⟨w.heap.size + 1, 0, none⟩) (Nat.le_succ _) _, (h2.drewN nq).setOther (a := ⟨w.heap.size + 1, 0, none⟩) (by simp) _, by rw [HX'.out]; exact (h3.drewN nq).set 0 _, (h4.drewN nq).setOther (a := ⟨w.heap.size + 1, 0, none⟩) (by simp; omega) _, (h5.drewN nq).setOther (a := ⟨w.heap.size + 1, 0, none⟩) (by simp; omega) _⟩
    case done =>
      rintro D ys W hD rfl ⟨h1, h2, h3, -⟩ hK
      have c0 : W.cell? ⟨w.heap.size + 1, 0, none⟩ = some (sv (lemOf last L (vals ys) k)) := h3.cell (i := 0) (by simp) undef
      gi_wp2
      refine ⟨by simp, .inl ⟨_, _, rfl, run_takeDeferred hK, ?_⟩⟩
      exact ⟨_, results_tmp rfl _ _ _, by rw [HLa.out]; rfl, h1.trans (belowK_b (w := w) (Nat.le_refl _) W D _ _ (by omega) hK rfl rfl)⟩
    case stop =>
      rintro D c pre W _ _ h _
      exact h.elim
end Go.Proofs.YtlodenfdcckemabDoor

/-
  The walks of put and back.
-/

namespace Go.Proofs.YtlodenfdcckemabDoor
open Go.RowKit Go.Shelf

attribute [local go_sem] Oper.semAt_some
attribute [local go_sem] wide_fn

/-- The search in memory: its block, the picks' row. -/
structure SeaAt (w : World) (X : Nat) (a0 a1 v : Value) (T L : Nat) (P : List Pk) : Prop where
  head : Blk w X 80 [a0, a1, v, sv T, .int .i64 L]
  row : Row3 w v P

theorem SeaAt.of_chg {w w' : World} {X : Nat} {a0 a1 v : Value} {T L : Nat} {P : List Pk} {S : Nat → Prop} (h : SeaAt w X a0 a1 v T L P) (hc : Chg S w w') (h1 : ¬ S X) (h2 : ∀ k, v.ownBlock = some k → ¬ S k) : SeaAt w' X a0 a1 v T L P := ⟨h.head.chg hc h1, h.row.chg hc h2⟩
theorem SeaAt.below' {w w' : World} {X : Nat} {a0 a1 v : Value} {T L : Nat} {P : List Pk} (h : SeaAt w X a0 a1 v T L P) (hb : Below w.heap.size w w') : SeaAt w' X a0 a1 v T L P := ⟨h.head.below' hb, h.row.below' hb⟩

set_option maxHeartbeats 1000000 in
theorem put_any (X : Nat) (a0 a1 v : Value) (T L : Nat) (P : List Pk) (o k : Nat) (w : World) (h : SeaAt w X a0 a1 v T L P) (hn : P.length < 64) (hT : T < 18446744073709551616) (ho : o < 18446744073709551616) :
    Calls Tryd.prog 53 #[.pointer (some ⟨X, 0, none⟩), sv o, sv k] w fun e w' => e = .returned (.tuple #[]) ∧
      ∃ v', SeaAt w' X a0 a1 v' (T ||| o) L (⟨o, k, L⟩ :: P) ∧ Chg (fun b => b = X ∨ v.ownBlock = some b) w w' ∧ (∀ b, v'.ownBlock = some b → v.ownBlock = some b ∨ w.heap.size ≤ b) := by
  have c4 : w.cell? ⟨X, 4, none⟩ = some (.int .i64 L) := h.head.cell (i := 4) (by simp) undef
  have cp := spush_any X a0 a1 v (sv T) (.int .i64 L) P ⟨o, k, L⟩
  have hor := or_spell T o hT ho
  have hXl := h.head.lt
  simp only [pkv] at cp
  have hRd : Row3 w.drew v P := h.row
  go_enter Tryd.func53, Tryd.ntmps53
  go_wp2
  go_region_law (go_simp; go_at_call 69; refine (cp _ h.head.drew hRd hn).mono ?_; rintro e w1 ⟨rfl, v', hR1, hB1, hC1, hO1⟩; have d3 : w1.cell? ⟨X, 3, none⟩ = some (sv T) := hB1.cell (i := 3) (by simp) undef; have f3 := hB1.frozen 3; dsimp only)
  go_wp2
  go_end0
  have hne : v'.ownBlock ≠ some X := hR1.ne_blk hB1 (by decide)
  refine ⟨rfl, v', ⟨hB1.set 3 _, hR1.of_block fun b e => Below.heap_setCell _ _ _ _ (fun e' => hne (by rw [e]; exact congrArg some e'))⟩, (((Chg.refl _ w).drew).trans hC1).setB X 3 (Or.inl rfl) _, hO1⟩

/-! Back. -/

theorem lv_le : ∀ P : List Pk, lv P ≤ P.length
  | [] => Nat.le_refl _
  | p :: P => by have := lv_le P; rw [lv, List.length_cons]; split <;> omega

theorem Trail.pks {V : Nat} (hV : V ≤ 20) {D : Nat → Prop} {P : List Pk} (h : Trail V D P) (hn : P.length ≤ 64) : ∀ p ∈ P, p.lit < 18446744073709551616 ∧ p.cl < 18446744073709551616 ∧ p.lev ≤ 64 := by
  have hl := lv_le P
  intro p hp
  have h3 := h.level hp
  obtain ⟨A, B, rfl⟩ := List.append_of_mem hp
  obtain ⟨-, -, n, h4, h5, -, -, h6⟩ := h.drop
  refine ⟨by rw [h5]; exact lt64 hV (two_pow_lt h4), ?_, by omega⟩
  rcases h6 with h6 | ⟨-, h6, -⟩
  · rw [h6]; decide
  · exact lt64 hV h6

/-- The test of back. -/
def backAt (L c : Nat) (p : Pk) : Prop := p.lev < L ∧ within (opp p.lit) c = true

theorem backLev_none (L c : Nat) : ∀ P : List Pk, (∀ p ∈ P, ¬ backAt L c p) → backLev L c P = 0
  | [], _ => rfl
  | p :: P, h => by rw [backLev, if_neg (show ¬ (p.lev < L ∧ within (opp p.lit) c = true) from h p List.mem_cons_self)]; exact backLev_none L c P (fun q hq => h q (List.mem_cons_of_mem _ hq))

theorem backLev_at (L c : Nat) (x : Pk) (t : List Pk) (hx : backAt L c x) : ∀ P : List Pk, (∀ p ∈ P, ¬ backAt L c p) → backLev L c (P ++ x :: t) = x.lev
  | [], _ => by rw [List.nil_append, backLev, if_pos (show x.lev < L ∧ within (opp x.lit) c = true from hx)]
  | p :: P, h => by rw [List.cons_append, backLev, if_neg (show ¬ (p.lev < L ∧ within (opp p.lit) c = true) from h p List.mem_cons_self)]; exact backLev_at L c x t hx P (fun q hq => h q (List.mem_cons_of_mem _ hq))

theorem backLev_le (L c : Nat) : ∀ P : List Pk, backLev L c P ≤ L
  | [] => Nat.zero_le _
  | p :: P => by
    rw [backLev]
    split
    · rename_i h; omega
    · exact backLev_le L c P

theorem Chg.put {S : Nat → Prop} {w W : World} (h : Chg S w W) {D : Nat} (hD : w.heap.size ≤ D) (o : Obj) : Chg S w (W.putObj D o) :=
  ⟨h.os, h.tape, h.output, by rw [World.putObj_size]; exact h.size, fun i hi hn => (World.putObj_heap_other (by omega)).trans (h.block i hi hn), fun i o' hi ho => (World.putObj_heap_other (by have := (Array.getElem?_eq_some_iff.1 hi).1; omega)).trans (h.others i o' hi ho)⟩

/-- How many picks there are, read off the world. -/
def picksLen (X : Nat) (w : World) : Nat := match w.cell? ⟨X, 2, none⟩ with | some (.slice _ n _) => n | _ => 0

theorem SeaAt.len {w : World} {X : Nat} {a0 a1 v : Value} {T L : Nat} {P : List Pk} (h : SeaAt w X a0 a1 v T L P) : picksLen X w = P.length := by
  obtain ⟨ao, cap, hv⟩ := h.row.shape
  have : w.cell? ⟨X, 2, none⟩ = some v := h.head.cell (i := 2) (by simp) undef
  unfold picksLen
  rw [this, hv]

theorem Trail.without {V : Nat} (hV : V ≤ 20) {D : Nat → Prop} {p : Pk} {P : List Pk} (h : Trail V D (p :: P)) : dif (truthOf (p :: P)) p.lit = truthOf P := by
  obtain ⟨hT, -, n, hn, e, hnew, -⟩ := h
  have hs := hT.small
  have h1 : truthOf (p :: P) < 2 ^ (2 * V) := by rw [truthOf, e]; exact Nat.or_lt_two_pow hs (two_pow_lt hn)
  apply Nat.eq_of_testBit_eq
  intro i
  rw [dif_bit (lt64 hV h1) (by rw [e]; exact lt64 hV (two_pow_lt hn)), truthOf, e, Nat.testBit_or]
  cases h2 : (2 ^ n).testBit i with
  | false => simp
  | true =>
    rw [two_pow_bit] at h2
    subst h2
    rw [hnew]; rfl

set_option maxRecDepth 100000 in
set_option maxHeartbeats 4000000 in
theorem back_any (V : Nat) (hV : V ≤ 20) (D : Nat → Prop) (X : Nat) (a0 a1 v : Value) (P : List Pk) (c : Nat) (w : World) (h : SeaAt w X a0 a1 v (truthOf P) (lv P) P) (hT : Trail V D P) (hn : P.length ≤ 64) (hc : c < 18446744073709551616) :
    Calls Tryd.prog 40 #[.pointer (some ⟨X, 0, none⟩), sv c] w fun e w' => e = .returned (.tuple #[]) ∧
      ∃ v', SeaAt w' X a0 a1 v' (truthOf (popTo (backLev (lv P) c P) P)) (lv (popTo (backLev (lv P) c P) P)) (popTo (backLev (lv P) c P) P) ∧ v'.ownBlock = v.ownBlock ∧ Chg (fun b => b = X ∨ v.ownBlock = some b) w w' := by
  have hXl := h.head.lt
  obtain ⟨xs, hxs⟩ := pks_of P (hT.pks hV hn)
  have hlen : xs.length = P.length := by rw [← hxs]; simp [vals]
  refine (callsIn_wide (n := 9)).1 ?_
  refine callsIn_of_wp_marks Tryd.func40 rfl trivial ?_ rfl
  simp only [Tryd.ntmps40, List.size_toArray, List.length_cons, List.length_nil, Nat.reduceAdd, Nat.reduceSub, Array.replicate_succ, Array.replicate_zero, List.push_toArray, List.append_toArray, List.nil_append, List.cons_append]
  have hmx : Tryd.prog.follows .mixedOrders = true := by kernel_rfl
  gi_wp2_with (gi_at_call 56; refine (callsIn_wide.2 (down_any X _)).mono ?_; rintro e w' ⟨rfl, rfl⟩)
  rename_i Q1 K1 hK1
  have hb0 : Below w.heap.size w ((((w.alloc (.cells #[.pointer (some ⟨X, 0, none⟩)] 70)).alloc (.cells #[sv c] 53)).alloc (.cells #[.int .i64 0] 3)).alloc (.cells #[.pointer (some ⟨X, 2, none⟩)] 112)) := ((((Below.refl _ _).alloc (Nat.le_refl _) _).alloc (by simp) _).alloc (by simp; omega) _).alloc (by simp; omega) _
  have B0 := (((blk_new w [.pointer (some ⟨X, 0, none⟩)] 70).alloc (.cells #[sv c] 53)).alloc (.cells #[.int .i64 0] 3)).alloc (.cells #[.pointer (some ⟨X, 2, none⟩)] 112)
  have B1 := ((blk_new (w.alloc (.cells #[.pointer (some ⟨X, 0, none⟩)] 70)) [sv c] 53).alloc (.cells #[.int .i64 0] 3)).alloc (.cells #[.pointer (some ⟨X, 2, none⟩)] 112)
  have B2 := (blk_new ((w.alloc (.cells #[.pointer (some ⟨X, 0, none⟩)] 70)).alloc (.cells #[sv c] 53)) [.int .i64 0] 3).alloc (.cells #[.pointer (some ⟨X, 2, none⟩)] 112)
  have B3 := blk_new (((w.alloc (.cells #[.pointer (some ⟨X, 0, none⟩)] 70)).alloc (.cells #[sv c] 53)).alloc (.cells #[.int .i64 0] 3)) [.pointer (some ⟨X, 2, none⟩)] 112
  have hsz : ((((w.alloc (.cells #[.pointer (some ⟨X, 0, none⟩)] 70)).alloc (.cells #[sv c] 53)).alloc (.cells #[.int .i64 0] 3)).alloc (.cells #[.pointer (some ⟨X, 2, none⟩)] 112)).heap.size = w.heap.size + 1 + 1 + 1 + 1 := by simp
  rw [World.size_alloc] at B1
  rw [World.size_alloc, World.size_alloc] at B2
  rw [World.size_alloc, World.size_alloc, World.size_alloc] at B3
  dsimp only [List.toArray] at B0 B1 B2 B3
  generalize (((w.alloc (.cells #[.pointer (some ⟨X, 0, none⟩)] 70)).alloc (.cells #[sv c] 53)).alloc (.cells #[.int .i64 0] 3)).alloc (.cells #[.pointer (some ⟨X, 2, none⟩)] 112) = W0 at *
  have hR0 : Row3 W0 v (vals xs) := by rw [hxs]; exact h.row.below' hb0
  have hD0 : DownAt W0 (w.heap.size + 1 + 1 + 1) X v (vals xs) := ⟨B3, (hb0.cell (p := ⟨X, 2, none⟩) hXl).trans (h.head.cell (i := 2) (by simp) undef), hR0⟩
  have hcX : Hid (∀ W, Below w.heap.size w W → W.cell? ⟨X, 4, none⟩ = some (.int .i64 (lv P))) := fun W hb => (hb.cell (p := ⟨X, 4, none⟩) hXl).trans (h.head.cell (i := 4) (by simp) undef)
  -- what is left behind the range
  have hAll : ∀ (D' : Nat) (W : World), Below w.heap.size w W → Blk W w.heap.size 70 [.pointer (some ⟨X, 0, none⟩)] → Blk W (w.heap.size + 1 + 1) 3 [.int .i64 (backLev (lv P) c P)] → w.heap.size ≤ D' → W.heap[D']? = some (.deferred (some [])) → K1 { tmps := #[.pointer (some ⟨X, 0, none⟩), sv c, .pointer (some ⟨w.heap.size, 0, none⟩), .pointer (some ⟨w.heap.size + 1, 0, none⟩), .pointer (some ⟨w.heap.size + 1 + 1, 0, none⟩), undef, undef, undef, .pointer (some ⟨X, 0, none⟩), .pointer (some ⟨X, 0, none⟩), .pointer (some ⟨X, 2, none⟩), .func (.func 71) #[] #[.pointer (some ⟨w.heap.size + 1 + 1 + 1, 0, none⟩)], undef, undef, undef, undef, undef, undef, undef, undef, undef, undef, undef, undef, undef, undef, undef, undef, undef, undef, undef, undef, undef, undef, undef, undef, undef, undef, undef, undef, undef, undef, undef, undef, undef, undef, undef, undef, undef, undef, undef, undef, undef, undef, undef, undef, undef, undef, undef, undef, undef], defers := [{ target := .collected D', args := #[] }] } W := by
    intro D' W hbW BsW BtW hD' hKW
    refine hK1 _ _ ?_
    clear hK1 hcX hD0 hR0 B0 B1 B2 B3 hb0 hsz hxs hlen
    have HTo : Hid (backLev (lv P) c P ≤ 64) := by
      unfold Hid
      by_cases h0 : 0 < backLev (lv P) c P
      · have hl := lv_le P
        have : backLev (lv P) c P ≤ lv P := backLev_le (lv P) c P
        omega
      · omega
    generalize hto0 : backLev (lv P) c P = to at HTo BtW
    have HToE : Hid (backLev (lv P) c P = to) := hto0
    clear hto0
    have hWs := hbW.size
    gi_wp2
    gi_loopw [29] (fun _ wr => ∃ (v' : Value) (P' : List Pk), Hid (SeaAt wr X a0 a1 v' (truthOf P') (lv P') P') ∧ Hid (Trail V D P') ∧ Hid (popTo to P' = popTo to P) ∧ Hid (P'.length ≤ 64) ∧ Hid (v'.ownBlock = v.ownBlock) ∧ Hid (Blk wr w.heap.size 70 [.pointer (some ⟨X, 0, none⟩)]) ∧ Hid (Blk wr (w.heap.size + 1 + 1) 3 [.int .i64 to]) ∧ Hid (Chg (fun b => b = X ∨ v.ownBlock = some b) w wr) ∧ Hid (wr.heap[D']? = some (.deferred (some [])))) (fun _ wr => picksLen X wr)
    case atStart => exact ⟨v, P, h.below' hbW, hT, rfl, hn, rfl, BsW, BtW, Chg.of_below hbW, hKW⟩
    case round =>
      obtain ⟨v', P', HS, HT, HP, HN, HO, HBs, HBt, HC, HK⟩ := hrel
      have s0 : wr.cell? ⟨w.heap.size, 0, none⟩ = some (.pointer (some ⟨X, 0, none⟩)) := HBs.out.cell (i := 0) (by simp) undef
      have t0 : wr.cell? ⟨w.heap.size + 1 + 1, 0, none⟩ = some (.int .i64 to) := HBt.out.cell (i := 0) (by simp) undef
      have l4 : wr.cell? ⟨X, 4, none⟩ = some (.int .i64 (lv P')) := HS.out.head.cell (i := 4) (by simp) undef
      have hlvl : lv P' ≤ 64 := Nat.le_trans (lv_le P') HN.out
      have hto := HTo.out
      by_cases hgt : to < lv P'
      · have hgt' : decide (to < lv P') = true := by simp; omega
        obtain ⟨p, P2, rfl⟩ : ∃ p P2, P' = p :: P2 := by
          cases P' with
          | nil => simp [lv] at hgt
          | cons p P2 => exact ⟨p, P2, rfl⟩
        have HP2 : Hid (popTo to P2 = popTo to P) := by unfold Hid; rw [← HP.out, popTo, if_pos hgt]
        obtain ⟨hp1, hp2, hp3⟩ := HT.out.pks hV HN.out p List.mem_cons_self
        have hTs := lt64 hV HT.out.small
        have hdif := dif_spell (truthOf (p :: P2)) p.lit hTs hp1
        rw [HT.out.without hV] at hdif
        have hlen2 : P2.length < 64 := by have := HN.out; simp at this; omega
        have HLv : Hid (lv (p :: P2) = if p.cl = 0 then lv P2 + 1 else lv P2) := by
          have hlp := HT.out.2.1
          have hl0 : p.lev ≠ 0 := by omega
          unfold Hid
          rw [lv]
          simp only [hl0, ne_eq, not_false_eq_true, and_true]
        have cpop := spop_any X a0 a1 v' (sv (truthOf (p :: P2))) (.int .i64 (lv (p :: P2))) P2 p
        simp only [pkv] at cpop
        have hRr : ∀ nq, Row3 (wr.drewN nq) v' (p :: P2) := fun _ => HS.out.row
        have hBr : ∀ nq, Blk (wr.drewN nq) X 80 [a0, a1, v', sv (truthOf (p :: P2)), .int .i64 (lv (p :: P2))] := fun _ => HS.out.head
        have HTs : Hid (truthOf (p :: P2) < 18446744073709551616) := hTs
        generalize truthOf (p :: P2) = T at *
        generalize hll : lv (p :: P2) = L at *
        clear hll hTs
        have hwX : w.heap.size ≤ wr.heap.size := HC.out.size
        have HMs : Hid (picksLen X wr = P2.length + 1) := by unfold Hid; rw [HS.out.len]; rfl
        gi_wp2
        gi_big_quiet_th_o (fail)
        gi_wp2_with (gi_at_call 57; refine (callsIn_wide.2 (cpop _ (hBr _) (hRr _) hlen2)).mono ?_; rintro e W2 ⟨rfl, v2, hR2, hB2, hO2, hC2⟩)
        have hvX : ∀ k, v'.ownBlock = some k → k < w.heap.size := fun k e => by rw [HO.out] at e; exact h.row.lt e
        have hnS : ∀ k, w.heap.size ≤ k → ¬ (k = X ∨ v'.ownBlock = some k) := by
          rintro k hk (e | e)
          · omega
          · have := hvX k e; omega
        have hBs2 : Blk W2 w.heap.size 70 [.pointer (some ⟨X, 0, none⟩)] := Blk.chg (w := wr.drewN nq) HBs.out hC2 (hnS _ (Nat.le_refl _))
        have hBt2 : Blk W2 (w.heap.size + 1 + 1) 3 [.int .i64 to] := Blk.chg (w := wr.drewN nq) HBt.out hC2 (hnS _ (by omega))
        have hK2 : W2.heap[D']? = some (.deferred (some [])) := hC2.others D' _ HK.out rfl
        have hC02 : Chg (fun b => b = X ∨ v.ownBlock = some b) w W2 := (HC.out.drewN nq).trans2 hC2 (fun i _ e => by rw [HO.out] at e; exact e)
        have B3 := blk_new W2 [.int .u64 p.lit, .int .u64 p.cl, .int .i64 p.lev] 95
        have hA := alloc_below W2 (.cells #[.int .u64 p.lit, .int .u64 p.cl, .int .i64 p.lev] 95)
        have hS3 := alloc_size W2 (.cells #[.int .u64 p.lit, .int .u64 p.cl, .int .i64 p.lev] 95)
        dsimp only [List.toArray] at B3
        generalize W2.alloc (.cells #[.int .u64 p.lit, .int .u64 p.cl, .int .i64 p.lev] 95) = W3 at *
        have hB3 := hB2.below' hA
        have hR3 := hR2.below' hA
        have hX2 := hB2.lt
        have s3 : W3.cell? ⟨w.heap.size, 0, none⟩ = some (.pointer (some ⟨X, 0, none⟩)) := (hBs2.below' hA).cell (i := 0) (by simp) undef
        have x3 : W3.cell? ⟨X, 3, none⟩ = some (sv T) := hB3.cell (i := 3) (by simp) undef
        have x4 : W3.cell? ⟨X, 4, none⟩ = some (.int .i64 L) := hB3.cell (i := 4) (by simp) undef
        have g3 := hB3.frozen 3
        have g4 := hB3.frozen 4
        generalize hn2 : W2.heap.size = n2 at *
        have q0 : W3.cell? ⟨n2, 0, none⟩ = some (.int .u64 p.lit) := B3.cell (i := 0) (by simp) undef
        have q1 : W3.cell? ⟨n2, 1, none⟩ = some (.int .u64 p.cl) := B3.cell (i := 1) (by simp) undef
        have HNe : Hid (v2.ownBlock ≠ some X) := hR3.ne_blk hB3 (by decide)
        have HB3 : Hid _ := hB3
        have HR3 : Hid _ := hR3
        have HBs3 : Hid _ := hBs2.below' (by rw [hn2]; exact hA)
        have HBt3 : Hid _ := hBt2.below' (by rw [hn2]; exact hA)
        have HK3 : Hid (W3.heap[D']? = some (.deferred (some []))) := (hA.block D' (by rw [← hn2]; exact (Array.getElem?_eq_some_iff.1 hK2).1)).trans hK2
        have HC3 : Hid (Chg (fun b => b = X ∨ v.ownBlock = some b) w W3) := hC02.trans (Chg.of_below (by rw [hn2]; exact hA))
        have hX2' : X < n2 := hX2
        have hXn : ¬ X = n2 := by omega
        have hnX : ¬ n2 = X := by omega
        have hwXn : ¬ w.heap.size = X := by omega
        have HFin : Hid (∀ F, Blk F X 80 [a0, a1, v2, sv (truthOf P2), .int .i64 (lv P2)] → Chg (fun b => b = X) W3 F → (∃ (v' : Value) (P' : List Pk), Hid (SeaAt F X a0 a1 v' (truthOf P') (lv P') P') ∧ Hid (Trail V D P') ∧ Hid (popTo to P' = popTo to P) ∧ Hid (P'.length ≤ 64) ∧ Hid (v'.ownBlock = v.ownBlock) ∧ Hid (Blk F w.heap.size 70 [.pointer (some ⟨X, 0, none⟩)]) ∧ Hid (Blk F (w.heap.size + 1 + 1) 3 [.int .i64 to]) ∧ Hid (Chg (fun b => b = X ∨ v.ownBlock = some b) w F) ∧ Hid (F.heap[D']? = some (.deferred (some [])))) ∧ picksLen X F < picksLen X wr) := by
          intro F hF hC
          have hS : SeaAt F X a0 a1 v2 (truthOf P2) (lv P2) P2 := ⟨hF, (show Row3 W3 v2 P2 from HR3.out).chg hC (fun k e e' => HNe.out (by rw [e, e']))⟩
          refine ⟨⟨v2, P2, hS, HT.out.1, HP2.out, by unfold Hid; omega, hO2.trans HO.out, Blk.chg (w := W3) HBs3.out hC (by omega), Blk.chg (w := W3) HBt3.out hC (by omega), HC3.out.trans (hC.mono fun k _ e => Or.inl e), hC.others D' _ HK3.out rfl⟩, ?_⟩
          rw [hS.len, HMs.out]
          omega
        clear hB2 hR2 hC2 hBs2 hBt2 hK2 hC02 B3 hA hS3 hX2 hB3 hR3 cpop hRr hBr s0 t0 l4 hgt
        refine wpIn_calm ?_
        gi_region_with_o (fail)
        all_goals
          by_cases hz : p.cl = 0
          · have hz' : ((p.cl : Int) == 0) = true := by simp [hz]
            have hL1 : (L : Int) - 1 = (lv P2 : Int) := by have h1 := HLv.out; rw [if_pos hz] at h1; omega
            clear hz
            gi_wp2
            exact HFin.out _ ((((show Blk W3 X _ _ from HB3.out).set 3 _).drew).set 4 _) ((((Chg.refl (fun b => b = X) W3).setB X 3 rfl _).drew).setB X 4 rfl _)
          · have hz' : ((p.cl : Int) == 0) = false := by simp; omega
            have HL1 : Hid ((lv P2 : Int) = (L : Int)) := by have h1 := HLv.out; unfold Hid; rw [if_neg hz] at h1; omega
            clear hz
            gi_wp2
            exact HFin.out _ (by rw [HL1.out]; exact ((show Blk W3 X _ _ from HB3.out).set 3 _).drew) (((Chg.refl (fun b => b = X) W3).setB X 3 rfl _).drew)
      · have hgt' : decide (to < lv P') = false := by simp; omega
        have HE : Hid (popTo to P = P') := by
          unfold Hid
          rw [← HP.out]
          cases P' with
          | nil => rfl
          | cons p P' => rw [popTo, if_neg hgt]
        gi_wp2
        gi_big_quiet_th_o (fail)
        gi_wp2
        refine ⟨by simp, .inl ⟨_, _, rfl, run_takeDeferred (show (wr.drewN nq).heap[D']? = _ from HK.out), ?_⟩⟩
        refine ⟨_, results_none rfl _ _ _, rfl, v', ?_, HO.out, (HC.out.drewN nq).put hD' _⟩
        have hXD : X ≠ D' := by omega
        have hS : SeaAt (wr.drewN nq) X a0 a1 v' (truthOf P') (lv P') P' := ⟨HS.out.head, HS.out.row⟩
        rw [HToE.out, HE.out]
        exact ⟨hS.head.of_block (World.putObj_heap_other hXD), hS.row.of_block fun k e => World.putObj_heap_other (by rw [HO.out] at e; have := h.row.lt e; omega)⟩
  refine wpIn_rangeFunc_ownH rfl (by omega) (gf := 71) (lb := #[.pointer (some ⟨w.heap.size + 1 + 1 + 1, 0, none⟩)]) rfl trivial (enters_of Tryd.func71 (by kernel_rfl) rfl)
    (down_stops 8 (by omega) (w.heap.size + 1 + 1 + 1) X w.heap.size v xs W0 (by omega) hXl (fun k e => h.row.lt e) hD0 (by omega)) (fun h k => kpD_t h k) (kpD_b (by omega) (by omega)) (Below.refl _ _) (fun _ => rfl)
    (fun pre W => (∀ p ∈ vals pre, ¬ backAt (lv P) c p) ∧ Below w.heap.size w W ∧ Blk W w.heap.size 70 [.pointer (some ⟨X, 0, none⟩)] ∧ Blk W (w.heap.size + 1) 53 [sv c] ∧ Blk W (w.heap.size + 1 + 1) 3 [.int .i64 0] ∧ Blk W (w.heap.size + 1 + 1 + 1) 112 [.pointer (some ⟨X, 2, none⟩)])
    (fun cd pre W => (cd = .exit 0 ∧ ∃ (q : List Pks) (x : Pks), pre = q ++ [x] ∧ (∀ p ∈ vals q, ¬ backAt (lv P) c p) ∧ backAt (lv P) c x.1) ∧ Below w.heap.size w W ∧ Blk W w.heap.size 70 [.pointer (some ⟨X, 0, none⟩)] ∧ Blk W (w.heap.size + 1 + 1) 3 [.int .i64 ((vals pre).getLastD pk0).lev])
    (OwnFrom.and (ownFrom_pure _ _) (OwnFrom.and (ownFrom_below (Nat.le_refl _) (by omega)) (OwnFrom.and (blk_own _ _ _ (fun _ => _)) (OwnFrom.and (blk_own _ _ _ (fun _ => _)) (OwnFrom.and (blk_own _ _ _ (fun _ => _)) (blk_own _ _ _ (fun _ => _)))))))
    (fun cd => OwnFrom.and (ownFrom_pure _ _) (OwnFrom.and (ownFrom_below (Nat.le_refl _) (by omega)) (OwnFrom.and (blk_own _ _ _ (fun _ => _)) (blk_own _ _ _ (fun pre => [.int .i64 ((vals pre).getLastD pk0).lev])))))
    ⟨fun p hp => (by cases hp), hb0, B0, B1, B2, B3⟩
    (fun x a' W => ∃ Bx, w.heap.size + 1 + 1 + 1 + 1 ≤ Bx ∧ Blk W Bx 95 (pkc x.1) ∧ a' = { tmps := #[.pointer (some ⟨X, 0, none⟩), sv c, .pointer (some ⟨w.heap.size, 0, none⟩), .pointer (some ⟨w.heap.size + 1, 0, none⟩), .pointer (some ⟨w.heap.size + 1 + 1, 0, none⟩), .pointer (some ⟨Bx, 0, none⟩), undef, undef, .pointer (some ⟨X, 0, none⟩), .pointer (some ⟨X, 0, none⟩), .pointer (some ⟨X, 2, none⟩), .func (.func 71) #[] #[.pointer (some ⟨w.heap.size + 1 + 1 + 1, 0, none⟩)], pkv x.1, undef, undef, undef, undef, undef, undef, undef, undef, undef, undef, undef, undef, undef, undef, undef, undef, undef, undef, undef, undef, undef, undef, undef, undef, undef, undef, undef, undef, undef, undef, undef, undef, undef, undef, undef, undef, undef, undef, undef, undef, undef, undef, undef, undef, undef, undef, undef, undef], defers := [] })
    (fun x a' s W W' row hs hg hr => by obtain ⟨Bx, h1, h2, h3⟩ := hs; exact ⟨Bx, h1, blk_own (β := Unit) _ Bx _ (fun _ => pkc x.1) () W W' row h2 hg hr, h3⟩) ?assign ?body ?done ?stop
  case assign =>
    rintro l pre x W K ⟨h0, h1, h2, h3, h4, h5⟩ hK
    have hlW := h5.lt
    unfold pkv
    gi_wp2
    exact hK _ _ ((KeepsOthers.alloc _ _).from _) ⟨(Below.refl _ W).alloc h1.size _, Below.heap_alloc _ _ _ hlW⟩ ⟨h0, h1.alloc h1.size _, h2.alloc _, h3.alloc _, h4.alloc _, h5.alloc _⟩ ⟨W.heap.size, hlW, blk_new W (pkc x.1) 95, rfl⟩
  case body =>
    rintro l pre x a' W hl ⟨r, hr⟩ ⟨h0, h1, h2, h3, h4, h5⟩ ⟨Bx, hBx, bX, rfl⟩ hlt
    have p0 : W.cell? ⟨Bx, 0, none⟩ = some (sv x.1.lit) := bX.cell (i := 0) (by simp [pkc]) undef
    have p2 : W.cell? ⟨Bx, 2, none⟩ = some (.int .i64 x.1.lev) := bX.cell (i := 2) (by simp [pkc]) undef
    have s0 : W.cell? ⟨w.heap.size, 0, none⟩ = some (.pointer (some ⟨X, 0, none⟩)) := h2.cell (i := 0) (by simp) undef
    have c0 : W.cell? ⟨w.heap.size + 1, 0, none⟩ = some (sv c) := h3.cell (i := 0) (by simp) undef
    have x4 := hcX.out W h1
    have t0 : W.cell? ⟨w.heap.size + 1 + 1, 0, none⟩ = some (.int .i64 0) := h4.cell (i := 0) (by simp) undef
    have tf := h4.frozen 0
    obtain ⟨hx1, hx2, hx3⟩ := x.2
    have ho64 := opp_lt64 x.1.lit
    have c1 := opposites_any x.1.lit hx1
    have c3 := within_any (opp x.1.lit) c ho64 hc
    have HB : Hid (backAt (lv P) c x.1 ↔ (x.1.lev < lv P ∧ within (opp x.1.lit) c = true)) := Iff.rfl
    have HV : Hid (vals (pre ++ [x]) = vals pre ++ [x.1]) := by unfold Hid; simp [vals]
    have H0 : Hid (∀ p ∈ vals pre, ¬ backAt (lv P) c p) := h0
    generalize opp x.1.lit = O at *
    generalize hwi : within O c = wi at *
    generalize lv P = L at *
    clear hlt hD0 hR0 B0 B1 B2 B3 hb0 hAll hwi h0
    have HGo : Hid (¬ backAt L c x.1 → ∀ p ∈ vals (pre ++ [x]), ¬ backAt L c p) := fun hx p hp => by
      rw [HV.out] at hp
      rcases List.mem_append.1 hp with hp | hp
      · exact H0.out p hp
      · rw [List.mem_singleton] at hp; rw [hp]; exact hx
    by_cases hlt : x.1.lev < L
    · have hlt' : decide ((x.1.lev : Int) < (L : Int)) = true := by simp; omega
      cases wi with
      | true =>
        gi_wp2
        refine wpIn_quiet_round rfl hmx (by kernel_rfl) (no_defer (by rfl)) ?_
        repeat (gi_big_quiet_step (first | (gi_at_call 39; exact CallsIn.quiet_of_same (callsIn_wide.2 (c1 _))) | (gi_at_call 38; exact CallsIn.quiet_of_same (callsIn_wide.2 (c3 _)))))
        refine wpQuietIn_nil ?_
        rintro _ ⟨nq, rfl⟩
        gi_wp2
        refine ⟨((keeps_drewN _ _).trans (KeepsOthers.setCell _ _ _)).from _, ⟨rfl, pre, x, rfl, H0.out, HB.out.2 ⟨hlt, by first | rfl | trivial⟩⟩, (h1.trans (sea_drewN _ _ nq)).setCell (p := ⟨w.heap.size + 1 + 1, 0, none⟩) (show w.heap.size ≤ w.heap.size + 1 + 1 by omega) _, (h2.drewN nq).setOther (a := ⟨w.heap.size + 1 + 1, 0, none⟩) (show ¬ w.heap.size = w.heap.size + 1 + 1 by omega) _, ?_⟩
        rw [HV.out]
        simp only [List.getLastD_concat]
        exact (h4.drewN nq).set 0 _
      | false =>
        gi_wp2
        refine wpIn_quiet_round rfl hmx (by kernel_rfl) (no_defer (by rfl)) ?_
        repeat (gi_big_quiet_step (first | (gi_at_call 39; exact CallsIn.quiet_of_same (callsIn_wide.2 (c1 _))) | (gi_at_call 38; exact CallsIn.quiet_of_same (callsIn_wide.2 (c3 _)))))
        refine wpQuietIn_nil ?_
        rintro _ ⟨nq, rfl⟩
        gi_wp2
        exact ⟨(keeps_drewN _ _).from _, ⟨sea_drewN _ _ _, rfl⟩, HGo.out (fun hh => by have := (HB.out.1 hh).2; cases this), h1.trans (sea_drewN _ _ _), h2.drewN _, h3.drewN _, h4.drewN _, h5.drewN _⟩
    · have hlt' : decide ((x.1.lev : Int) < (L : Int)) = false := by simp; omega
      gi_wp2
      refine wpIn_quiet_round rfl hmx (by kernel_rfl) (no_defer (by rfl)) ?_
      repeat (gi_big_quiet_step (first | (gi_at_call 39; exact CallsIn.quiet_of_same (callsIn_wide.2 (c1 _))) | (gi_at_call 38; exact CallsIn.quiet_of_same (callsIn_wide.2 (c3 _)))))
      refine wpQuietIn_nil ?_
      rintro _ ⟨nq, rfl⟩
      gi_wp2
      exact ⟨(keeps_drewN _ _).from _, ⟨sea_drewN _ _ _, rfl⟩, HGo.out (fun hh => hlt (HB.out.1 hh).1), h1.trans (sea_drewN _ _ _), h2.drewN _, h3.drewN _, h4.drewN _, h5.drewN _⟩
  case done =>
    rintro D' ys W hD rfl ⟨h0, h1, h2, h3, h4, h5⟩ hK
    rw [hxs] at h0
    exact hAll D' W h1 h2 (by rw [backLev_none _ _ _ h0]; exact h4) (by omega) hK
  case stop =>
    rintro D' cd pre W hD ⟨t, ht⟩ ⟨⟨rfl, q, x, rfl, hq, hx⟩, h1, h2, h4⟩ hK
    have hP : P = vals q ++ x.1 :: vals t := by rw [← hxs, ← ht]; simp [vals]
    have e : backLev (lv P) c P = x.1.lev := by
      have := backLev_at (lv P) c x.1 (vals t) hx (vals q) hq
      rw [← hP] at this
      exact this
    gi_wp2
    refine hAll D' W h1 h2 ?_ (by omega) hK
    rw [e]
    have e3 : ((vals (q ++ [x])).getLastD pk0).lev = x.1.lev := by simp [vals]
    rw [e3] at h4
    exact h4
end Go.Proofs.YtlodenfdcckemabDoor

/-
  The walks of choose and of a conflict.
-/

namespace Go.Proofs.YtlodenfdcckemabDoor
open Go.RowKit Go.Shelf

theorem find_at {p : Nat → Bool} : ∀ {l : List Nat} {i : Nat}, i < l.length → (∀ j, j < i → p (l.getD j 0) = false) → p (l.getD i 0) = true → l.find? p = some (l.getD i 0)
  | [], _, h, _, _ => by simp at h
  | x :: l, 0, _, _, h => by simp at h; simp [h]
  | x :: l, i + 1, hi, hj, h => by
    have h0 := hj 0 (by omega)
    simp at h0
    rw [List.find?_cons, h0]
    exact find_at (by simpa using hi) (fun j h' => by have := hj (j + 1) (by omega); simpa using this) (by simpa using h)

theorem find_none {p : Nat → Bool} {l : List Nat} (h : ∀ j, j < l.length → p (l.getD j 0) = false) : l.find? p = none := by
  rw [List.find?_eq_none]
  intro x hx
  obtain ⟨j, hj, rfl⟩ := List.getElem_of_mem hx
  have := h j hj
  rw [getD_lt _ _ _ hj] at this
  rw [this]; decide

/-- What choose does. -/
def Chosen (X : Nat) (a0 a1 v : Value) (ch : List Nat) (P : List Pk) (w : World) (e : Ending) (w' : World) : Prop :=
  (chooseOf ch (truthOf P) = none ∧ e = .returned (.bool false) ∧ Below w.heap.size w w') ∨
  ∃ l v', chooseOf ch (truthOf P) = some l ∧ e = .returned (.bool true) ∧ SeaAt w' X a0 a1 v' (truthOf P ||| l) (lv P + 1) (⟨l, 0, lv P + 1⟩ :: P) ∧ Chg (fun b => b = X ∨ v.ownBlock = some b) w w' ∧ (∀ b, v'.ownBlock = some b → v.ownBlock = some b ∨ w.heap.size ≤ b)

set_option maxRecDepth 100000 in
set_option maxHeartbeats 2000000 in
theorem choose_any (X : Nat) (a0 a1 v : Value) (ch : List Nat) (P : List Pk) (w : World) (h : SeaAt w X a0 a1 v (truthOf P) (lv P) P) (hch : Own w 0 53 a1 (svs ch)) (hl : ch.length ≤ 1000) (hc64 : ∀ l ∈ ch, l < 18446744073709551616) (hT : truthOf P < 18446744073709551616) (hn : P.length < 64) :
    Calls Tryd.prog 42 #[.pointer (some ⟨X, 0, none⟩)] w (Chosen X a0 a1 v ch P w) := by
  have hx1 : w.cell? ⟨X, 1, none⟩ = some a1 := h.head.cell (i := 1) (by simp) undef
  have hx3 : w.cell? ⟨X, 3, none⟩ = some (sv (truthOf P)) := h.head.cell (i := 3) (by simp) undef
  have hx4 : w.cell? ⟨X, 4, none⟩ = some (.int .i64 (lv P)) := h.head.cell (i := 4) (by simp) undef
  have hf4 := h.head.frozen 4
  have hlv : lv P ≤ 64 := Nat.le_trans (lv_le P) (by omega)
  obtain ⟨ao, cap, hsh, hat⟩ := hch.cellsAt
  simp only [List.length_map] at hsh hat
  rw [hsh] at hx1
  have ho64 := opp_lt64 (truthOf P)
  have hor := or_spell (truthOf P) (opp (truthOf P)) hT ho64
  have c1 := opposites_any (truthOf P) hT
  have hor64 : truthOf P ||| opp (truthOf P) < 18446744073709551616 := Nat.or_lt_two_pow (n := 64) hT ho64
  have HCh : Hid (chooseOf ch (truthOf P) = ch.find? fun l => !within l (truthOf P ||| opp (truthOf P))) := rfl
  have HH : Hid (SeaAt w X a0 a1 v (truthOf P) (lv P) P) := h
  have HT : Hid (truthOf P < 18446744073709551616) := hT
  clear h hch
  unfold Chosen
  generalize chooseOf ch (truthOf P) = res at *
  generalize opp (truthOf P) = oT at *
  generalize truthOf P = T at *
  generalize T ||| oT = M at *
  generalize lv P = L at *
  go_enter Tryd.func42, Tryd.ntmps42
  go_wp2
  go_loopw [10] (fun x wr => ∃ (i : Nat), i ≤ ch.length ∧ x = .int .i64 i ∧ Hid (∃ m, wr = w.drewN m) ∧ Hid (∀ j, j < i → (!within (ch.getD j 0) M) = false)) (fun x _ => ch.length - (intOf x).toNat)
  case atStart => exact ⟨0, Nat.zero_le _, rfl, ⟨0, rfl⟩, fun j hj => absurd hj (Nat.not_lt_zero _)⟩
  case round =>
    obtain ⟨i, hi, rfl, HD, HJ⟩ := hrel
    by_cases hlt : i < ch.length
    · obtain ⟨gg, rfl, hgg, hcells, -⟩ := hat (by omega)
      have hck := hcells i hlt
      rw [svs_get hlt] at hck
      have hkm : ch.getD i 0 ∈ ch := mem_getD hlt
      have hk64 := hc64 _ hkm
      have HF : Hid ((!within (ch.getD i 0) M) = true → ch.find? (fun l => !within l M) = some (ch.getD i 0)) := fun h => find_at hlt HJ.out h
      have HN : Hid ((!within (ch.getD i 0) M) = false → ∀ j, j < i + 1 → (!within (ch.getD j 0) M) = false) := fun h j hj => by
        rcases Nat.lt_succ_iff_lt_or_eq.1 hj with h1 | h1
        · exact HJ.out j h1
        · rw [h1]; exact h
      generalize ch.getD i 0 = k at *
      have qck : wr.cell? ⟨gg, i, none⟩ = some (sv k) := by obtain ⟨m, rfl⟩ := HD.out; exact hck
      have q3 : wr.cell? ⟨X, 3, none⟩ = some (sv T) := by obtain ⟨m, rfl⟩ := HD.out; exact hx3
      have c3 := within_any k M hk64 hor64
      clear hcells hat hkm hck
      cases hw : within k M with
      | true =>
        rw [hw] at c3 HN
        clear hw HF
        go_wp2
        go_quiet (first | (go_at_call 39; exact Calls.quiet_of_same (c1 _)) | (go_at_call 38; exact Calls.quiet_of_same (c3 _)))
        go_wp2
        go_roundw
        case rel => exact ⟨i + 1, by omega, by go_num, by obtain ⟨m, rfl⟩ := HD.out; exact ⟨_, World.drewN_drewN _ _ _⟩, HN.out rfl⟩
        case measure => simp [intOf]; omega
      | false =>
        rw [hw] at c3 HF
        have HF' : Hid (res = some k) := by unfold Hid; rw [HCh.out]; exact HF.out rfl
        clear hw HF HN HCh
        have cput := put_any X a0 a1 v T (L + 1) P k 0
        have q4 : wr.cell? ⟨X, 4, none⟩ = some (.int .i64 L) := by obtain ⟨m, rfl⟩ := HD.out; exact hx4
        have f4 : wr.frozen? ⟨X, 4, none⟩ = false := by obtain ⟨m, rfl⟩ := HD.out; exact hf4
        have hS2 : ∀ nq, SeaAt ((wr.drewN nq).setCell ⟨X, 4, none⟩ (.int .i64 ((L : Int) + 1))) X a0 a1 v T (L + 1) P := fun nq => by
          obtain ⟨m, rfl⟩ := HD.out
          have hne : v.ownBlock ≠ some X := HH.out.row.ne_blk HH.out.head (by decide)
          exact ⟨(show Blk ((w.drewN m).drewN nq) X _ _ from HH.out.head).set 4 _, Row3.of_block (w := w) HH.out.row fun b e => Below.heap_setCell ((w.drewN m).drewN nq) _ _ _ (fun e' => hne (by rw [e]; exact congrArg some e'))⟩
        have HB : Hid (∀ nq (x : Value), Chg (fun b => b = X ∨ v.ownBlock = some b) w ((wr.drewN nq).setCell ⟨X, 4, none⟩ x)) := fun nq x => by
          obtain ⟨m, rfl⟩ := HD.out
          exact (((Chg.refl _ w).drewN m).drewN nq).setB X 4 (Or.inl rfl) _
        have HSz : Hid (∀ nq (x : Value), w.heap.size ≤ ((wr.drewN nq).setCell ⟨X, 4, none⟩ x).heap.size) := fun nq x => (HB.out nq x).size
        go_wp2
        go_quiet (first | (go_at_call 39; exact Calls.quiet_of_same (c1 _)) | (go_at_call 38; exact Calls.quiet_of_same (c3 _)))
        go_wp2_with (go_at_call 53; refine (cput _ (hS2 _) hn HT.out hk64).mono ?_; rintro e w1 ⟨rfl, v', hs1, hc1, ho1⟩)
        go_ret
        refine Or.inr ⟨k, v', HF'.out, rfl, hs1, (HB.out _ _).trans hc1, fun b e => ?_⟩
        rcases ho1 b e with h3 | h3
        · exact Or.inl h3
        · exact Or.inr (Nat.le_trans (HSz.out _ _) h3)
    · obtain rfl : i = ch.length := by omega
      have HF' : Hid (res = none) := by unfold Hid; rw [HCh.out]; exact find_none HJ.out
      go_wp2
      go_ret
      exact Or.inl ⟨HF'.out, rfl, by obtain ⟨m, rfl⟩ := HD.out; exact sea_drewN _ _ _⟩
end Go.Proofs.YtlodenfdcckemabDoor
