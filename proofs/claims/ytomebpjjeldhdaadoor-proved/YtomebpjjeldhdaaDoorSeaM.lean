/-
  The walk of lemma.
-/
import Derived.Test.YtomebpjjeldhdaaDoorSeaF
import Derived.Test.YtomebpjjeldhdaaDoorRoundQ
namespace Go.Proofs.YtomebpjjeldhdaaDoor
open Go.RowKit Go.Shelf

attribute [local go_sem] Oper.semAt_some

theorem wide_fn (f : Nat) : Fence.wide.fn f ↔ True := ⟨fun _ => trivial, fun _ => trivial⟩

attribute [local go_sem] wide_fn

theorem lemOf_snoc (last L : Nat) (x : Pk) : ∀ (P : List Pk) (c : Nat), lemOf last L (P ++ [x]) c = repl last L x (lemOf last L P c)
  | [], c => rfl
  | p :: P, c => by rw [List.cons_append, lemOf, lemOf, lemOf_snoc last L x P]

theorem repl_lt (last L : Nat) (x : Pk) (c : Nat) (hx : x.cl < 18446744073709551616) (hc : c < 18446744073709551616) : repl last L x c < 18446744073709551616 := by
  unfold repl
  split
  · exact Nat.or_lt_two_pow (n := 64) (dif_lt (k := 64) hc) (dif_lt (k := 64) hx)
  · exact hc

theorem lemOf_lt (last L : Nat) : ∀ (P : List Pk) (c : Nat), (∀ p ∈ P, p.cl < 18446744073709551616) → c < 18446744073709551616 → lemOf last L P c < 18446744073709551616
  | [], _, _, h => h
  | p :: P, c, hp, h => by
    rw [lemOf]
    exact lemOf_lt last L P _ (fun q hq => hp q (List.mem_cons_of_mem _ hq)) (repl_lt last L p c (hp p List.mem_cons_self) h)

theorem below_drewN (n₀ : Nat) (W : World) (n : Nat) : Below n₀ W (W.drewN n) := ⟨rfl, rfl, rfl, Nat.le_refl _, fun _ _ => rfl⟩
theorem keeps_drewN (W : World) (n : Nat) : KeepsOthers W (W.drewN n) := ⟨Nat.le_refl _, fun _ _ h _ => h⟩

/-- A region that does not panic. -/
theorem wpIn_calm {F : Fence} {n : Nat} {P : Program} {c : Code} {K : Act → World → Prop} {Q : Exit → Act → World → Prop} {a : Act} {w : World} (h : c.wpIn F n P (Exit.then K (fun _ _ _ => False)) a w) : c.wpIn F n P (Exit.then K Q) a w :=
  Code.wpIn_mono (fun e a w h => by cases e <;> first | exact h | exact (h : False).elim) h

/-- What a piece of code leaves, told: it does not panic. -/
theorem wpIn_cut {F : Fence} {n : Nat} {P : Program} {c : Code} {K : Act → World → Prop} {Q : Exit → Act → World → Prop} {a : Act} {w : World} (R : Act → World → Prop) (h : c.wpIn F n P (Exit.then R (fun _ _ _ => False)) a w) (hR : ∀ a w, R a w → K a w) : c.wpIn F n P (Exit.then K Q) a w :=
  Code.wpIn_mono (fun e a w h => by cases e <;> first | exact hR _ _ h | exact (h : False).elim) h

set_option maxRecDepth 100000 in
set_option maxHeartbeats 4000000 in
theorem lemma_any (X : Nat) (L : Nat) (a0 a1 v a3 : Value) (xs : List Pks) (k : Nat) (w : World) (hB : Blk w X 134 [a0, a1, v, a3, .int .i64 L]) (hR : Row3 w v (vals xs)) (h64 : xs.length ≤ 64) (hk : k < 18446744073709551616) :
    Calls Tryd.prog 112 #[.pointer (some ⟨X, 0, none⟩), sv k] w fun e w' => e = .returned (sv (lemOf (falseAt L (vals xs) 0) L (vals xs) k)) ∧ Below w.heap.size w w' := by
  have hXl := hB.lt
  refine (callsIn_wide (n := 9)).1 ?_
  refine callsIn_of_wp_marks Tryd.func112 rfl trivial ?_ rfl
  simp only [Tryd.ntmps112, List.size_toArray, List.length_cons, List.length_nil, Nat.reduceAdd, Nat.reduceSub, Array.replicate_succ, Array.replicate_zero, List.push_toArray, List.append_toArray, List.nil_append, List.cons_append]
  have hmx : Tryd.prog.follows .mixedOrders = true := by kernel_rfl
  have hd : 1 ≤ 9 := by omega
  have hb0 : Below w.heap.size w ((w.alloc (.cells #[.pointer (some ⟨X, 0, none⟩)] 128)).alloc (.cells #[.int .u64 k] 84)) := ((Below.refl _ _).alloc (Nat.le_refl _) _).alloc (by simp) _
  have B0 := (blk_new w [.pointer (some ⟨X, 0, none⟩)] 128).alloc (.cells #[.int .u64 k] 84)
  have B1 := blk_new (w.alloc (.cells #[.pointer (some ⟨X, 0, none⟩)] 128)) [.int .u64 k] 84
  have hsz : ((w.alloc (.cells #[.pointer (some ⟨X, 0, none⟩)] 128)).alloc (.cells #[.int .u64 k] 84)).heap.size = w.heap.size + 1 + 1 := by simp
  rw [World.size_alloc] at B1
  dsimp only [List.toArray] at B0 B1
  gi_wp2
  generalize (w.alloc (.cells #[.pointer (some ⟨X, 0, none⟩)] 128)).alloc (.cells #[.int .u64 k] 84) = W0 at *
  have BX := hB.below' hb0
  have hR0 := hR.below' hb0
  have c0 : W0.cell? ⟨w.heap.size, 0, none⟩ = some (.pointer (some ⟨X, 0, none⟩)) := B0.cell (i := 0) (by simp) undef
  have c4 : W0.cell? ⟨X, 4, none⟩ = some (.int .i64 L) := BX.cell (i := 4) (by simp) undef
  have HSZ : Hid (W0.heap.size = w.heap.size + 1 + 1) := hsz
  have hX0 : X < W0.heap.size := by omega
  have hw0 : w.heap.size < W0.heap.size := by omega
  have hw1 : w.heap.size + 1 < W0.heap.size := by omega
  clear hsz
  have cF := falseAt_any X L a0 a1 v a3 (.int .i64 L) xs
  have HL : Hid (falseAt L (vals xs) 0 < 18446744073709551616) := falseAt_lt L (vals xs) 0 (by decide)
  generalize hla : falseAt L (vals xs) 0 = last at *
  have HLa : Hid (falseAt L (vals xs) 0 = last) := hla
  clear hla
  refine wpIn_cut (fun a W3 => ∃ b5, a = { tmps := #[.pointer (some ⟨X, 0, none⟩), sv k, .pointer (some ⟨w.heap.size, 0, none⟩), .pointer (some ⟨w.heap.size + 1, 0, none⟩), .int .u64 0, .pointer (some ⟨b5, 0, none⟩), undef, undef, undef, .pointer (some ⟨X, 0, none⟩), .pointer (some ⟨X, 0, none⟩), .pointer (some ⟨X, 0, none⟩), .pointer (some ⟨X, 4, none⟩), .int .i64 L, sv last, undef, undef, undef, undef, undef, undef, undef, undef, undef, undef, undef, undef, undef, undef, undef, undef, undef, undef, undef, undef, undef, undef, undef, undef, undef, undef, undef, undef, undef, undef, undef, undef, undef, undef, undef, undef, undef, undef, undef, undef, undef, undef, undef], defers := [] } ∧ Below W0.heap.size W0 W3 ∧ Blk W3 b5 84 [sv last] ∧ W0.heap.size ≤ b5) ?_ ?_
  · gi_region_with_o (gi_at_call 129; refine (callsIn_wide.2 (cF _ (by first | exact BX.drew | exact Blk.alloc (w := W0.drew) BX.drew _) (by first | exact hR0 | exact Row3.below' (w := W0.drew) hR0 (alloc_below _ _)) h64)).mono ?_; rintro e W2 ⟨rfl, hb2⟩; first | (have B5 : Blk W2 W0.heap.size 84 [.int .u64 0] := Blk.below' (blk_new W0.drew [.int .u64 0] 84) hb2; have n5 : W2.cell? ⟨W0.heap.size, 0, none⟩ = some (.int .u64 0) := B5.cell (i := 0) (by simp) undef; have n6 := B5.frozen 0) | skip)
    all_goals first
      | exact ⟨W2.heap.size, rfl, ((Below.refl _ W0).drew.trans hb2).alloc hb2.size _, blk_new W2 [sv last] 84, hb2.size⟩
      | exact ⟨W0.heap.size, rfl, (((alloc_below W0 _).drew).trans (hb2.mono (by simp [World.drew]))).setCell (p := ⟨W0.heap.size, 0, none⟩) (Nat.le_refl _) _, B5.set 0 _, Nat.le_refl _⟩
  · rintro _ W3 ⟨b5, rfl, hb3, B5, hb5⟩
    have c3 : W3.cell? ⟨w.heap.size, 0, none⟩ = some (.pointer (some ⟨X, 0, none⟩)) := (hb3.cell (p := ⟨w.heap.size, 0, none⟩) hw0).trans c0
    clear c0 c4 cF
    gi_wp2_with (gi_at_call 114; refine (callsIn_wide.2 (down_any X _)).mono ?_; rintro e w' ⟨rfl, rfl⟩)
    have hb4 : Below W0.heap.size W0 (W3.alloc (.cells #[.pointer (some ⟨X, 2, none⟩)] 182)) := hb3.alloc hb3.size _
    have B5' := B5.alloc (.cells #[.pointer (some ⟨X, 2, none⟩)] 182)
    have B6 := blk_new W3 [.pointer (some ⟨X, 2, none⟩)] 182
    have hs4 : (W3.alloc (.cells #[.pointer (some ⟨X, 2, none⟩)] 182)).heap.size = W3.heap.size + 1 := by simp
    dsimp only [List.toArray] at B6
    generalize hn3 : W3.heap.size = n3 at *
    have hs3 := hb3.size
    rw [hn3] at hs3
    have hs0 := HSZ.out
    clear hn3 hb3 B5 c3
    generalize W3.alloc (.cells #[.pointer (some ⟨X, 2, none⟩)] 182) = W4 at *
    have hbw : Below w.heap.size w W4 := hb0.trans (hb4.mono (by omega))
    have B04 := B0.below' hb4
    have B14 := B1.below' hb4
    have hit4 : W4.cell? ⟨X, 2, none⟩ = some v := (hb4.cell (p := ⟨X, 2, none⟩) hX0).trans (BX.cell (i := 2) (by simp) undef)
    have hD0 : DownAt W4 n3 X v (vals xs) := ⟨B6, hit4, hR0.below' hb4⟩
    have hb5lt := B5'.lt
    have hcX : ∀ W, Below w.heap.size w W → W.cell? ⟨X, 4, none⟩ = some (.int .i64 L) := fun W hb => (hb.cell (p := ⟨X, 4, none⟩) hXl).trans (hB.cell (i := 4) (by simp) undef)
    have HcX : Hid _ := hcX
    have hcl : ∀ p ∈ vals xs, p.cl < 18446744073709551616 := fun p hp => by
      unfold vals at hp
      obtain ⟨y, _, rfl⟩ := List.mem_map.1 hp
      exact y.2.2.1
    clear hcX B0 B1 BX hR0 hit4
    refine wpIn_rangeFunc_ownH rfl (by omega) (gf := 131) (lb := #[.pointer (some ⟨n3, 0, none⟩)]) rfl trivial (enters_of Tryd.func131 (by kernel_rfl) rfl)
      (down_stops 8 (by omega) n3 X w.heap.size v xs W4 (by omega) hXl (fun k e => hR.lt e) hD0 h64) (fun h k => kpD_t h k) (kpD_b (by omega) (by omega)) (Below.refl _ _) (fun _ => rfl)
      (fun pre W => Below w.heap.size w W ∧ Blk W w.heap.size 128 [.pointer (some ⟨X, 0, none⟩)] ∧ Blk W (w.heap.size + 1) 84 [sv (lemOf last L (vals pre) k)] ∧ Blk W b5 84 [sv last] ∧ Blk W n3 182 [.pointer (some ⟨X, 2, none⟩)]) (fun _ _ _ => False)
      (OwnFrom.and (ownFrom_below (Nat.le_refl _) (by omega)) (OwnFrom.and (blk_own _ _ _ (fun _ => _)) (OwnFrom.and (blk_own _ _ _ (fun pre => [sv (lemOf last L (vals pre) k)])) (OwnFrom.and (blk_own _ _ _ (fun _ => _)) (blk_own _ _ _ (fun _ => _)))))) (fun _ _ _ _ _ hs _ _ => hs)
      ⟨hbw, B04, B14, B5', B6⟩
      (fun x a' W => ∃ Bx, n3 + 1 ≤ Bx ∧ Blk W Bx 162 (pkc x.1) ∧ a' = { tmps := #[.pointer (some ⟨X, 0, none⟩), sv k, .pointer (some ⟨w.heap.size, 0, none⟩), .pointer (some ⟨w.heap.size + 1, 0, none⟩), .int .u64 0, .pointer (some ⟨b5, 0, none⟩), .pointer (some ⟨Bx, 0, none⟩), undef, undef, .pointer (some ⟨X, 0, none⟩), .pointer (some ⟨X, 0, none⟩), .pointer (some ⟨X, 0, none⟩), .pointer (some ⟨X, 4, none⟩), .int .i64 L, sv last, .pointer (some ⟨X, 0, none⟩), .pointer (some ⟨X, 0, none⟩), .pointer (some ⟨X, 2, none⟩), .func (.func 131) #[] #[.pointer (some ⟨n3, 0, none⟩)], pkv x.1, undef, undef, undef, undef, undef, undef, undef, undef, undef, undef, undef, undef, undef, undef, undef, undef, undef, undef, undef, undef, undef, undef, undef, undef, undef, undef, undef, undef, undef, undef, undef, undef, undef, undef, undef, undef, undef, undef], defers := [] })
      (fun x a' s W W' row hs hg hr => by obtain ⟨Bx, h1, h2, h3⟩ := hs; exact ⟨Bx, h1, blk_own (β := Unit) _ Bx _ (fun _ => pkc x.1) () W W' row h2 hg hr, h3⟩) ?assign ?body ?done ?stop
    case assign =>
      rintro l pre x W K ⟨h1, h2, h3, h4, h5⟩ hK
      have hlW := h5.lt
      unfold pkv
      gi_wp2
      exact hK _ _ ((KeepsOthers.alloc _ _).from _) ⟨(Below.refl _ W).alloc h1.size _, Below.heap_alloc _ _ _ hlW⟩ ⟨h1.alloc h1.size _, h2.alloc _, h3.alloc _, h4.alloc _, h5.alloc _⟩ ⟨W.heap.size, hlW, blk_new W (pkc x.1) 162, rfl⟩
    case body =>
      rintro l pre x a' W hl ⟨r, hr⟩ ⟨h1, h2, h3, h4, h5⟩ ⟨Bx, hBx, bX, rfl⟩ hlt
      have p0 : W.cell? ⟨Bx, 0, none⟩ = some (sv x.1.lit) := bX.cell (i := 0) (by simp [pkc]) undef
      have p1 : W.cell? ⟨Bx, 1, none⟩ = some (sv x.1.cl) := bX.cell (i := 1) (by simp [pkc]) undef
      have p2 : W.cell? ⟨Bx, 2, none⟩ = some (.int .i64 x.1.lev) := bX.cell (i := 2) (by simp [pkc]) undef
      have s0 : W.cell? ⟨w.heap.size, 0, none⟩ = some (.pointer (some ⟨X, 0, none⟩)) := h2.cell (i := 0) (by simp) undef
      have c0 : W.cell? ⟨w.heap.size + 1, 0, none⟩ = some (sv (lemOf last L (vals pre) k)) := h3.cell (i := 0) (by simp) undef
      have c5 : W.cell? ⟨b5, 0, none⟩ = some (sv last) := h4.cell (i := 0) (by simp) undef
      have f0 := h3.frozen 0
      have x4 := HcX.out W h1
      have HE : Hid (lemOf last L (vals (pre ++ [x])) k = repl last L x.1 (lemOf last L (vals pre) k)) := by unfold Hid; rw [show vals (pre ++ [x]) = vals pre ++ [x.1] by simp [vals]]; exact lemOf_snoc last L x.1 (vals pre) k
      have hcl2 : ∀ p ∈ vals pre, p.cl < 18446744073709551616 := fun p hp => by
        unfold vals at hp
        obtain ⟨y, _, rfl⟩ := List.mem_map.1 hp
        exact y.2.2.1
      have hA64 := lemOf_lt last L (vals pre) k hcl2 hk
      obtain ⟨hx1, hx2, hx3⟩ := x.2
      have hl64 := HL.out
      obtain ⟨A, hA⟩ : ∃ A, lemOf last L (vals pre) k = A := ⟨_, rfl⟩
      rw [hA] at c0 HE hA64 h3
      have ho64 := opp_lt64 x.1.lit
      have HRe : Hid (repl last L x.1 A = if (x.1.lev = 0 ∨ (x.1.lev = L ∧ single (A &&& last) = false)) ∧ within (opp x.1.lit) A = true then dif A (opp x.1.lit) ||| dif x.1.cl x.1.lit else A) := rfl
      have hand := bits_and_u64_nat A last hA64 hl64
      have hdif1 := dif_spell A (opp x.1.lit) hA64 ho64
      have hdif2 := dif_spell x.1.cl x.1.lit hx2 hx1
      have hd1 : dif A (opp x.1.lit) < 18446744073709551616 := dif_lt (k := 64) hA64
      have hd2 : dif x.1.cl x.1.lit < 18446744073709551616 := dif_lt (k := 64) hx2
      have hor := or_spell (dif A (opp x.1.lit)) (dif x.1.cl x.1.lit) hd1 hd2
      have hand64 : A &&& last < 18446744073709551616 := Nat.lt_of_le_of_lt Nat.and_le_left hA64
      have c1 := opposites_any x.1.lit hx1
      have c2 := single_any (A &&& last) hand64
      have c3 := within_any (opp x.1.lit) A ho64 hA64
      generalize opp x.1.lit = O at *
      generalize dif A O = d1 at *
      generalize dif x.1.cl x.1.lit = d2 at *
      generalize hsg : single (A &&& last) = sg at *
      generalize hwi : within O A = wi at *
      generalize A &&& last = AL at *
      have hd : 1 ≤ 9 - 1 - 1 := by omega
      clear hA hsg hwi hcl2 hlt hD0 hb4 hbw B04 B14 B5' B6
      gi_wp2_with (gi_at_call 85; refine (CallsIn.inRound l (callsIn_wide.2 (c1 _))).mono ?_; rintro e w' ⟨rfl, hw'⟩; obtain rfl := hw'.symm)
      obtain ⟨rp, hrp⟩ : ∃ rp : Bool, (rp = true ↔ (x.1.lev = 0 ∨ (x.1.lev = L ∧ sg = false))) := ⟨decide (x.1.lev = 0 ∨ (x.1.lev = L ∧ sg = false)), by simp⟩
      refine wpIn_cut (fun a W' => ∃ (nq : Nat), W' = W.drewN nq ∧ ∃ (u23 u24 u25 u26 u27 u28 u29 u30 u31 u32 u33 u34 u35 u36 u37 u38 u39 u40 u41 : Value), a = { tmps := #[.pointer (some ⟨X, 0, none⟩), sv k, .pointer (some ⟨w.heap.size, 0, none⟩), .pointer (some ⟨w.heap.size + 1, 0, none⟩), .int .u64 0, .pointer (some ⟨b5, 0, none⟩), .pointer (some ⟨Bx, 0, none⟩), sv O, .bool rp, .pointer (some ⟨X, 0, none⟩), .pointer (some ⟨X, 0, none⟩), .pointer (some ⟨X, 0, none⟩), .pointer (some ⟨X, 4, none⟩), .int .i64 L, sv last, .pointer (some ⟨X, 0, none⟩), .pointer (some ⟨X, 0, none⟩), .pointer (some ⟨X, 2, none⟩), .func (.func 131) #[] #[.pointer (some ⟨n3, 0, none⟩)], pkv x.1, .pointer (some ⟨Bx, 0, none⟩), sv x.1.lit, sv O, u23, u24, u25, u26, u27, u28, u29, u30, u31, u32, u33, u34, u35, u36, u37, u38, u39, u40, u41, undef, undef, undef, undef, undef, undef, undef, undef, undef, undef, undef, undef, undef, undef, undef, undef], defers := [] }) ?_ ?_
      · by_cases hz : x.1.lev = 0
        · have hz' : ((x.1.lev : Int) == 0) = true := by simp [hz]
          obtain rfl : rp = true := hrp.2 (Or.inl hz)
          clear hrp hz HE HRe
          refine wpIn_quiet_round rfl hmx (by kernel_rfl) (no_defer (by rfl)) ?_
          repeat (gi_big_quiet_step ((gi_at_call 86; exact CallsIn.quiet_of_same (callsIn_wide.2 (c2 _)))))
          refine wpQuietIn_nil ?_
          rintro _ ⟨nq, rfl⟩
          exact ⟨_, rfl, _, _, _, _, _, _, _, _, _, _, _, _, _, _, _, _, _, _, _, rfl⟩
        · have hz' : ((x.1.lev : Int) == 0) = false := by simp; omega
          by_cases hLe : x.1.lev = L
          · have hL' : ((x.1.lev : Int) == (L : Int)) = true := by simp [hLe]
            cases sg with
            | true =>
              obtain rfl : rp = false := bool_false fun h => by rcases hrp.1 h with h | ⟨_, h⟩ <;> simp_all
              clear hrp hz HE HRe hLe
              refine wpIn_quiet_round rfl hmx (by kernel_rfl) (no_defer (by rfl)) ?_
              repeat (gi_big_quiet_step ((gi_at_call 86; exact CallsIn.quiet_of_same (callsIn_wide.2 (c2 _)))))
              refine wpQuietIn_nil ?_
              rintro _ ⟨nq, rfl⟩
              exact ⟨_, rfl, _, _, _, _, _, _, _, _, _, _, _, _, _, _, _, _, _, _, _, rfl⟩
            | false =>
              obtain rfl : rp = true := hrp.2 (Or.inr ⟨hLe, rfl⟩)
              clear hrp hz HE HRe hLe
              refine wpIn_quiet_round rfl hmx (by kernel_rfl) (no_defer (by rfl)) ?_
              repeat (gi_big_quiet_step ((gi_at_call 86; exact CallsIn.quiet_of_same (callsIn_wide.2 (c2 _)))))
              refine wpQuietIn_nil ?_
              rintro _ ⟨nq, rfl⟩
              exact ⟨_, rfl, _, _, _, _, _, _, _, _, _, _, _, _, _, _, _, _, _, _, _, rfl⟩
          · have hL' : ((x.1.lev : Int) == (L : Int)) = false := by simp; omega
            obtain rfl : rp = false := bool_false fun h => by rcases hrp.1 h with h | ⟨h, _⟩ <;> simp_all
            clear hrp hz HE HRe hLe
            refine wpIn_quiet_round rfl hmx (by kernel_rfl) (no_defer (by rfl)) ?_
            repeat (gi_big_quiet_step ((gi_at_call 86; exact CallsIn.quiet_of_same (callsIn_wide.2 (c2 _)))))
            refine wpQuietIn_nil ?_
            rintro _ ⟨nq, rfl⟩
            exact ⟨_, rfl, _, _, _, _, _, _, _, _, _, _, _, _, _, _, _, _, _, _, _, rfl⟩
      · rintro _ _ ⟨nq, rfl, u23, u24, u25, u26, u27, u28, u29, u30, u31, u32, u33, u34, u35, u36, u37, u38, u39, u40, u41, rfl⟩
        have HX : Hid (lemOf last L (vals (pre ++ [x])) k = if rp = true ∧ wi = true then d1 ||| d2 else A) := by
          unfold Hid
          rw [HE.out, HRe.out]
          simp only [hrp]
        have n1 : ¬ (w.heap.size + 1 = w.heap.size) := by omega
        clear HE HRe hrp
        cases rp with
        | false =>
          have HX' : Hid (lemOf last L (vals (pre ++ [x])) k = A) := by unfold Hid; rw [HX.out]; simp
          gi_wp2
          exact ⟨(keeps_drewN _ _).from _, ⟨below_drewN _ _ _, rfl⟩, h1.trans (below_drewN _ _ _), h2.drewN _, by rw [HX'.out]; exact h3.drewN _, h4.drewN _, h5.drewN _⟩
        | true =>
          cases wi with
          | false =>
            have HX' : Hid (lemOf last L (vals (pre ++ [x])) k = A) := by unfold Hid; rw [HX.out]; simp
            gi_wp2_with (gi_at_call 87; refine (CallsIn.inRound l (callsIn_wide.2 (c3 _))).mono ?_; rintro e w' ⟨rfl, hw'⟩; obtain rfl := hw'.symm)
            exact ⟨(keeps_drewN _ _).from _, ⟨below_drewN _ _ _, rfl⟩, h1.trans (below_drewN _ _ _), h2.drewN _, by rw [HX'.out]; exact h3.drewN _, h4.drewN _, h5.drewN _⟩
          | true =>
            have HX' : Hid (lemOf last L (vals (pre ++ [x])) k = d1 ||| d2) := by unfold Hid; rw [HX.out]; simp
            gi_wp2_with (gi_at_call 87; refine (CallsIn.inRound l (callsIn_wide.2 (c3 _))).mono ?_; rintro e w' ⟨rfl, hw'⟩; obtain rfl := hw'.symm)
            exact ⟨((keeps_drewN _ _).trans (KeepsOthers.setCell _ _ _)).from _, ⟨(below_drewN w.heap.size W nq).setCell (p := ⟨w.heap.size + 1, 0, none⟩) (Nat.le_succ _) _, Below.heap_setCell (W.drewN nq) ⟨w.heap.size + 1, 0, none⟩ _ _ (by simp; omega)⟩,
              (h1.trans (below_drewN _ _ nq)).setCell (p := ⟨w.heap.size + 1, 0, none⟩) (Nat.le_succ _) _, (h2.drewN nq).setOther (a := ⟨w.heap.size + 1, 0, none⟩) (by simp) _, by rw [HX'.out]; exact (h3.drewN nq).set 0 _, (h4.drewN nq).setOther (a := ⟨w.heap.size + 1, 0, none⟩) (by simp; omega) _, (h5.drewN nq).setOther (a := ⟨w.heap.size + 1, 0, none⟩) (by simp; omega) _⟩
    case done =>
      rintro D ys W hD rfl ⟨h1, h2, h3, -⟩ hK
      have c0 : W.cell? ⟨w.heap.size + 1, 0, none⟩ = some (sv (lemOf last L (vals ys) k)) := h3.cell (i := 0) (by simp) undef
      gi_wp2
      refine ⟨by simp, .inl ⟨_, _, rfl, run_takeDeferred hK, ?_⟩⟩
      exact ⟨_, results_tmp rfl _ _ _, by rw [HLa.out]; rfl, h1.trans (belowK_b (w := w) (Nat.le_refl _) W D _ _ (by omega) hK rfl rfl)⟩
    case stop =>
      rintro D c pre W _ _ h _
      exact h.elim
end Go.Proofs.YtomebpjjeldhdaaDoor
