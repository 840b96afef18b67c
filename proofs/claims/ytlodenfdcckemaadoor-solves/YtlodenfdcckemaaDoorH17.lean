/-
  The walk of advance.
-/
import Derived.Test.YtlodenfdcckemaaDoorH16
import Derived.Test.YtlodenfdcckemaaDoorH12
namespace Go.Proofs.YtlodenfdcckemaaDoor
open Go.RowKit Go.Shelf

/-- Each pick has a place of its own. -/
theorem Trail.len {V : Nat} {D : Nat → Prop} : ∀ {P : List Pk}, Trail V D P → P.length ≤ (List.range (2 * V)).countP fun n => (truthOf P).testBit n
  | [], _ => Nat.zero_le _
  | p :: P, h => by
    obtain ⟨hT, -, n, hn, e, hnew, -⟩ := h
    have h1 := Trail.len hT
    have h2 : ((List.range (2 * V)).countP fun n => (truthOf P).testBit n) < (List.range (2 * V)).countP fun n => (truthOf (p :: P)).testBit n := by
      refine countP_less _ (fun x _ hx => by rw [truthOf, Nat.testBit_or, hx]; rfl) ⟨n, List.mem_range.2 hn, ?_, hnew⟩
      rw [truthOf, Nat.testBit_or, e, (two_pow_bit n n).2 rfl]; simp
    rw [List.length_cons]
    omega

theorem Trail.short {V : Nat} (hV : V ≤ 20) {D : Nat → Prop} {P : List Pk} (h : Trail V D P) : P.length ≤ 40 := by
  have h1 := h.len
  have h2 := List.countP_le_length (p := fun n => (truthOf P).testBit n) (l := List.range (2 * V))
  rw [List.length_range] at h2
  omega

theorem Trail.noclash {V : Nat} (hV : V ≤ 20) {D : Nat → Prop} {P : List Pk} (h : Trail V D P) : clash (truthOf P) = 0 := by
  rw [zero_iff_bits]
  intro n
  unfold clash
  rw [Nat.testBit_and, opp_bit' hV h.small]
  cases e : (truthOf P).testBit n with
  | false => rfl
  | true => rw [h.apart n e]; rfl

theorem blk_nety {w : World} {g g' : Nat} {t t' : TypeId} {L L' : List Value} (h : Blk w g t L) (h' : Blk w g' t' L') (ht : t ≠ t') : g ≠ g' := by
  intro e
  subst e
  unfold Blk at h h'
  rw [h] at h'
  simp at h'
  exact ht h'.2

theorem row3_own {w : World} {b : Nat} {t : TypeId} {v v' : Value} {P : List Pk} {ys : List Value} (h : Row3 w v P) (h' : Own w b t v' ys) (ht : t ≠ 140) {k : Nat} (e : v.ownBlock = some k) : v'.ownBlock ≠ some k := by
  intro e'
  rcases h' with ⟨rfl, _⟩ | ⟨g', cap', rfl, _, _, r', hr', _⟩
  · simp [Value.ownBlock] at e'
  · simp [Value.ownBlock] at e'
    subst e'
    exact h.ne_blk hr' ht e

/-- What a piece of code leaves, told: it does not panic. -/
theorem wp_cut {P : Program} {c : Code} {K : Act → World → Prop} {Q : Exit → Act → World → Prop} {a : Act} {w : World} (R : Act → World → Prop) (h : c.wp P (Exit.then R (fun _ _ _ => False)) a w) (hR : ∀ a w, R a w → K a w) : c.wp P (Exit.then K Q) a w :=
  Code.wp_mono (fun e a w h => by cases e <;> first | exact hR _ _ h | exact (h : False).elim) h

/-- A conflict's lemma; none: 0. -/
def lemAt (P : List Pk) : Option Nat → Nat
  | some k => lemOf (falseAt (lv P) P 0) (lv P) P k
  | none => 0

set_option maxHeartbeats 1000000 in
theorem adv1_any (X b0 b1 b2 : Nat) (a0 a1 v u1 u2 : Value) (T L : Nat) (xs : List Pks) (k : Nat) (w : World) (h : SeaAt w X a0 a1 v T L (vals xs)) (hB0 : Blk w b0 108 [.pointer (some ⟨X, 0, none⟩)]) (hB1 : Blk w b1 71 [u1]) (hB2 : Blk w b2 4 [u2]) (h64 : xs.length ≤ 64) (hk : k < 18446744073709551616) :
    Calls Tryd.prog 97 #[sv k, .pointer (some ⟨b0, 0, none⟩), .pointer (some ⟨b1, 0, none⟩), .pointer (some ⟨b2, 0, none⟩)] w fun e w' => e = .returned (.tuple #[]) ∧ Blk w' b1 71 [sv (lemOf (falseAt L (vals xs) 0) L (vals xs) k)] ∧ Blk w' b2 4 [.bool true] ∧ Chg (fun b => b = b1 ∨ b = b2) w w' := by
  have c0 : w.cell? ⟨b0, 0, none⟩ = some (.pointer (some ⟨X, 0, none⟩)) := hB0.cell (i := 0) (by simp) undef
  have hne : b1 ≠ b2 := blk_nety hB1 hB2 (by decide)
  have hne' : ¬ b2 = b1 := fun e => hne e.symm
  have cl := lemma_any X L a0 a1 v (sv T) xs k w h.head h.row h64 hk
  go_enter Tryd.func97, Tryd.ntmps97
  go_wp2_with (go_at_call 98; refine cl.mono ?_; rintro e w1 ⟨rfl, hb⟩; have B1 := hB1.below' hb; have B2 := hB2.below' hb; have d1 : w1.cell? ⟨b1, 0, none⟩ = some u1 := B1.cell (i := 0) (by simp) undef; have d2 : w1.cell? ⟨b2, 0, none⟩ = some u2 := B2.cell (i := 0) (by simp) undef; have f1 := B1.frozen 0; have f2 := B2.frozen 0)
  go_end0
  exact ⟨rfl, (B1.set 0 _).setOther (a := ⟨b2, 0, none⟩) hne _, (B2.setOther (a := ⟨b1, 0, none⟩) hne' _).set 0 _, ((Chg.of_below hb).setB b1 0 (Or.inl rfl) _).setB b2 0 (Or.inr rfl) _⟩

/-- While advance goes on. -/
structure AdvI (V : Nat) (D : Nat → Prop) (w : World) (H : Nat) (vK : Value) (K : List Nat) (X : Nat) (a1 v : Value) (L : Nat) (P : List Pk) (w' : World) (v' : Value) (l : Nat) (r : Bool) : Prop where
  sea : SeaAt w' X (.pointer (some ⟨H, 0, none⟩)) a1 v' (truthOf P) (lv P) P
  cls : Cls w' H vK K
  trail : Trail V D P
  lev : lv P = L
  b0 : Blk w' w.heap.size 108 [.pointer (some ⟨X, 0, none⟩)]
  b1 : Blk w' (w.heap.size + 1) 71 [sv l]
  b2 : Blk w' (w.heap.size + 1 + 1) 4 [.bool r]
  chg : Chg (fun b => b = X ∨ v.ownBlock = some b) w w'
  own : ∀ b, v'.ownBlock = some b → v.ownBlock = some b ∨ w.heap.size + 1 + 1 < b

theorem AdvI.drewI {V : Nat} {D : Nat → Prop} {w : World} {H : Nat} {vK : Value} {K : List Nat} {X : Nat} {a1 v : Value} {L : Nat} {P : List Pk} {w' : World} {v' : Value} {l : Nat} {r : Bool} (h : AdvI V D w H vK K X a1 v L P w' v' l r) : AdvI V D w H vK K X a1 v L P w'.drew v' l r :=
  ⟨⟨h.sea.head, h.sea.row⟩, ⟨h.cls.head, h.cls.own.chg (S := fun _ => False) (Chg.drew (Chg.refl _ _)) (fun _ _ e => e)⟩, h.trail, h.lev, h.b0, h.b1, h.b2, h.chg.drew, h.own⟩

/-- What advance does. -/
def Adv (V : Nat) (D : Nat → Prop) (H : Nat) (vK : Value) (K : List Nat) (X : Nat) (a1 v : Value) (P : List Pk) (w : World) (e : Ending) (w' : World) : Prop := ∃ P' o v', Goes K [] true P (P', o) ∧ Trail V D P' ∧ e = .returned (.tuple #[sv (lemAt P' o), .bool o.isSome]) ∧
  SeaAt w' X (.pointer (some ⟨H, 0, none⟩)) a1 v' (truthOf P') (lv P') P' ∧ Cls w' H vK K ∧ Chg (fun b => b = X ∨ v.ownBlock = some b) w w' ∧ (∀ b, v'.ownBlock = some b → v.ownBlock = some b ∨ w.heap.size ≤ b)

theorem AdvI.boxes {V : Nat} {D : Nat → Prop} {w : World} {H : Nat} {vK : Value} {K : List Nat} {X : Nat} {a1 v : Value} {L : Nat} {P : List Pk} {w' w'' : World} {v' : Value} {l l' : Nat} {r r' : Bool} (h : AdvI V D w H vK K X a1 v L P w' v' l r) (hv : ∀ b, v.ownBlock = some b → b < w.heap.size) (hK : ∀ b, vK.ownBlock = some b → b < w.heap.size)
    (hc : Chg (fun b => b = w.heap.size + 1 ∨ b = w.heap.size + 1 + 1) w' w'') (d1 : Blk w'' (w.heap.size + 1) 71 [sv l']) (d2 : Blk w'' (w.heap.size + 1 + 1) 4 [.bool r']) : AdvI V D w H vK K X a1 v L P w'' v' l' r' := by
  have nS : ∀ g t L', Blk w' g t L' → t ≠ 71 → t ≠ 4 → ¬ (g = w.heap.size + 1 ∨ g = w.heap.size + 1 + 1) := by
    rintro g t L' hg t1 t2 (e | e)
    · exact blk_nety hg h.b1 t1 e
    · exact blk_nety hg h.b2 t2 e
  refine ⟨h.sea.of_chg hc (nS _ _ _ h.sea.head (by decide) (by decide)) (fun g e e' => ?_), h.cls.chg hc (nS _ _ _ h.cls.head (by decide) (by decide)) (fun g e e' => ?_), h.trail, h.lev, h.b0.chg hc (by omega), d1, d2, h.chg.trans2 hc (fun i hi' e' => by omega), h.own⟩
  · rcases h.own g e with h3 | h3
    · have := hv g h3; omega
    · omega
  · have h3 := hK g e
    omega

theorem AdvI.put {V : Nat} (hV : V ≤ 20) {D : Nat → Prop} {w : World} {H : Nat} {vK : Value} {K : List Nat} {X : Nat} {a1 v : Value} {L : Nat} {P : List Pk} {w' w'' : World} {v' v'' : Value} {k : Nat} (h : AdvI V D w H vK K X a1 v L P w' v' 0 false)
    (hks : k < 2 ^ (2 * V)) (hD : D k) (h0 : openOf k (truthOf P) ≠ 0) (h1 : single (openOf k (truthOf P)) = true) (h2 : within (openOf k (truthOf P)) (truthOf P) = false)
    (hs : SeaAt w'' X (.pointer (some ⟨H, 0, none⟩)) a1 v'' (truthOf P ||| openOf k (truthOf P)) (lv P) (⟨openOf k (truthOf P), k, lv P⟩ :: P)) (hc : Chg (fun b => b = X ∨ v'.ownBlock = some b) w' w'') (ho : ∀ b, v''.ownBlock = some b → v'.ownBlock = some b ∨ w'.heap.size ≤ b) :
    AdvI V D w H vK K X a1 v L (⟨openOf k (truthOf P), k, lv P⟩ :: P) w'' v'' 0 false := by
  have hk0 : k ≠ 0 := fun e => h0 (by rw [e]; unfold openOf dif; simp)
  have hlv : lv (⟨openOf k (truthOf P), k, lv P⟩ :: P) = lv P := by rw [lv, if_neg (fun h => hk0 h.1)]
  have hb2 := h.b2.lt
  have nS : ∀ g t L', Blk w' g t L' → t ≠ 115 → t ≠ 140 → ¬ (g = X ∨ v'.ownBlock = some g) := by
    rintro g t L' hg t1 t2 (e | e)
    · exact blk_nety hg h.sea.head t1 e
    · exact h.sea.row.ne_blk hg t2 e
  refine ⟨?_, ?_, h.trail.unit hV hks hD h1 h2, by rw [hlv]; exact h.lev, h.b0.chg hc (nS _ _ _ h.b0 (by decide) (by decide)), h.b1.chg hc (nS _ _ _ h.b1 (by decide) (by decide)), h.b2.chg hc (nS _ _ _ h.b2 (by decide) (by decide)), ?_, fun b e => ?_⟩
  · rw [hlv]; exact hs
  · refine h.cls.chg hc (nS _ _ _ h.cls.head (by decide) (by decide)) (fun g e e' => ?_)
    rcases e' with e' | e'
    · exact own_blk h.cls.own h.sea.head (by decide) (by rw [e, e'])
    · exact row3_own h.sea.row h.cls.own (by decide) e' e
  · refine h.chg.trans2 hc fun i hi e => ?_
    rcases e with e | e
    · exact Or.inl e
    · rcases h.own i e with h3 | h3
      · exact Or.inr h3
      · omega
  · rcases ho b e with h3 | h3
    · exact h.own b h3
    · right; omega

set_option maxRecDepth 100000 in
set_option maxHeartbeats 4000000 in
theorem advance_any (V : Nat) (hV : V ≤ 20) (D : Nat → Prop) (H : Nat) (vK : Value) (K : List Nat) (hKs : ∀ k ∈ K, k < 2 ^ (2 * V)) (hD : ∀ k ∈ K, D k) (hlen : K.length ≤ 4611686018427387904) (X : Nat) (a1 v : Value) (P : List Pk) (w : World) (h : SeaAt w X (.pointer (some ⟨H, 0, none⟩)) a1 v (truthOf P) (lv P) P) (hcls : Cls w H vK K) (hT : Trail V D P) :
    Calls Tryd.prog 81 #[.pointer (some ⟨X, 0, none⟩)] w (Adv V D H vK K X a1 v P w) := by
  have hXl := h.head.lt
  have hv : ∀ b, v.ownBlock = some b → b < w.heap.size := fun b e => h.row.lt e
  have hvK : ∀ b, vK.ownBlock = some b → b < w.heap.size := fun b e => (hcls.own.lt e).2
  have hb0 : Below w.heap.size w (((w.alloc (.cells #[.pointer (some ⟨X, 0, none⟩)] 108)).alloc (.cells #[.int .u64 0] 71)).alloc (.cells #[.bool false] 4)) := (((Below.refl _ _).alloc (Nat.le_refl _) _).alloc (by simp) _).alloc (by simp; omega) _
  have B0 := ((blk_new w [.pointer (some ⟨X, 0, none⟩)] 108).alloc (.cells #[.int .u64 0] 71)).alloc (.cells #[.bool false] 4)
  have B1 := (blk_new (w.alloc (.cells #[.pointer (some ⟨X, 0, none⟩)] 108)) [.int .u64 0] 71).alloc (.cells #[.bool false] 4)
  have B2 := blk_new ((w.alloc (.cells #[.pointer (some ⟨X, 0, none⟩)] 108)).alloc (.cells #[.int .u64 0] 71)) [.bool false] 4
  have hsz : (((w.alloc (.cells #[.pointer (some ⟨X, 0, none⟩)] 108)).alloc (.cells #[.int .u64 0] 71)).alloc (.cells #[.bool false] 4)).heap.size = w.heap.size + 1 + 1 + 1 := by simp
  rw [World.size_alloc] at B1
  rw [World.size_alloc, World.size_alloc] at B2
  dsimp only [List.toArray] at B0 B1 B2
  go_enter Tryd.func81, Tryd.ntmps81
  go_wp2
  generalize ((w.alloc (.cells #[.pointer (some ⟨X, 0, none⟩)] 108)).alloc (.cells #[.int .u64 0] 71)).alloc (.cells #[.bool false] 4) = W0 at *
  have hI0 : AdvI V D w H vK K X a1 v (lv P) P W0 v 0 false := ⟨h.below' hb0, ⟨hcls.head.below' hb0, hcls.own.below' hb0⟩, hT, rfl, B0, B1, B2, Chg.of_below hb0, fun b e => Or.inl e⟩
  have s0 : W0.cell? ⟨w.heap.size, 0, none⟩ = some (.pointer (some ⟨X, 0, none⟩)) := B0.cell (i := 0) (by simp) undef
  have x0 : W0.cell? ⟨X, 0, none⟩ = some (.pointer (some ⟨H, 0, none⟩)) := hI0.sea.head.cell (i := 0) (by simp) undef
  have x3 : W0.cell? ⟨X, 3, none⟩ = some (sv (truthOf P)) := hI0.sea.head.cell (i := 3) (by simp) undef
  have cF := from_run 96 97 (.pointer (some ⟨X, 0, none⟩)) #[.pointer (some ⟨w.heap.size, 0, none⟩), .pointer (some ⟨w.heap.size + 1, 0, none⟩), .pointer (some ⟨w.heap.size + 1 + 1, 0, none⟩)] (enters_of Tryd.func96 (by kernel_rfl) rfl) (enters_of Tryd.func97 (by kernel_rfl) rfl) H vK K V hV hKs hlen P hT.small (hT.noclash hV)
    (fun P' w' => ∃ v', AdvI V D w H vK K X a1 v (lv P) P' w' v' 0 false) (fun P' k w' => ∃ v', AdvI V D w H vK K X a1 v (lv P) P' w' v' (lemAt P' (some k)) true) (fun P' w' ⟨v', hi⟩ => hi.cls)
    (fun P' k w' ⟨v', hi⟩ hk h0 h1 h2 => by
      have ho : openOf k (truthOf P') < 18446744073709551616 := lt64 hV (dif_lt (hKs k hk))
      refine (put_any X _ a1 v' (truthOf P') (lv P') P' (openOf k (truthOf P')) k w' hi.sea (by have := hi.trail.short hV; omega) (lt64 hV hi.trail.small) ho).mono ?_
      rintro e w'' ⟨rfl, v'', hs, hc, hoo⟩
      exact ⟨rfl, v'', hi.put hV (hKs k hk) (hD k hk) h0 h1 h2 hs hc hoo⟩)
    (fun P' k w' ⟨v', hi⟩ hk h0 => by
      have h40 := hi.trail.short hV
      obtain ⟨xs, hxs⟩ := pks_of P' (hi.trail.pks hV (by omega))
      have hl : xs.length = P'.length := by rw [← hxs]; simp [vals]
      have hs := hi.sea
      rw [← hxs] at hs
      have hk64 := lt64 hV (hKs k hk)
      rw [hxs] at hs
      have hs2 : SeaAt w' X (.pointer (some ⟨H, 0, none⟩)) a1 v' (truthOf P') (lv P') (vals xs) := by rw [hxs]; exact hs
      refine (adv1_any X w.heap.size (w.heap.size + 1) (w.heap.size + 1 + 1) _ a1 v' _ _ (truthOf P') (lv P') xs k w' hs2 hi.b0 hi.b1 hi.b2 (by omega) hk64).mono ?_
      rintro e w'' ⟨rfl, d1, d2, hc⟩
      rw [hxs] at d1
      exact ⟨rfl, v', hi.boxes hv hvK hc d1 d2⟩)
    W0.drew ⟨v, hI0.drewI⟩
  clear hI0 hcls hT h
  refine wp_cut (fun a w1 => (∃ P' o, Goes K [] true P (P', o) ∧ FromEnd (fun P' w' => ∃ v', AdvI V D w H vK K X a1 v (lv P) P' w' v' 0 false) (fun P' k w' => ∃ v', AdvI V D w H vK K X a1 v (lv P) P' w' v' (lemAt P' (some k)) true) P' w1 o) ∧ ∃ (u5 u6 u7 u8 u9 u10 u11 u12 u13 u14 u15 u16 u17 : Value), a = { tmps := #[.pointer (some ⟨X, 0, none⟩), .pointer (some ⟨w.heap.size, 0, none⟩), .pointer (some ⟨w.heap.size + 1, 0, none⟩), .pointer (some ⟨w.heap.size + 1 + 1, 0, none⟩), .func (.func 97) #[] #[.pointer (some ⟨w.heap.size, 0, none⟩), .pointer (some ⟨w.heap.size + 1, 0, none⟩), .pointer (some ⟨w.heap.size + 1 + 1, 0, none⟩)], u5, u6, u7, u8, u9, u10, u11, u12, u13, u14, u15, u16, u17, undef, undef], defers := [] }) ?_ ?_
  · go_region_law (go_simp; go_at_call 48; refine cF.mono ?_; rintro e w1 ⟨rfl, P', o, hG, hE⟩; dsimp only)
    all_goals exact ⟨⟨P', o, hG, hE⟩, _, _, _, _, _, _, _, _, _, _, _, _, _, rfl⟩
  · rintro _ w1 ⟨⟨P', o, hG, hE⟩, u5, u6, u7, u8, u9, u10, u11, u12, u13, u14, u15, u16, u17, rfl⟩
    clear cF s0 x0 x3
    have hA : ∃ v', AdvI V D w H vK K X a1 v (lv P) P' w1 v' (lemAt P' o) o.isSome := by
      cases o with
      | none => exact hE
      | some k => exact hE
    clear hE
    obtain ⟨v', hA⟩ := hA
    generalize hl : lemAt P' o = l at *
    have HLm : Hid (lemAt P' o = l) := hl
    generalize hr : o.isSome = r at *
    have HIs : Hid (o.isSome = r) := hr
    clear hl hr
    have d1 : w1.cell? ⟨w.heap.size + 1, 0, none⟩ = some (sv l) := hA.b1.cell (i := 0) (by simp) undef
    have d2 : w1.cell? ⟨w.heap.size + 1 + 1, 0, none⟩ = some (.bool r) := hA.b2.cell (i := 0) (by simp) undef
    have f1 := hA.b1.frozen 0
    have f2 := hA.b2.frozen 0
    have HA : Hid _ := hA
    have HG : Hid _ := hG
    clear hA hG
    go_wp2
    go_region
    have hF : AdvI V D w H vK K X a1 v (lv P) P' ((w1.setCell ⟨w.heap.size + 1, 0, none⟩ (.int .u64 l)).setCell ⟨w.heap.size + 1 + 1, 0, none⟩ (.bool r)).drew v' l r := by
      have hA : AdvI V D w H vK K X a1 v (lv P) P' w1 v' l r := HA.out
      exact hA.boxes hv hvK ((((Chg.refl (fun b => b = w.heap.size + 1 ∨ b = w.heap.size + 1 + 1) w1).setB (w.heap.size + 1) 0 (Or.inl rfl) _).setB (w.heap.size + 1 + 1) 0 (Or.inr rfl) _).drew) (((hA.b1.set 0 _).setOther (a := ⟨w.heap.size + 1 + 1, 0, none⟩) (by simp) _).drew) ((((hA.b2.setOther (a := ⟨w.heap.size + 1, 0, none⟩) (by simp) _).set 0 _)).drew)
    generalize ((w1.setCell ⟨w.heap.size + 1, 0, none⟩ (.int .u64 l)).setCell ⟨w.heap.size + 1 + 1, 0, none⟩ (.bool r)).drew = WF at *
    have g1 : WF.cell? ⟨w.heap.size + 1, 0, none⟩ = some (sv l) := hF.b1.cell (i := 0) (by simp) undef
    have g2 : WF.cell? ⟨w.heap.size + 1 + 1, 0, none⟩ = some (.bool r) := hF.b2.cell (i := 0) (by simp) undef
    have HF : Hid _ := hF
    clear hF
    go_wp2
    refine bodyPost_ret (v := .tuple #[sv l, .bool r]) (by simp [results, Tryd.results81, go_sem, g1, g2]) rfl ?_
    have hF : AdvI V D w H vK K X a1 v (lv P) P' WF v' l r := HF.out
    refine ⟨P', o, v', HG.out, hF.trail, by rw [HLm.out, HIs.out], hF.sea, hF.cls, hF.chg, fun b e => ?_⟩
    rcases hF.own b e with h3 | h3
    · exact Or.inl h3
    · right; omega
end Go.Proofs.YtlodenfdcckemaaDoor
