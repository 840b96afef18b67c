/-
  The walk of Solve.
-/
import Derived.Test.YtomebpjjeldhdaaDoorSeaG
import Derived.Test.YtomebpjjeldhdaaDoorTz
import Derived.Test.YtomebpjjeldhdaaDoorEntry
namespace Go.Proofs.YtomebpjjeldhdaaDoor
open Go.RowKit Go.Shelf

theorem Tryd.infoInts : (Tryd.prog.info? 24).map (fun i => (i.zero, i.size, i.bytes)) = some (some (.slice none 0 0), 1, 24) := by kernel_rfl

/-- Lists that a call has made: each its own block, all from base on, no two in one. -/
structure MadeS (w : World) (base : Nat) (v : Value) (vs : List Value) (cs : List (List Int)) : Prop where
  oe : Own w base 24 v vs
  len : vs.length = cs.length
  ls : ∀ i, i < vs.length → Own w base 3 (vs.getD i undef) (ints (cs.getD i []))
  nd : (vs.filterMap Value.ownBlock).Nodup

theorem MadeS.start (w : World) (base : Nat) : MadeS w base (.slice none 0 0) [] [] := ⟨Own.nil _ _ _, rfl, fun i hi => absurd hi (by simp), List.nodup_nil⟩
theorem MadeS.tchg {w w' : World} {base : Nat} {v : Value} {vs : List Value} {cs : List (List Int)} {Ts : TypeId → Prop} (h : MadeS w base v vs cs) (ht : TChg Ts w w') (h1 : ¬ Ts 24) (h2 : ¬ Ts 3) : MadeS w' base v vs cs := ⟨ht.own h.oe h1, h.len, fun i hi => ht.own (h.ls i hi) h2, h.nd⟩
theorem MadeS.below' {w w' : World} {base : Nat} {v : Value} {vs : List Value} {cs : List (List Int)} (h : MadeS w base v vs cs) (hb : Below w.heap.size w w') : MadeS w' base v vs cs := ⟨h.oe.below' hb, h.len, fun i hi => (h.ls i hi).below' hb, h.nd⟩
theorem MadeS.lower {w : World} {b b' : Nat} {v : Value} {vs : List Value} {cs : List (List Int)} (h : MadeS w b v vs cs) (hb : b' ≤ b) : MadeS w b' v vs cs := ⟨h.oe.lower hb, h.len, fun i hi => (h.ls i hi).lower hb, h.nd⟩

/-- The blocks of lists that lie below some place. -/
theorem MadeS.lt {w : World} {base : Nat} {v : Value} {vs : List Value} {cs : List (List Int)} (h : MadeS w base v vs cs) {k : Nat} (hk : k ∈ vs.filterMap Value.ownBlock) : base ≤ k ∧ k < w.heap.size := by
  obtain ⟨y, hy, e⟩ := List.mem_filterMap.1 hk
  obtain ⟨i, hi, rfl⟩ := List.getElem_of_mem hy
  have := h.ls i hi
  rw [getD_lt _ _ _ hi] at this
  exact this.lt e

theorem MadeS.more {w w1 w' : World} {base g cap n : Nat} {v x : Value} {vs : List Value} {cs : List (List Int)} {c : List Int} (h : MadeS w base v vs cs) (hb : Below w.heap.size w w1) (hx : Own w1 w.heap.size 3 x (ints c)) (hbase : base ≤ w.heap.size) (hown : Own w' base 24 (.slice (some ⟨g, 0, none⟩) n cap) (vs ++ [x])) (hC : Chg (fun k => v.ownBlock = some k) w1 w') : MadeS w' base (.slice (some ⟨g, 0, none⟩) n cap) (vs ++ [x]) (cs ++ [c]) := by
  have hl := h.len
  have h1 := h.below' hb
  refine ⟨hown, by simp [hl], fun i hi => ?_, ?_⟩
  · by_cases hlt : i < vs.length
    · have := (h1.ls i hlt).chg hC (fun k e e' => own_ne h1.oe (h1.ls i hlt) (by decide) e' e)
      rw [getD_lt _ _ _ hi, List.getElem_append_left hlt, getD_lt _ _ _ (by simp; omega), List.getElem_append_left (by omega)]
      rw [getD_lt _ _ _ hlt, getD_lt _ _ _ (by omega)] at this
      exact this
    · have hi' : i = vs.length := by simp at hi; omega
      subst hi'
      have := (hx.lower hbase).chg hC (fun k e e' => own_ne h1.oe hx (by decide) e' e)
      rw [getD_lt _ _ _ hi, getD_lt _ _ _ (by simp; omega)]
      simpa [hl] using this
  · rw [List.filterMap_append, List.nodup_append]
    refine ⟨h.nd, ?_, fun a ha b hb' => ?_⟩
    · cases e : x.ownBlock with
      | none => simp [e]
      | some k => simp [e]
    · have h2 := (h.lt ha).2
      obtain ⟨y, hy, e⟩ := List.mem_filterMap.1 hb'
      rw [List.mem_singleton] at hy
      subst hy
      have h3 := (hx.lt e).1
      omega

/-- The proof so far, in memory. -/
def ProofAt (Bp B0 : Nat) (F : List Nat) (w : World) : Prop := Tab w ∧ ∃ vp vs, Blk w Bp 23 [vp] ∧ MadeS w B0 vp vs (F.map (litsOf 64))

theorem sol1_end {w w1 w2 : World} {Bp B0 : Nat} {F : List Nat} {c : Nat} {vp x : Value} {vs : List Value} {g cap : Nat} {o : Obj} (hT : Tab w) (hBp : Blk w Bp 23 [vp]) (hM : MadeS w B0 vp vs (F.map (litsOf 64))) (hB : B0 ≤ w.heap.size) (hB1 : B0 ≤ Bp) (hw0 : 0 < B0) (hb1 : Below w.drew.heap.size w.drew w1) (hx : Own w1 w.drew.heap.size 3 x (ints (litsOf 64 c)))
    (hown : w2.ownsRow B0 24 1 (.slice (some ⟨g, 0, none⟩) (F.length + 1) cap) (F.length + 1) (vs ++ [x])) (hgrow : (w1.alloc o).grownBy w2 vp.ownBlock) (hneB : vp.ownBlock ≠ some Bp) :
    ProofAt Bp B0 (F ++ [c]) (w2.setCell ⟨Bp, 0, none⟩ (.slice (some ⟨g, 0, none⟩) (F.length + 1) cap)) ∧ Below B0 w (w2.setCell ⟨Bp, 0, none⟩ (.slice (some ⟨g, 0, none⟩) (F.length + 1) cap)) ∧ TChg (fun t => ¬ SeaT t) w (w2.setCell ⟨Bp, 0, none⟩ (.slice (some ⟨g, 0, none⟩) (F.length + 1) cap)) := by
  have hMd : MadeS w.drew B0 vp vs (F.map (litsOf 64)) := hM.tchg (Ts := fun _ => False) (TChg.of_below ((Below.refl _ _).drew)) (fun e => e) (fun e => e)
  have hM1 := hMd.below' hb1
  have hC2 : Chg (fun k => vp.ownBlock = some k) w1 w2 := (Chg.of_below (alloc_below w1 o)).trans (Chg.of_grown (S := fun k => vp.ownBlock = some k) hgrow (fun k e => e) (fun k e o' ho => (hM1.oe.alloc o).cells e o' ho))
  have hM2 := hMd.more hb1 hx hB (own_of hown) hC2
  have hBp1 := Blk.below' (w := w.drew) hBp hb1
  have hBp2 : Blk w2 Bp 23 [vp] := hBp1.chg hC2 hneB
  have hCs : Chg (fun k => k = Bp) w2 (w2.setCell ⟨Bp, 0, none⟩ (.slice (some ⟨g, 0, none⟩) (F.length + 1) cap)) := (Chg.refl (fun k => k = Bp) w2).setB Bp 0 rfl _
  have ht : TChg (fun t => t = 23) w2 (w2.setCell ⟨Bp, 0, none⟩ (.slice (some ⟨g, 0, none⟩) (F.length + 1) cap)) := ⟨_, hCs, fun b e _ => by obtain rfl : b = Bp := e; exact ⟨_, _, hBp2, rfl⟩⟩
  have hCw : Chg (fun k => k = Bp ∨ vp.ownBlock = some k) w (w2.setCell ⟨Bp, 0, none⟩ (.slice (some ⟨g, 0, none⟩) (F.length + 1) cap)) :=
    (((Chg.refl (fun k => k = Bp ∨ vp.ownBlock = some k) w).drew.trans (Chg.of_below hb1)).trans (hC2.mono fun k _ e => Or.inr e)).trans (hCs.mono fun k _ e => Or.inl e)
  have hbw : Below B0 w (w2.setCell ⟨Bp, 0, none⟩ (.slice (some ⟨g, 0, none⟩) (F.length + 1) cap)) := hCw.below hB (fun k e => by
    rcases e with e | e
    · omega
    · exact (hM.oe.lt e).1)
  refine ⟨⟨hT.below hbw hw0, _, _, hBp2.set 0 _, by rw [List.map_append]; exact hM2.tchg ht (by decide) (by decide)⟩, hbw, _, hCw, fun b e _ => ?_⟩
  rcases e with rfl | e
  · exact ⟨_, _, hBp, by unfold SeaT; decide⟩
  · obtain ⟨L, hL⟩ := hM.oe.blkOf e
    exact ⟨_, _, hL, by unfold SeaT; decide⟩

set_option maxRecDepth 100000 in
set_option maxHeartbeats 2000000 in
theorem sol1_any (Bp B0 : Nat) (F : List Nat) (c : Nat) (w : World) (h : ProofAt Bp B0 F w) (hc : c < 18446744073709551616) (hB : B0 ≤ w.heap.size) (hB1 : B0 ≤ Bp) (hw0 : 0 < B0) (hF : F.length ≤ 3486784401) :
    Calls Tryd.prog 61 #[sv c, .pointer (some ⟨Bp, 0, none⟩)] w fun e w' => e = .returned (.tuple #[]) ∧ ProofAt Bp B0 (F ++ [c]) w' ∧ Below B0 w w' ∧ TChg (fun t => ¬ SeaT t) w w' := by
  obtain ⟨hT, vp, vs, hBp, hM⟩ := h
  have hlen : vs.length = F.length := by rw [hM.len]; simp
  have hit : w.cell? ⟨Bp, 0, none⟩ = some vp := hBp.cell (i := 0) (by simp) undef
  obtain ⟨i0, hi, hz0, hz1, hz2⟩ := info_parts Tryd.infoInts
  have hneB : vp.ownBlock ≠ some Bp := own_blk hM.oe hBp (by decide)
  have hBl := hBp.lt
  have hTd : Tab w.drew := hT
  have cL := list_any c hc w.drew hTd (by show 0 < w.heap.size; omega)
  go_enter Tryd.func61, Tryd.ntmps61
  go_wp2
  go_region_law (first
    | (refine step_append_lies _ (by rfl) (.tmp 3) (.tmp 6) 23 (by rfl) B0 24 i0 (.slice none 0 0) 1 24 Tryd.underlying23 hi hz0 hz1 hz2 (by rfl) (by decide) vp F.length vs (by rfl) (by exact hOA) ⟨w1.heap.size, 0, none⟩ 1 1 [.slice xa (litsOf 64 c).length xc] (by rfl) (by rfl) (by exact World.news_of_block hNA) hone (by decide) (by unfold maxLen; omega) (by omega) (by rw [alloc_size]; omega) (w1.heap.size + 1) (by simp) ?_; intro g cap w2 hown hgrow hat hlt; have B2 := Blk.grown hBA hgrow hneB; have d1 : w2.cell? ⟨Bp, 0, none⟩ = some vp := B2.cell (i := 0) (by simp) undef; have d2 : w2.frozen? ⟨Bp, 0, none⟩ = false := B2.frozen 0)
    | (go_simp; go_at_call 59; refine cL.mono ?_; rintro e w1 ⟨x, rfl, hx, hb1⟩; obtain ⟨xa, xc, hxs⟩ := hx.shape; rw [List.length_map] at hxs; subst hxs; have hone : ∀ u ∈ [Value.slice xa (litsOf 64 c).length xc], u.oneCell' = true := (by intro u hu; rw [List.mem_singleton] at hu; rw [hu]; rfl); have hBp1 := Blk.below' (w := w.drew) hBp hb1; have hit1 : w1.cell? ⟨Bp, 0, none⟩ = some vp := hBp1.cell (i := 0) (by simp) undef; have hs1 : w.heap.size ≤ w1.heap.size := hb1.size; have hM1 := MadeS.below' (w := w.drew) (hM.tchg (Ts := fun _ => False) (TChg.of_below ((Below.refl _ _).drew)) (fun e => e) (fun e => e)) hb1; have hOA : (w1.alloc (.cells #[.slice xa (litsOf 64 c).length xc] 24)).ownsRow B0 24 1 vp F.length vs := (by have := (hM1.oe.alloc (.cells #[.slice xa (litsOf 64 c).length xc] 24)).own; rw [hlen] at this; exact this); have hNA : Blk (w1.alloc (.cells #[.slice xa (litsOf 64 c).length xc] 24)) w1.heap.size 24 [.slice xa (litsOf 64 c).length xc] := blk_new w1 [.slice xa (litsOf 64 c).length xc] 24; have hBA := hBp1.alloc (.cells #[.slice xa (litsOf 64 c).length xc] 24); have hBl1 : Bp < w1.heap.size := hBp1.lt; dsimp only))
  all_goals
    have hr := sol1_end (Bp := Bp) (B0 := B0) (F := F) (c := c) hT hBp hM hB hB1 hw0 hb1 hx hown hgrow hneB
    have HR : Hid _ := hr
    clear hr
    go_end0
    exact ⟨rfl, HR.out⟩

theorem found_sol (Bp B0 : Nat) (hB1 : B0 ≤ Bp) (hw0 : 0 < B0) : Found 61 #[.pointer (some ⟨Bp, 0, none⟩)] B0 (ProofAt Bp B0) := by
  refine ⟨enters_of Tryd.func61 (by kernel_rfl) rfl, fun F c w hJ hc hB hF => sol1_any Bp B0 F c w hJ hc hB hB1 hw0 hF, fun F w w' hJ ht hb => ?_⟩
  obtain ⟨hT, vp, vs, hBp, hM⟩ := hJ
  exact ⟨hT.below hb hw0, vp, vs, ht.blk hBp (by unfold SeaT; decide), hM.tchg ht (by unfold SeaT; decide) (by unfold SeaT; decide)⟩

/-- How Solve answers. -/
def SolEnd (b : Nat) (e : Ending) (w' : World) : End → Prop
  | .sat S => ∃ v, e = .returned (.tuple #[.agg #[.bool true, v, .slice none 0 0], .int .i64 0]) ∧ Own w' b 3 v (ints (litsOf 64 S))
  | .unsat F => ∃ v vs, e = .returned (.tuple #[.agg #[.bool false, .slice none 0 0, v], .int .i64 0]) ∧ MadeS w' b v vs (F.map (litsOf 64))

theorem sol_end {w W1 W2 : World} {Rb : Nat} {a b c : Value} (hR : Blk W1 Rb 50 [.bool false, .slice none 0 0, .slice none 0 0]) (hw : w.heap.size ≤ Rb) (hb : Below w.heap.size w W1) (e : W2 = ((W1.setCell ⟨Rb, 0, none⟩ a).setCell ⟨Rb, 1, none⟩ b).setCell ⟨Rb, 2, none⟩ c) : Blk W2 Rb 50 [a, b, c] ∧ Below w.heap.size w W2 ∧ TChg (fun t => t = 50) W1 W2 := by
  subst e
  refine ⟨((hR.set 0 a).set 1 b).set 2 c, ((hb.setCell (p := ⟨Rb, 0, none⟩) hw _).setCell (p := ⟨Rb, 1, none⟩) hw _).setCell (p := ⟨Rb, 2, none⟩) hw _, fun k => k = Rb, (((Chg.refl (fun k => k = Rb) W1).setB Rb 0 rfl _).setB Rb 1 rfl _).setB Rb 2 rfl _, fun k e _ => by obtain rfl : k = Rb := e; exact ⟨_, _, hR, rfl⟩⟩

set_option maxRecDepth 100000 in
set_option maxHeartbeats 2000000 in
theorem solve_good (n : Nat) (ao : Option Addr) (cap : Nat) (cs : List (List Int)) (w : World) (hc : ListsAt w w.heap.size ao cs) (hg : Good n cs) (hf : (fault n cs).1 = 0) (hT : Tab w) (hw0 : 0 < w.heap.size) :
    Calls Tryd.prog 22 #[fm n ao cap cs] w fun e w' => ∃ en, Ends (chOf n cs) ⟨keptOf cs, [], []⟩ en ∧ EndOk n cs en ∧ SolEnd w.heap.size e w' en ∧ Below w.heap.size w w' := by
  have hne : ((fault n cs).1 != 0) = false := by simp [hf]
  have hw1 : Below w.heap.size w ((w.alloc (.cells #[.int .i64 n, .slice ao cs.length cap] 31)).alloc (.cells #[.bool false, .slice none 0 0, .slice none 0 0] 50)) := ((Below.refl _ _).alloc (Nat.le_refl _) _).alloc (by simp) _
  have Bf := (blk_new w [.int .i64 n, .slice ao cs.length cap] 31).alloc (.cells #[.bool false, .slice none 0 0, .slice none 0 0] 50)
  have Br := blk_new (w.alloc (.cells #[.int .i64 n, .slice ao cs.length cap] 31)) [.bool false, .slice none 0 0, .slice none 0 0] 50
  rw [World.size_alloc] at Br
  dsimp only [List.toArray] at Bf Br
  unfold fm
  go_enter Tryd.func22, Tryd.ntmps22
  go_wp2_with fail
  generalize (w.alloc (.cells #[.int .i64 n, .slice ao cs.length cap] 31)).alloc (.cells #[.bool false, .slice none 0 0, .slice none 0 0] 50) = W0 at *
  have hc0 := (hc.below hw1 (Nat.le_refl _)).mono hw1.size
  refine (of_any n ao cap cs W0 hc0).mono ?_
  rintro e w1 ⟨rfl, hb1⟩
  have hbw1 : Below w.heap.size w w1 := hw1.trans (hb1.mono hw1.size)
  have Bf1 := Bf.below' hb1
  have Br1 := Br.below' hb1
  have m0 : w1.cell? ⟨w.heap.size, 0, none⟩ = some (.int .i64 n) := Bf1.cell (i := 0) (by simp) undef
  have m1 : w1.cell? ⟨w.heap.size, 1, none⟩ = some (.slice ao cs.length cap) := Bf1.cell (i := 1) (by simp) undef
  have hb2 := alloc_below w1 (.cells #[.slice none 0 0] 23)
  have Bp := blk_new w1 [.slice none 0 0] 23
  have hfl := Bf1.lt
  dsimp only [List.toArray] at Bp
  clear hf
  go_wp2_with fail
  generalize hwp : w1.alloc (.cells #[.slice none 0 0] 23) = W2 at *
  have hbw2 : Below w.heap.size w W2 := hbw1.trans (hb2.mono hbw1.size)
  have hc2 := (hc.below hbw2 (Nat.le_refl _)).mono hbw2.size
  have hz2 : w1.heap.size ≤ W2.heap.size := hb2.size
  have hP0 : ProofAt w1.heap.size w1.heap.size [] W2 := ⟨hT.below hbw2 hw0, _, [], Bp, MadeS.start _ _⟩
  refine (run_any n ao cap cs 61 #[.pointer (some ⟨w1.heap.size, 0, none⟩)] w1.heap.size (ProofAt w1.heap.size w1.heap.size) (found_sol _ _ (Nat.le_refl _) (by have := hbw1.size; omega)) W2 hc2 hg hz2 hP0).mono ?_
  rintro e w3 ⟨en, hEn, hOk, hRe, hb3⟩
  have hs1 := hbw1.size
  have hbw3 : Below w.heap.size w w3 := hbw2.trans (hb3.mono hs1)
  have Br3 : Blk w3 (w.heap.size + 1) 50 [.bool false, .slice none 0 0, .slice none 0 0] := ((Br1.below' hb2).below hb3 Br1.lt)
  have r0 : w3.cell? ⟨w.heap.size + 1, 0, none⟩ = some (.bool false) := Br3.cell (i := 0) (by simp) undef
  have r1 : w3.cell? ⟨w.heap.size + 1, 1, none⟩ = some (.slice none 0 0) := Br3.cell (i := 1) (by simp) undef
  have r2 : w3.cell? ⟨w.heap.size + 1, 2, none⟩ = some (.slice none 0 0) := Br3.cell (i := 2) (by simp) undef
  have f0 := Br3.frozen 0
  have f1 := Br3.frozen 1
  have f2 := Br3.frozen 2
  clear m0 m1 hc2 hc0 Bf Br Bf1 Br1 hb1 hb2 Bp hP0 hwp hw1 hbw2 hb3
  have HEn : Hid _ := hEn
  have HOk : Hid _ := hOk
  have HBr : Hid (Blk w3 (w.heap.size + 1) 50 [.bool false, .slice none 0 0, .slice none 0 0]) := Br3
  cases en with
  | sat S =>
    obtain rfl : e = .returned (.tuple #[sv S, .bool true]) := hRe
    have hS64 : S < 18446744073709551616 := lt64 hg.vars hOk.1
    have cL := list_any S hS64 w3 (hT.below hbw3 hw0) (by have := hbw3.size; omega)
    clear hEn hOk Br3
    go_wp2_with fail
    refine cL.mono ?_
    rintro e w4 ⟨x, rfl, hx, hb4⟩
    obtain ⟨xa, xc, hxs⟩ := hx.shape
    rw [List.length_map] at hxs
    subst hxs
    have Br4 := HBr.out.below' hb4
    have q0 : w4.cell? ⟨w.heap.size + 1, 0, none⟩ = some (.bool false) := Br4.cell (i := 0) (by simp) undef
    have q1 : w4.cell? ⟨w.heap.size + 1, 1, none⟩ = some (.slice none 0 0) := Br4.cell (i := 1) (by simp) undef
    have q2 : w4.cell? ⟨w.heap.size + 1, 2, none⟩ = some (.slice none 0 0) := Br4.cell (i := 2) (by simp) undef
    have g0 := Br4.frozen 0
    have g1 := Br4.frozen 1
    have g2 := Br4.frozen 2
    have hbw4 : Below w.heap.size w w4 := hbw3.trans (hb4.mono hbw3.size)
    have hend := fun W2 h => sol_end (W2 := W2) (a := .bool true) (b := .slice xa (litsOf 64 S).length xc) (c := .slice none 0 0) Br4 (Nat.le_succ _) hbw4 h
    have HEd : Hid _ := hend
    have HX : Hid _ := hx
    have hsz3 := hbw3.size
    clear hend hx Br4 cL r0 r1 r2 f0 f1 f2
    go_wp2
    obtain ⟨bR, hbF, htF⟩ := HEd.out _ rfl
    exact bodyPost_ret (v := .tuple #[.agg #[.bool true, .slice xa (litsOf 64 S).length xc, .slice none 0 0], .int .i64 0]) (by simp [results, Tryd.results22, go_sem, q0, q1, q2]) rfl ⟨.sat S, HEn.out, HOk.out, ⟨_, rfl, htF.own (Own.lower HX.out hsz3) (by decide)⟩, hbF⟩
  | unsat F =>
    obtain ⟨rfl, hTb, vp, vs, hBp, hM⟩ := hRe
    have hlen : vs.length = F.length := by rw [hM.len]; simp
    obtain ⟨pa, pc, hps⟩ := hM.oe.shape
    rw [hlen] at hps
    have hMl := hM.lower hs1
    subst hps
    have p0 : w3.cell? ⟨w1.heap.size, 0, none⟩ = some (.slice pa F.length pc) := hBp.cell (i := 0) (by simp) undef
    have hend := fun W2 h => sol_end (W2 := W2) (a := .bool false) (b := .slice none 0 0) (c := .slice pa F.length pc) Br3 (Nat.le_succ _) hbw3 h
    have HEd : Hid _ := hend
    have HM : Hid (MadeS w3 w.heap.size (.slice pa F.length pc) vs (F.map (litsOf 64))) := hMl
    clear hend hM hMl hBp Br3 hEn hOk
    go_wp2
    obtain ⟨bR, hbF, htF⟩ := HEd.out _ rfl
    exact bodyPost_ret (v := .tuple #[.agg #[.bool false, .slice none 0 0, .slice pa F.length pc], .int .i64 0]) (by simp [results, Tryd.results22, go_sem, r0, r1, r2]) rfl ⟨.unsat F, HEn.out, HOk.out, ⟨_, vs, rfl, HM.out.tchg htF (by decide) (by decide)⟩, hbF⟩
end Go.Proofs.YtomebpjjeldhdaaDoor
