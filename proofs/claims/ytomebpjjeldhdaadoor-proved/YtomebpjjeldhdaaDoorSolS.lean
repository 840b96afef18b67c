/-
  Answers in memory; the walks of the document's Right, of sameLists, alike and copied.
-/
import Derived.Test.YtomebpjjeldhdaaDoorSolR
import Derived.Test.YtomebpjjeldhdaaDoorRefCheck
import Derived.Test.YtomebpjjeldhdaaDoorSame1
import Derived.Test.YtomebpjjeldhdaaDoorMk
import Derived.Laws.OwnMore
namespace Go.Proofs.YtomebpjjeldhdaaDoor
open Go.RowKit

theorem MadeS.lists {w : World} {base : Nat} {v : Value} {vs : List Value} {cs : List (List Int)} (h : MadeS w base v vs cs) : ∃ ao cap, v = .slice ao cs.length cap ∧ ListsAt w w.heap.size ao cs ∧ cs.length ≤ cap := by
  have hlen := h.len
  rcases h.oe with ⟨rfl, h0⟩ | ⟨g, cap, rfl, hb, h63, hr⟩
  · have : cs = [] := by rw [h0] at hlen; simpa using hlen.symm
    subst this
    exact ⟨none, 0, rfl, fun h => absurd rfl h, Nat.le_refl _⟩
  · refine ⟨some ⟨g, 0, none⟩, cap, by rw [hlen], fun hne => ⟨g, 0, rfl, hr.lt, fun i hi => ?_⟩, by rw [← hlen]; exact hr.le⟩
    have hi' : i < vs.length := by omega
    obtain ⟨A, C, h1, h2⟩ := (h.ls i hi').ints (Nat.le_refl _)
    exact ⟨A, C, by rw [Nat.zero_add, hr.cell hi' undef, h1], h2⟩

theorem own_intsAt {w : World} {base : Nat} {v : Value} {zs : List Int} (h : Own w base 3 v (ints zs)) : ∃ ao cap, v = .slice ao zs.length cap ∧ IntsAt w w.heap.size ao zs := h.ints (Nat.le_refl _)

/-- What an end answers. -/
def ansOf : End → Bool × List Int × List (List Int)
  | .sat S => (true, litsOf 64 S, [])
  | .unsat F => (false, [], F.map (litsOf 64))

/-- An answer in memory. -/
structure AnsAt (w : World) (b : Nat) (zs : List Int) (ps : List (List Int)) (vm vp : Value) (vs : List Value) : Prop where
  model : Own w b 3 vm (ints zs)
  proof : MadeS w b vp vs ps

theorem AnsAt.below' {w w' : World} {b : Nat} {zs : List Int} {ps : List (List Int)} {vm vp : Value} {vs : List Value} (h : AnsAt w b zs ps vm vp vs) (hb : Below w.heap.size w w') : AnsAt w' b zs ps vm vp vs := ⟨h.model.below' hb, h.proof.below' hb⟩

theorem solEnd_ans {b : Nat} {e : Ending} {w' : World} {en : End} (h : SolEnd b e w' en) : ∃ vm vp vs, e = .returned (.tuple #[.agg #[.bool (ansOf en).1, vm, vp], .int .i64 0]) ∧ AnsAt w' b (ansOf en).2.1 (ansOf en).2.2 vm vp vs := by
  cases en with
  | sat S =>
    obtain ⟨v, rfl, hv⟩ := h
    exact ⟨v, _, [], rfl, hv, MadeS.start _ _⟩
  | unsat F =>
    obtain ⟨v, vs, rfl, hv⟩ := h
    exact ⟨_, v, vs, rfl, Own.nil _ _ _, hv⟩

/-- How great an answer can be. -/
theorem ans_few {V : Nat} (hV : V ≤ 20) {cs : List (List Int)} {en : End} (h : EndOk V cs en) : (ansOf en).2.1.length ≤ 20 ∧ (ansOf en).2.2.length ≤ 3486784402 ∧ ∀ c ∈ (ansOf en).2.2, c.length ≤ 20 ∧ ∀ l ∈ c, IsLit V l := by
  cases en with
  | sat S =>
    refine ⟨?_, by simp [ansOf], by simp [ansOf]⟩
    show (litsOf 64 S).length ≤ 20
    rw [(endOk_model hV h).1, modelOf_len]
    exact hV
  | unsat F =>
    obtain ⟨-, h2, -, h4⟩ := endOk_check hV h
    exact ⟨by simp [ansOf], by simpa [ansOf] using h4, h2⟩

set_option maxRecDepth 100000 in
set_option maxHeartbeats 1000000 in
theorem rright_any (n : Nat) (ao : Option Addr) (cap : Nat) (cs : List (List Int)) (en : End) (vm vp : Value) (vs : List Value) (b : Nat) (w : World) (hc : ListsAt w w.heap.size ao cs) (hg : Good n cs) (hok : EndOk n cs en) (ha : AnsAt w b (ansOf en).2.1 (ansOf en).2.2 vm vp vs) :
    Calls Tryd.prog 65 #[.agg #[.int .i64 n, .slice ao cs.length cap], .agg #[.bool (ansOf en).1, vm, vp]] w fun e w' => e = .returned (.bool true) ∧ Below w.heap.size w w' := by
  have hlit : ∀ c ∈ cs, ∀ l ∈ c, IsLit n l := fun c hc l hl => hg.lits c hc l hl
  obtain ⟨ma, mc, rfl, hmi⟩ := own_intsAt ha.model
  obtain ⟨pa, pc, rfl, hpl, hpc⟩ := ha.proof.lists
  have hb1 := alloc_below w (.cells #[.int .i64 n, .slice ao cs.length cap] 31)
  cases en with
  | sat S =>
    obtain ⟨e1, e2⟩ := endOk_model hg.vars hok
    simp only [ansOf] at *
    rw [e1] at hmi ⊢
    rw [modelOf_len]
    simp only [List.length_nil]
    have hb2 : Below w.heap.size w ((w.alloc (.cells #[.int .i64 n, .slice ao cs.length cap] 31)).alloc (.cells #[.bool true, .slice ma n mc, .slice pa 0 pc] 50)) := hb1.alloc (by simp) _
    have B1 := (blk_new w [.int .i64 n, .slice ao cs.length cap] 31).alloc (.cells #[.bool true, .slice ma n mc, .slice pa 0 pc] 50)
    have B2 := blk_new (w.alloc (.cells #[.int .i64 n, .slice ao cs.length cap] 31)) [.bool true, .slice ma n mc, .slice pa 0 pc] 50
    rw [World.size_alloc] at B2
    dsimp only [List.toArray] at B1 B2
    go_enter Tryd.func65, Tryd.ntmps65
    go_wp2_with fail
    generalize (w.alloc (.cells #[.int .i64 n, .slice ao cs.length cap] 31)).alloc (.cells #[.bool true, .slice ma n mc, .slice pa 0 pc] 50) = W at *
    refine (true_any n S hg.vars ao ma cap mc cs W ((hc.below hb2 (Nat.le_refl _)).mono hb2.size) ((hmi.below hb2 (Nat.le_refl _)).mono hb2.size) hg.many hg.long hlit e2).mono ?_
    rintro e w1 ⟨rfl, hbw⟩
    have q2 : w1.cell? ⟨w.heap.size + 1, 2, none⟩ = some (.slice pa 0 pc) := (B2.below' hbw).cell (i := 2) (by simp) undef
    have HB : Hid (Below w.heap.size w w1) := hb2.trans (hbw.mono hb2.size)
    clear hbw hb2 B1 B2
    go_wp2
    go_ret
    exact ⟨rfl, HB.out⟩
  | unsat F =>
    obtain ⟨e1, e2, e3, e4⟩ := endOk_check hg.vars hok
    simp only [ansOf] at *
    simp only [List.length_nil]
    rw [List.length_map] at *
    have hb2 : Below w.heap.size w ((w.alloc (.cells #[.int .i64 n, .slice ao cs.length cap] 31)).alloc (.cells #[.bool false, .slice ma 0 mc, .slice pa F.length pc] 50)) := hb1.alloc (by simp) _
    have B1 := (blk_new w [.int .i64 n, .slice ao cs.length cap] 31).alloc (.cells #[.bool false, .slice ma 0 mc, .slice pa F.length pc] 50)
    have B2 := blk_new (w.alloc (.cells #[.int .i64 n, .slice ao cs.length cap] 31)) [.bool false, .slice ma 0 mc, .slice pa F.length pc] 50
    rw [World.size_alloc] at B2
    dsimp only [List.toArray] at B1 B2
    go_enter Tryd.func65, Tryd.ntmps65
    go_wp2_with fail
    generalize (w.alloc (.cells #[.int .i64 n, .slice ao cs.length cap] 31)).alloc (.cells #[.bool false, .slice ma 0 mc, .slice pa F.length pc] 50) = W at *
    have cR := rcheck_any n hg.vars ao pa cap pc cs (F.map (litsOf 64)) W ((hc.below hb2 (Nat.le_refl _)).mono hb2.size) ((hpl.below hb2 (Nat.le_refl _)).mono hb2.size) hlit hg.many hg.long (by rw [List.length_map]; omega) (by rw [List.length_map]; exact hpc) (fun c hc l hl => by have := (e2 c hc).2 l hl; have h20 := hg.vars; unfold IsLit at this; omega) (fun c hc => by have := (e2 c hc).1; omega)
    rw [e1, List.length_map] at cR
    refine cR.mono ?_
    rintro e w1 ⟨rfl, hbw⟩
    have q1 : w1.cell? ⟨w.heap.size + 1, 1, none⟩ = some (.slice ma 0 mc) := (B2.below' hbw).cell (i := 1) (by simp) undef
    have q2 : w1.cell? ⟨w.heap.size + 1, 2, none⟩ = some (.slice pa F.length pc) := (B2.below' hbw).cell (i := 2) (by simp) undef
    have HB : Hid (Below w.heap.size w w1) := hb2.trans (hbw.mono hb2.size)
    have hee : ((F.length : Int) == (F.length : Int)) = true := by simp
    clear hbw hb2 B1 B2 cR
    go_wp2
    go_ret
    exact ⟨rfl, HB.out⟩

/-! The law's own looks. -/

theorem ints_drewN {w : World} {ao : Option Addr} {zs : List Int} (h : IntsAt w w.heap.size ao zs) (n : Nat) : IntsAt (w.drewN n) (w.drewN n).heap.size ao zs := h

set_option maxHeartbeats 1000000 in
theorem slists_any (a1 a2 : Option Addr) (c1 c2 : Nat) (cs : List (List Int)) (w : World) (h1 : ListsAt w w.heap.size a1 cs) (h2 : ListsAt w w.heap.size a2 cs) (hl : cs.length ≤ 4611686018427387904) (hc : ∀ c ∈ cs, c.length ≤ 1000) :
    Calls Tryd.prog 45 #[.slice a1 cs.length c1, .slice a2 cs.length c2] w fun e w' => e = .returned (.bool true) ∧ ∃ n, w' = w.drewN n := by
  have hne : ((cs.length : Int) != (cs.length : Int)) = false := by simp
  go_enter Tryd.func45, Tryd.ntmps45
  go_wp2
  go_loopw [5] (fun i wr => ∃ (k n : Nat), k ≤ cs.length ∧ i = .int .i64 k ∧ wr = w.drewN n) (fun i _ => cs.length - (intOf i).toNat)
  case atStart => exact ⟨0, 0, by omega, rfl, rfl⟩
  case round =>
    obtain ⟨k, n, hk, rfl, rfl⟩ := hrel
    by_cases hlt : k < cs.length
    · obtain ⟨g1, o1, rfl, hg1, hc1⟩ := h1 (by intro e; rw [e] at hlt; simp at hlt)
      obtain ⟨g2, o2, rfl, hg2, hc2⟩ := h2 (by intro e; rw [e] at hlt; simp at hlt)
      obtain ⟨A1, C1, f1, i1⟩ := hc1 k hlt
      obtain ⟨A2, C2, f2, i2⟩ := hc2 k hlt
      have k1 : (w.drewN n).cell? ⟨g1, o1 + k, none⟩ = _ := f1
      have k2 : (w.drewN n).cell? ⟨g2, o2 + k, none⟩ = _ := f2
      have hcl : (cs.getD k []).length ≤ 1000 := by
        rw [getD_lt _ _ _ hlt]; exact hc _ (List.getElem_mem hlt)
      generalize cs.getD k [] = zs at *
      have i1' : IntsAt (w.drewN n) (w.drewN n).heap.size A1 zs := i1
      have i2' : IntsAt (w.drewN n) (w.drewN n).heap.size A2 zs := i2
      clear hc1 hc2 f1 f2 i1 i2
      generalize hw3 : w.drewN n = w3 at *
      have HW : Hid (w.drewN n = w3) := hw3
      clear hw3
      go_wp2
      go_quiet ((go_at_call 26; exact Calls.quiet_of (same_any A1 A2 C1 C2 zs _ (ints_drewN i1' _) (ints_drewN i2' _) hcl)))
      go_wp2
      go_roundw
      case rel => exact ⟨k + 1, n + nq, by omega, by go_num, by rw [← HW.out, World.drewN_drewN]⟩
      case measure => simp [intOf]; omega
    · go_wp2
      go_ret
      exact ⟨rfl, n, rfl⟩

set_option maxHeartbeats 1000000 in
theorem alike_any (s : Bool) (zs : List Int) (ps : List (List Int)) (b b' : Nat) (vm vp vm' vp' : Value) (vs vs' : List Value) (w : World) (h : AnsAt w b zs ps vm vp vs) (h' : AnsAt w b' zs ps vm' vp' vs') (hz : zs.length ≤ 1000) (hp : ps.length ≤ 4611686018427387904) (hc : ∀ c ∈ ps, c.length ≤ 1000) :
    Calls Tryd.prog 32 #[.agg #[.bool s, vm, vp], .agg #[.bool s, vm', vp']] w fun e w' => e = .returned (.bool true) ∧ Below w.heap.size w w' := by
  obtain ⟨ma, mc, rfl, hm⟩ := own_intsAt h.model
  obtain ⟨pa, pc, rfl, hpl, -⟩ := h.proof.lists
  obtain ⟨ma', mc', rfl, hm'⟩ := own_intsAt h'.model
  obtain ⟨pa', pc', rfl, hpl', -⟩ := h'.proof.lists
  have hb1 := alloc_below w (.cells #[.bool s, .slice ma zs.length mc, .slice pa ps.length pc] 50)
  have hb2 : Below w.heap.size w ((w.alloc (.cells #[.bool s, .slice ma zs.length mc, .slice pa ps.length pc] 50)).alloc (.cells #[.bool s, .slice ma' zs.length mc', .slice pa' ps.length pc'] 50)) := hb1.alloc (by simp) _
  have B1 := (blk_new w [.bool s, .slice ma zs.length mc, .slice pa ps.length pc] 50).alloc (.cells #[.bool s, .slice ma' zs.length mc', .slice pa' ps.length pc'] 50)
  have B2 := blk_new (w.alloc (.cells #[.bool s, .slice ma zs.length mc, .slice pa ps.length pc] 50)) [.bool s, .slice ma' zs.length mc', .slice pa' ps.length pc'] 50
  rw [World.size_alloc] at B2
  dsimp only [List.toArray] at B1 B2
  go_enter Tryd.func32, Tryd.ntmps32
  go_wp2_with fail
  generalize (w.alloc (.cells #[.bool s, .slice ma zs.length mc, .slice pa ps.length pc] 50)).alloc (.cells #[.bool s, .slice ma' zs.length mc', .slice pa' ps.length pc'] 50) = W at *
  refine (same_any ma ma' mc mc' zs W ((hm.below hb2 (Nat.le_refl _)).mono hb2.size) ((hm'.below hb2 (Nat.le_refl _)).mono hb2.size) hz).mono ?_
  rintro e w1 ⟨rfl, k1, hw1⟩
  have hb3 : Below W.heap.size W w1 := by rw [hw1]; exact ⟨rfl, rfl, rfl, Nat.le_refl _, fun _ _ => rfl⟩
  have B13 := B1.below' hb3
  have B23 := B2.below' hb3
  have q0 : w1.cell? ⟨w.heap.size, 0, none⟩ = some (.bool s) := B13.cell (i := 0) (by simp) undef
  have q2 : w1.cell? ⟨w.heap.size, 2, none⟩ = some (.slice pa ps.length pc) := B13.cell (i := 2) (by simp) undef
  have r2 : w1.cell? ⟨w.heap.size + 1, 2, none⟩ = some (.slice pa' ps.length pc') := B23.cell (i := 2) (by simp) undef
  have hbw1 : Below w.heap.size w w1 := hb2.trans (hb3.mono hb2.size)
  clear hw1
  go_wp2_with fail
  refine (slists_any pa pa' pc pc' ps w1 ((hpl.below hbw1 (Nat.le_refl _)).mono hbw1.size) ((hpl'.below hbw1 (Nat.le_refl _)).mono hbw1.size) hp hc).mono ?_
  rintro e w2 ⟨rfl, k2, hw2⟩
  have hb4 : Below w1.heap.size w1 w2 := by rw [hw2]; exact ⟨rfl, rfl, rfl, Nat.le_refl _, fun _ _ => rfl⟩
  have u0 : w2.cell? ⟨w.heap.size, 0, none⟩ = some (.bool s) := (B13.below' hb4).cell (i := 0) (by simp) undef
  have v0 : w2.cell? ⟨w.heap.size + 1, 0, none⟩ = some (.bool s) := (B23.below' hb4).cell (i := 0) (by simp) undef
  have HB : Hid (Below w.heap.size w w2) := hbw1.trans (hb4.mono hbw1.size)
  have hse : (s == s) = true := by simp
  clear hw2 B13 B23 B1 B2 q0 q2 r2
  go_wp2
  go_ret
  refine ⟨?_, HB.out⟩
  simp
end Go.Proofs.YtomebpjjeldhdaaDoor
