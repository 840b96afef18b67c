/-
  The walks of told, answered and count.
-/
import Derived.Test.YtomebpjjeldhdaaDoorPrvP
import Derived.Test.YtomebpjjeldhdaaDoorSolT
namespace Go.Proofs.YtomebpjjeldhdaaDoor
open Go.RowKit

theorem shl_wide {j : Nat} (h : j ≤ 20) : wrap64 ((2 : Int) ^ j) = ((2 ^ j : Nat) : Int) := by
  have hp : (2 : Nat) ^ j ≤ 2 ^ 20 := Nat.pow_le_pow_right (by decide) h
  have e20 : (2 : Nat) ^ 20 = 1048576 := by decide
  have e : ((2 : Int) ^ j) = ((2 ^ j : Nat) : Int) := by simp
  rw [e]
  generalize (2 : Nat) ^ j = q at *
  unfold wrap64
  first | omega | (rw [Int.emod_eq_of_lt] <;> omega) | simp <;> omega

set_option maxHeartbeats 1000000 in
theorem told_any (V S : Nat) (hV : V ≤ 20) (ao : Option Addr) (cap : Nat) (w : World) (hc : IntsAt w w.heap.size ao (modelOf V S)) :
    Calls Tryd.prog 69 #[.slice ao V cap, .int .i64 V] w fun e w' => e = .returned (.tuple #[.int .i64 (toldOf S V), .bool true]) ∧ w' = w := by
  have hne : ((V : Int) == (V : Int)) = true := by simp
  have hml := modelOf_len V S
  have HAt : Hid (∀ v, v < V → (modelOf V S).getD v 0 = if S.testBit (2 * v) then ((v + 1 : Nat) : Int) else -((v + 1 : Nat) : Int)) := fun v hv => by
    unfold modelOf
    rw [List.getD_eq_getElem?_getD, List.getElem?_map, List.getElem?_range hv]
    rfl
  generalize modelOf V S = zs at *
  go_enter Tryd.func69, Tryd.ntmps69
  go_wp2
  go_loop [6, 7] (fun b x => ∃ j : Nat, j ≤ V ∧ x = .int .i64 j ∧ b = .int .i64 (toldOf S j)) (fun _ x => V - (intOf x).toNat)
  case atStart => exact ⟨0, Nat.zero_le _, rfl, rfl⟩
  case round =>
    obtain ⟨j, hj, rfl, rfl⟩ := hrel
    by_cases hlt : j < V
    · obtain ⟨b0, o0, rfl, hb0, hcell⟩ := hc (by intro h; rw [h] at hml; simp at hml; omega)
      have hcx := hcell j (by omega)
      rw [HAt.out j hlt] at hcx
      have HO : Hid _ := i64_or (toldOf S j) j (toldOf_lt S j) (by omega)
      have HS : Hid _ := shl_wide (j := j) (by omega)
      have i0 : (0 : Int) ≤ (j : Int) := by omega
      have i1 : (j : Int) < (V : Int) := by omega
      have HN : Hid (toldOf S (j + 1) = if S.testBit (2 * j) then toldOf S j + 2 ^ j else toldOf S j) := rfl
      clear hcell
      cases hbit : S.testBit (2 * j) with
      | true =>
        rw [hbit] at hcx
        simp only [if_true] at hcx
        have HN' : Hid (toldOf S (j + 1) = toldOf S j + 2 ^ j) := by have := HN.out; rw [hbit] at this; exact this
        clear hbit HN
        have hq : (((j + 1 : Nat) : Int) == (j : Int) + 1) = true := by simp
        go_wp2
        go_round
        case rel =>
          refine ⟨j + 1, by omega, by go_num, ?_⟩
          rw [HN'.out, ← HO.out, ← HS.out]
        case measure => simp [intOf]; omega
      | false =>
        rw [hbit] at hcx
        simp only [Bool.false_eq_true, if_false] at hcx
        have HN' : Hid (toldOf S (j + 1) = toldOf S j) := by have := HN.out; rw [hbit] at this; exact this
        clear hbit HN
        go_wp2
        go_round
        case rel => exact ⟨j + 1, by omega, by go_num, by rw [HN'.out]⟩
        case measure => simp [intOf]; omega
    · obtain rfl : j = V := by omega
      go_wp2
      go_ret2
      exact ⟨rfl, rfl⟩

set_option maxRecDepth 100000 in
set_option maxHeartbeats 1000000 in
theorem answered_any (n : Nat) (ao : Option Addr) (cap : Nat) (cs : List (List Int)) (en : End) (vm vp : Value) (vs : List Value) (b : Nat) (w : World) (hc : ListsAt w w.heap.size ao cs) (hg : Good n cs) (hok : EndOk n cs en) (ha : AnsAt w b (ansOf en).2.1 (ansOf en).2.2 vm vp vs) :
    Calls Tryd.prog 42 #[.agg #[.int .i64 n, .slice ao cs.length cap], .agg #[.bool (ansOf en).1, vm, vp]] w fun e w' => e = .returned (.bool true) ∧ Below w.heap.size w w' := by
  have hlit : ∀ c ∈ cs, ∀ l ∈ c, IsLit n l := fun c hc l hl => hg.lits c hc l hl
  obtain ⟨ma, mc, rfl, hmi⟩ := own_intsAt ha.model
  obtain ⟨pa, pc, rfl, hpl, hpc⟩ := ha.proof.lists
  have hb1 := alloc_below w (.cells #[.int .i64 n, .slice ao cs.length cap] 31)
  cases en with
  | sat S =>
    obtain ⟨e1, e2⟩ := endOk_model hg.vars hok
    have hmk : makesB (toldOf S n) cs = true := told_makes hok.2.1 hok.2.2
    have hsm : toldOf S n < 9223372036854775808 := Nat.lt_of_lt_of_le (toldOf_lt S n) (Nat.le_trans (Nat.pow_le_pow_right (by decide) hg.vars) (by decide))
    simp only [ansOf] at *
    rw [e1] at hmi ⊢
    rw [modelOf_len]
    simp only [List.length_nil]
    have hb2 : Below w.heap.size w ((w.alloc (.cells #[.int .i64 n, .slice ao cs.length cap] 31)).alloc (.cells #[.bool true, .slice ma n mc, .slice pa 0 pc] 50)) := hb1.alloc (by simp) _
    have B1 := (blk_new w [.int .i64 n, .slice ao cs.length cap] 31).alloc (.cells #[.bool true, .slice ma n mc, .slice pa 0 pc] 50)
    have B2 := blk_new (w.alloc (.cells #[.int .i64 n, .slice ao cs.length cap] 31)) [.bool true, .slice ma n mc, .slice pa 0 pc] 50
    rw [World.size_alloc] at B2
    dsimp only [List.toArray] at B1 B2
    go_enter Tryd.func42, Tryd.ntmps42
    go_wp2_with fail
    generalize (w.alloc (.cells #[.int .i64 n, .slice ao cs.length cap] 31)).alloc (.cells #[.bool true, .slice ma n mc, .slice pa 0 pc] 50) = W at *
    refine (told_any n S hg.vars ma mc W ((hmi.below hb2 (Nat.le_refl _)).mono hb2.size)).mono ?_
    rintro e w' ⟨rfl, hw'⟩
    obtain rfl := hw'.symm
    have p1 : W.cell? ⟨w.heap.size, 1, none⟩ = some (.slice ao cs.length cap) := B1.cell (i := 1) (by simp) undef
    have cm := makes_any n hg.vars (toldOf S n) hsm ao cap cs W ((hc.below hb2 (Nat.le_refl _)).mono hb2.size) hlit (by have := hg.many; omega) (fun c hc => by have := hg.long c hc; omega)
    rw [hmk] at cm
    clear hsm hmk
    generalize toldOf S n = bb at *
    go_wp2_with fail
    refine cm.mono ?_
    rintro e w' ⟨rfl, hw'⟩
    obtain rfl := hw'.symm
    have q2 : W.cell? ⟨w.heap.size + 1, 2, none⟩ = some (.slice pa 0 pc) := B2.cell (i := 2) (by simp) undef
    have HB : Hid (Below w.heap.size w W) := hb2
    clear hb2 B1 B2 p1
    go_wp2
    go_ret
    exact ⟨rfl, HB.out⟩
  | unsat F =>
    obtain ⟨e1, e2, e3, e4⟩ := endOk_check hg.vars hok
    simp only [ansOf] at *
    simp only [List.length_nil]
    rw [List.length_map] at *
    have hb2 : Below w.heap.size w ((w.alloc (.cells #[.int .i64 n, .slice ao cs.length cap] 31)).alloc (.cells #[.bool false, .slice ma 0 mc, .slice pa F.length pc] 50)) := hb1.alloc (by simp) _
    have B1 := (blk_new w [.int .i64 n, .slice ao cs.length cap] 31).alloc (.cells #[.bool false, .slice ma 0 mc, .slice pa F.length pc] 50)
    have B2 := blk_new (w.alloc (.cells #[.int .i64 n, .slice ao cs.length cap] 31)) [.bool false, .slice ma 0 mc, .slice pa F.length pc] 50
    rw [World.size_alloc] at B2
    dsimp only [List.toArray] at B1 B2
    go_enter Tryd.func42, Tryd.ntmps42
    go_wp2_with fail
    generalize (w.alloc (.cells #[.int .i64 n, .slice ao cs.length cap] 31)).alloc (.cells #[.bool false, .slice ma 0 mc, .slice pa F.length pc] 50) = W at *
    have cR := check_good n ao pa cap pc cs (F.map (litsOf 64)) W ((hc.below hb2 (Nat.le_refl _)).mono hb2.size) ((hpl.below hb2 (Nat.le_refl _)).mono hb2.size) hg (fault_good hg) (by rw [List.length_map]; omega)
    rw [e1, List.length_map] at cR
    refine cR.mono ?_
    rintro e w1 ⟨rfl, hbw⟩
    have q1 : w1.cell? ⟨w.heap.size + 1, 1, none⟩ = some (.slice ma 0 mc) := (B2.below' hbw).cell (i := 1) (by simp) undef
    have q2 : w1.cell? ⟨w.heap.size + 1, 2, none⟩ = some (.slice pa F.length pc) := (B2.below' hbw).cell (i := 2) (by simp) undef
    have HB : Hid (Below w.heap.size w w1) := hb2.trans (hbw.mono hb2.size)
    have hee : ((F.length : Int) == (F.length : Int)) = true := by simp
    clear hbw hb2 B1 B2 cR
    go_wp2
    go_ret
    exact ⟨rfl, HB.out⟩
end Go.Proofs.YtomebpjjeldhdaaDoor
