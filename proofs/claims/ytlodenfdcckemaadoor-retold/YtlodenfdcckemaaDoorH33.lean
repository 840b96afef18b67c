/-
  The walk of Retold.
-/
import Derived.Test.YtlodenfdcckemaaDoorH28
import Derived.Test.YtlodenfdcckemaaDoorH32
namespace Go.Proofs.YtlodenfdcckemaaDoor
open Go.RowKit

theorem cf_zero (vars : Int) : ∀ (cs : List (List Int)) (i : Nat), (clausesFault vars i cs).1 = 0 → (clausesFault vars i cs).2 = 0
  | [], _, _ => rfl
  | c :: cs, i, h => by
    unfold clausesFault at h ⊢
    split at h
    · rename_i hc
      rw [if_pos hc]
      exact cf_zero vars cs (i + 1) h
    · rename_i hc
      exact absurd h hc

theorem fault_zero {V : Nat} {cs : List (List Int)} (h : Good V cs) : fault V cs = (0, 0) := by
  have h1 := fault_good h
  have hv := h.vars
  have e : fault V cs = clausesFault V 0 cs := fault_rest (by omega) (by omega) (by have := h.many; omega)
  rw [e] at h1 ⊢
  exact Prod.ext h1 (cf_zero V cs 0 h1)

theorem rawC_few (V : Int) (raw : List (List Int)) : (rawC V raw).length ≤ 60 := by unfold rawC; simp; omega
theorem rawC_four (V : Int) (raw : List (List Int)) : ∀ c ∈ rawC V raw, c.length ≤ 4 := by
  intro c hc
  unfold rawC at hc
  obtain ⟨r, -, rfl⟩ := List.mem_map.1 hc
  simp
  omega

set_option maxRecDepth 100000 in
set_option maxHeartbeats 8000000 in
theorem retold_any (vars : Int) (ao : Option Addr) (cap : Nat) (raw : List (List Int)) (ap : Option Addr) (acap : Nat) (zs : List Int) (m : Int) (w : World) (hc : ListsAt w w.heap.size ao raw) (hF : Fits raw) (hv0 : -9223372036854775808 ≤ vars) (hv1 : vars ≤ 9223372036854775807) (hz : IntsAt w w.heap.size ap zs) (hzb : ∀ z ∈ zs, -9223372036854775808 ≤ z ∧ z ≤ 9223372036854775807) (hzl : zs.length ≤ 4611686018427387904)
    (hT : Tab w) (hw0 : 0 < w.heap.size) (hU : Lib.Utf8Tabs 2 3 w) (hm : w.cell? ⟨1, 0, none⟩ = some (.int .i64 m)) :
    Calls Tryd.prog 6 #[.int .i64 vars, .slice ao raw.length cap, .slice ap zs.length acap] w fun e w' => e = .returned (.bool true) ∧ Below w.heap.size w w' := by
  have hr := pickOf_range vars (show (0 : Int) < ((20 : Nat) : Int) by omega)
  obtain ⟨V, hV⟩ : ∃ V : Nat, rawV vars ((20 : Nat) : Int) = V := ⟨(rawV vars ((20 : Nat) : Int)).toNat, by unfold rawV; omega⟩
  have hV1 : 1 ≤ V := by unfold rawV at hV; omega
  have hV2 : V ≤ 20 := by unfold rawV at hV; omega
  clear hr
  have HGood : Hid (Good V (rawC V raw)) := rawC_good hV1 hV2 raw
  have H60 := rawC_few V raw
  have H4 := rawC_four V raw
  have hpU : ∀ W, Below w.heap.size w W → Lib.Utf8Tabs 2 3 W ∧ W.cell? ⟨1, 0, none⟩ = some (.int .i64 m) := by
    intro W hb
    have h2 := size2 hU
    exact ⟨tabs_of hU (hb.block 2 (by omega)) (hb.block 3 (by omega)), (hb.cell (p := ⟨1, 0, none⟩) (show 1 < w.heap.size by omega)).trans hm⟩
  have HU : Hid _ := hpU
  clear hpU hU hm
  go_enter Tryd.func6, Tryd.ntmps6
  go_wp2_with fail
  refine (known_any w hT hw0).mono ?_
  rintro e w1 ⟨rfl, hb1⟩
  have hs1 := hb1.size
  have cf := kformula_any vars 20 ao cap raw w1 ((hc.below hb1 (Nat.le_refl _)).mono hs1) hF hv0 hv1 (by omega) (by omega)
  rw [hV] at cf
  clear hV
  go_wp2_with fail
  refine cf.mono ?_
  rintro e w2 ⟨v, fvs, rfl, hM, hb2⟩
  obtain ⟨ve, vcap, rfl, hL2⟩ := hM.lists
  clear cf
  generalize rawC V raw = cs at *
  have hs2 := hb2.size
  have b3 := alloc_below w2 (.cells #[.int .i64 V, .slice ve cs.length vcap] 31)
  have B3 : Blk (w2.alloc (.cells #[.int .i64 V, .slice ve cs.length vcap] 31)) w2.heap.size 31 [.int .i64 V, .slice ve cs.length vcap] := blk_new w2 [.int .i64 V, .slice ve cs.length vcap] 31
  have s3 := alloc_size w2 (.cells #[.int .i64 V, .slice ve cs.length vcap] 31)
  go_wp2_with fail
  generalize w2.alloc (.cells #[.int .i64 V, .slice ve cs.length vcap] 31) = w3 at *
  have k3 : Below w.heap.size w w3 := hb1.trans ((hb2.mono hs1).trans (b3.mono (by omega)))
  have hs3 := k3.size
  refine (text_any V _ fvs cs w1.heap.size ap acap zs w3 (hM.below' b3) HGood.out H60 H4 ((hz.below k3 (Nat.le_refl _)).mono hs3) hzb hzl).mono ?_
  rintro e w4 ⟨s, ws, rfl, hTx, hsz, hb4⟩
  have k4 : Below w.heap.size w w4 := k3.trans (hb4.mono hs3)
  have hp := parse_text V hV2 cs (by omega) (fun c hc l hl => HGood.out.lits c hc l hl) (fun c hc => by have := H4 c hc; omega) ws hTx.words hTx.gaps
  rw [← hTx.text] at hp
  obtain ⟨hU4, hm4⟩ := HU.out w4 k4
  have cP := parse_any s m w4 (by omega) hU4 hm4
  unfold Read at cP
  rw [hp] at cP
  have s4 := hb4.size
  have B4 := B3.below' hb4
  clear hp hTx hsz hU4 hm4
  go_wp2_with fail
  refine cP.mono ?_
  clear cP
  rintro e w5 ⟨vC, us, rfl, hLs, hb5⟩
  have hMg : MadeL w5 w4.heap.size vC us cs := ⟨hLs.oe, hLs.len, hLs.ls⟩
  obtain ⟨ga, gcap, hgv, hLg⟩ := hMg.lists
  subst hgv
  have s5 := hb5.size
  have B5 := B4.below' hb5
  have k5 : Below w.heap.size w w5 := k4.trans (hb5.mono k4.size)
  have b6 := alloc_below w5 (.cells #[.int .i64 V, .slice ga cs.length gcap] 31)
  have BG : Blk (w5.alloc (.cells #[.int .i64 V, .slice ga cs.length gcap] 31)) w5.heap.size 31 [.int .i64 V, .slice ga cs.length gcap] := blk_new w5 [.int .i64 V, .slice ga cs.length gcap] 31
  have B6 := B5.below' b6
  have n0 := B6.cell (i := 0) (by simp) undef
  have n1 := B6.cell (i := 1) (by simp) undef
  simp only [List.getD_cons_zero, List.getD_cons_succ] at n0 n1
  have hFz := fault_zero HGood.out
  go_wp2_with fail
  generalize w5.alloc (.cells #[.int .i64 V, .slice ga cs.length gcap] 31) = w6 at *
  have s6 := b6.size
  have k26 : Below w2.heap.size w2 w6 := ((b3.trans (hb4.mono b3.size)).trans (hb5.mono (by omega))).trans (b6.mono (by omega))
  have hL6 : ListsAt w6 w6.heap.size ve cs := (hL2.below k26 (Nat.le_refl _)).mono k26.size
  have cF := fault_entry V ve vcap cs w6 hL6
  rw [hFz] at cF
  refine cF.mono ?_
  rintro e w7 ⟨rfl, hb7⟩
  have s7 := hb7.size
  have B7 := B6.below' hb7
  have G7 := BG.below' hb7
  have hL7 : ListsAt w7 w7.heap.size ve cs := (hL6.below hb7 (Nat.le_refl _)).mono s7
  have hG7 : ListsAt w7 w7.heap.size ga cs := (hLg.below (b6.trans (hb7.mono s6)) (Nat.le_refl _)).mono (by omega)
  clear n0 n1 cF hFz
  have n0 := B7.cell (i := 0) (by simp) undef
  have n1 := B7.cell (i := 1) (by simp) undef
  have g0 := G7.cell (i := 0) (by simp) undef
  have g1 := G7.cell (i := 1) (by simp) undef
  simp only [List.getD_cons_zero, List.getD_cons_succ] at n0 n1 g0 g1
  have HB7 : Hid (Below w.heap.size w w7) := (k5.trans (b6.mono k5.size)).trans (hb7.mono (by have := k5.size; omega))
  go_wp2_with fail
  refine (ksame_any ve ga vcap gcap cs w7 hL7 hG7 (by omega) (fun c hc => by have := H4 c hc; omega)).mono ?_
  rintro e w8 ⟨rfl, nd, rfl⟩
  have HB8 : Hid (Below w.heap.size w (w7.drewN nd)) := below_drewN HB7.out nd
  have n0' : (w7.drewN nd).cell? ⟨w2.heap.size, 0, none⟩ = some (.int .i64 V) := n0
  have g0' : (w7.drewN nd).cell? ⟨w5.heap.size, 0, none⟩ = some (.int .i64 V) := g0
  have hvv : ((V : Int) == (V : Int)) = true := by simp
  generalize w7.drewN nd = w8 at *
  clear n0 n1 g0 g1
  go_wp2
  go_ret
  exact ⟨rfl, HB8.out⟩
end Go.Proofs.YtlodenfdcckemaaDoor
