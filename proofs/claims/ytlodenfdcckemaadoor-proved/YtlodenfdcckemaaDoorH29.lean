/-
  Several texts, one behind the other.
-/
import Derived.Test.YtlodenfdcckemaaDoorH28
import Derived.Test.YtlodenfdcckemaaDoorH15
import Derived.Test.YtlodenfdcckemaaDoorH22
import Derived.Test.YtlodenfdcckemaaDoorH20
import Derived.Test.YtlodenfdcckemaaDoorH12
import Derived.Test.YtlodenfdcckemaaDoorH9
import Derived.Deep.QuietTactic
import Derived.BigQuiet
/-
  The walk of start: what is given is put ahead of all choices.
-/

namespace Go.Proofs.YtlodenfdcckemaaDoor
open Go.RowKit Go.Shelf

set_option maxRecDepth 100000 in
set_option maxHeartbeats 4000000 in
theorem folOf_more (V : Nat) (hV : V ≤ 20) (ao : Option Addr) (cap : Nat) (cs : List (List Int)) (w : World) (hc : ListsAt w w.heap.size ao cs) (hlit : ∀ c ∈ cs, ∀ l ∈ c, IsLit V l) (hlen : cs.length ≤ 200) (heach : ∀ c ∈ cs, c.length ≤ 20) :
    Calls Tryd.prog 47 #[.agg #[.int .i64 V, .slice ao cs.length cap]] w fun e w' => ∃ H v, e = .returned (.pointer (some ⟨H, 0, none⟩)) ∧ Cls w' H v (keptOf cs) ∧ Cover V (keptOf cs) cs ∧ (keptOf cs).length ≤ cs.length ∧ w.heap.size ≤ H ∧ (∀ k, v.ownBlock = some k → w.heap.size ≤ k) ∧ Below w.heap.size w w' := by
  go_enter Tryd.func47, Tryd.ntmps47
  go_wp2
  have b1 := alloc_below w (.cells #[.int .i64 V, .slice ao cs.length cap] 31)
  have s1 := alloc_size w (.cells #[.int .i64 V, .slice ao cs.length cap] 31)
  generalize w.alloc (.cells #[.int .i64 V, .slice ao cs.length cap] 31) = w1 at *
  have b2 := alloc_below w1 (.cells #[.slice none 0 0] 102)
  have s2 := alloc_size w1 (.cells #[.slice none 0 0] 102)
  have B2 : Blk (w1.alloc (.cells #[.slice none 0 0] 102)) w1.heap.size 102 [.slice none 0 0] := blk_new w1 [.slice none 0 0] 102
  have HW2 : Hid (Cls (w1.alloc (.cells #[.slice none 0 0] 102)) w1.heap.size (.slice none 0 0) [] ∧ Below w.heap.size w (w1.alloc (.cells #[.slice none 0 0] 102))) := ⟨⟨B2, Own.nil _ _ _⟩, b1.trans (b2.mono b1.size)⟩
  generalize w1.alloc (.cells #[.slice none 0 0] 102) = w2 at *
  have hH : w1.heap.size = w.heap.size + 1 := s1
  rw [hH] at HW2
  clear B2 b2 s2 hH b1 s1
  go_loopw [11] (fun x wr => ∃ (i : Nat) (v : Value), i ≤ cs.length ∧ x = .int .i64 i ∧ Hid (Cls wr (w.heap.size + 1) v (keptOf (cs.take i))) ∧ Hid (Cover V (keptOf (cs.take i)) (cs.take i)) ∧ Hid ((keptOf (cs.take i)).length ≤ i) ∧ Hid (∀ k, v.ownBlock = some k → w.heap.size ≤ k) ∧ Hid (Below w.heap.size w wr)) (fun x _ => cs.length - (intOf x).toNat)
  case atStart => exact ⟨0, .slice none 0 0, Nat.zero_le _, rfl, HW2.out.1, Cover.none V, Nat.zero_le _, fun k e => by simp [Value.ownBlock] at e, HW2.out.2⟩
  case round =>
    obtain ⟨i, v, hi, rfl, HCl, HCo, HLe, HOw, HBe⟩ := hrel
    obtain ⟨K, HKe⟩ : ∃ K, Hid (K = keptOf (cs.take i)) := ⟨_, rfl⟩
    rw [← HKe.out] at HCl HCo HLe
    by_cases hlt : i < cs.length
    · have hcr := (hc.below HBe.out (Nat.le_refl _))
      obtain ⟨b, o, rfl, hb, hcell⟩ := hcr (by intro h; rw [h] at hlt; simp at hlt)
      obtain ⟨A, Cc, hck, hin⟩ := hcell i hlt
      have hmem := mem_lists hlt
      have hl := hlit _ hmem
      have he := heach _ hmem
      have HT : Hid (cs.take (i + 1) = cs.take i ++ [cs.getD i []]) := take_succ_lists cs i hlt
      have HKn : Hid (keptOf (cs.take (i + 1)) = addTo K (maskOf (cs.getD i []))) := by unfold Hid; rw [HT.out, keptOf, List.foldl_append, HKe.out]; rfl
      generalize cs.getD i [] = c at hck hin hl he HT HKn
      have HK64 : Hid (∀ k ∈ K, k < 18446744073709551616) := fun k hk => lt64 hV (HCo.out.small hk)
      have hm64 := lt64 hV (maskOf_lt hl)
      have c1 := litsOf_any V hV A Cc c wr w.heap.size hin hl (by omega)
      have c2 := add_any (w.heap.size + 1) v K (maskOf c) wr HCl.out HK64.out hm64 (by have := HLe.out; omega)
      have HL : Hid (∀ l ∈ c, IsLit V l) := hl
      generalize hmk : maskOf c = mk at *
      have HM : Hid (maskOf c = mk) := hmk
      clear hcell hin hmem hl hcr hmk
      go_wp2_with (first | (go_at_call 44; refine c1.mono ?_; rintro e w' ⟨rfl, hw'⟩; obtain rfl := hw'.symm) | (go_at_call 68; refine c2.mono ?_; rintro e w3 ⟨rfl, v3, hC3, hO3, hChg⟩))
      go_roundw
      case rel =>
        refine ⟨i + 1, v3, by omega, by go_num, by rw [HKn.out]; exact hC3, ?_, ?_, ?_, ?_⟩
        · rw [HKn.out, HT.out, ← HM.out]
          exact HCo.out.add hV HL.out
        · rw [HKn.out]
          have := addTo_len K mk
          have := HLe.out
          exact Nat.le_trans (addTo_len K mk) (by omega)
        · intro k e
          rcases hO3 k e with h | h
          · exact HOw.out k h
          · exact Nat.le_trans HBe.out.size h
        · refine HBe.out.trans (hChg.below HBe.out.size ?_)
          rintro k (h | h)
          · omega
          · exact HOw.out k h
      case measure => simp [intOf]; omega
    · obtain rfl : i = cs.length := by omega
      go_wp2
      go_ret
      have h := HCo.out
      have hk := HKe.out
      rw [List.take_length] at h hk
      subst hk
      exact ⟨_, v, rfl, HCl.out, h, HLe.out, by omega, HOw.out, HBe.out⟩



theorem lits_places (G : Nat) : litsOf 64 G = (placesOf G).map atp := rfl

theorem places_take (G i : Nat) (hi : i < (placesOf G).length) : (placesOf G).take (i + 1) = (placesOf G).take i ++ [(placesOf G).getD i 0] := by
  rw [List.take_succ_eq_append_getElem hi, getD_lt _ _ _ hi]

set_option maxRecDepth 100000 in
set_option maxHeartbeats 4000000 in
theorem start_any (n : Nat) (ao : Option Addr) (cap : Nat) (cs : List (List Int)) (G : Nat) (w : World) (hc : ListsAt w w.heap.size ao cs) (hg : Good n cs) (hGs : G < 2 ^ (2 * n)) (hTb : Tab w) (hw0 : 0 < w.heap.size) :
    Calls Tryd.prog 80 #[.agg #[.int .i64 n, .slice ao cs.length cap], sv G] w fun e w' => ∃ X H v vK a1, e = .returned (.pointer (some ⟨X, 0, none⟩)) ∧ SeaAt w' X (.pointer (some ⟨H, 0, none⟩)) a1 v (truthOf (givP (placesOf G))) 0 (givP (placesOf G)) ∧ Cls w' H vK (keptOf cs) ∧ Own w' w.heap.size 71 a1 (svs (chOf n cs)) ∧
      (∀ b, vK.ownBlock = some b → w.heap.size ≤ b ∧ a1.ownBlock ≠ some b) ∧ w.heap.size ≤ H ∧ w.heap.size ≤ X ∧ (∀ b, v.ownBlock = some b → w.heap.size ≤ b) ∧ Cover n (keptOf cs) cs ∧ (keptOf cs).length ≤ cs.length ∧ Below w.heap.size w w' := by
  have hn := hg.vars
  have hlit : ∀ c ∈ cs, ∀ l ∈ c, IsLit n l := fun c hc l hl => hg.lits c hc l hl
  have hG64 := lt64 hn hGs
  have hw1 : Below w.heap.size w (w.alloc (.cells #[.int .i64 n, .slice ao cs.length cap] 31)) := (Below.refl _ _).alloc (Nat.le_refl _) _
  have Bf := blk_new w [.int .i64 n, .slice ao cs.length cap] 31
  dsimp only [List.toArray] at Bf
  go_enter Tryd.func80, Tryd.ntmps80
  go_wp2
  generalize w.alloc (.cells #[.int .i64 n, .slice ao cs.length cap] 31) = W0 at *
  have m0 : W0.cell? ⟨w.heap.size, 0, none⟩ = some (.int .i64 n) := Bf.cell (i := 0) (by simp) undef
  have m1 : W0.cell? ⟨w.heap.size, 1, none⟩ = some (.slice ao cs.length cap) := Bf.cell (i := 1) (by simp) undef
  have hc0 := (hc.below hw1 (Nat.le_refl _)).mono hw1.size
  have hc0d : ListsAt W0.drew W0.drew.heap.size ao cs := hc0.below (B' := W0.heap.size) ((Below.refl _ _).drew) (Nat.le_refl _)
  have cO := folOf_more n hn ao cap cs W0.drew hc0d hlit hg.many hg.long
  refine wp_cut (fun a W => (∃ H X vK a1, Cls W H vK (keptOf cs) ∧ Own W w.heap.size 71 a1 (svs (chOf n cs)) ∧ (∀ b, vK.ownBlock = some b → w.heap.size ≤ b ∧ a1.ownBlock ≠ some b) ∧ w.heap.size ≤ H ∧ w.heap.size ≤ X ∧ Blk W X 115 [.pointer (some ⟨H, 0, none⟩), a1, .slice none 0 0, .int .u64 0, .int .i64 0] ∧ Cover n (keptOf cs) cs ∧ (keptOf cs).length ≤ cs.length ∧ Below w.heap.size w W ∧
      ∃ (u8 u9 u10 u11 u12 u13 : Value), a = { tmps := #[.agg #[.int .i64 n, .slice ao cs.length cap], sv G, .pointer (some ⟨w.heap.size, 0, none⟩), undef, .pointer none, .pointer (some ⟨X, 0, none⟩), undef, undef, u8, u9, u10, u11, u12, u13, undef, undef, undef, undef, undef, undef, undef, undef, undef, undef, undef, undef, undef, undef], defers := [] })) ?_ ?_
  · go_region_law (first
      | (go_simp; go_at_call 47; refine cO.mono ?_; rintro e w1 ⟨H, vK, rfl, hCl, hCo, hLe, hH, hOw, hb1⟩; have Bf1 := Blk.below' (w := W0.drew) Bf hb1; have m01 : w1.cell? ⟨w.heap.size, 0, none⟩ = some (.int .i64 n) := Bf1.cell (i := 0) (by simp) undef; have m11 : w1.cell? ⟨w.heap.size, 1, none⟩ = some (.slice ao cs.length cap) := Bf1.cell (i := 1) (by simp) undef; have hc1 := (hc0d.below hb1 (Nat.le_refl _)).mono hb1.size; have cC := choices_any n ao cap cs w1 hc1 hg; dsimp only)
      | (go_simp; go_at_call 95; refine cC.mono ?_; rintro e w2 ⟨a1, rfl, hO2, hb2⟩; obtain ⟨ca, cc, hsh⟩ := hO2.shape; dsimp only))
    all_goals
      have hsh' : a1 = .slice ca (chOf n cs).length cc := by rw [hsh, List.length_map]
      rw [hsh'] at hO2
      have hs1 := hb1.size
      have hs0 := hw1.size
      have hs0' : W0.drew.heap.size = W0.heap.size := rfl
      have hbw1 : Below w.heap.size w w1 := hw1.trans ((Below.refl _ W0).drew.trans (hb1.mono (by rw [hs0']; exact hs0)))
      have hbw2 : Below w.heap.size w w2 := hbw1.trans (hb2.mono (by omega))
      refine ⟨H, w2.heap.size, vK, .slice ca (chOf n cs).length cc, ⟨(hCl.head.below' hb2).alloc _, (hCl.own.below' hb2).alloc _⟩, (hO2.lower (by omega)).alloc _, fun b e => ⟨by have := hOw b e; omega, fun e' => ?_⟩, by omega, hbw2.size, blk_new w2 [.pointer (some ⟨H, 0, none⟩), .slice ca (chOf n cs).length cc, .slice none 0 0, .int .u64 0, .int .i64 0] 115, hCo, hLe, hbw2.alloc hbw2.size _, _, _, _, _, _, _, rfl⟩
      have h1 := (hCl.own.lt e).2
      have h2 := (hO2.lt e').1
      omega
  · rintro _ W ⟨H, X, vK, a1, hCl, hO, hdis, hH, hX, hBX, hCo, hLe, hbW, u8, u9, u10, u11, u12, u13, rfl⟩
    have hWs := hbW.size
    have cL := list_any G hG64 W (hTb.below hbW hw0) (by omega)
    have HS0 : Hid (SeaAt W X (.pointer (some ⟨H, 0, none⟩)) a1 (.slice none 0 0) (truthOf (givP [])) 0 (givP [])) := ⟨hBX, Or.inl ⟨rfl, rfl⟩⟩
    have HCl : Hid (Cls W H vK (keptOf cs)) := hCl
    have HO : Hid (Own W w.heap.size 71 a1 (svs (chOf n cs))) := hO
    have HCo : Hid _ := hCo
    have HLe : Hid _ := hLe
    have HDi : Hid _ := hdis
    clear cO m0 m1 hc0 hc0d Bf hw1 hc hlit hBX hCl hO hCo hLe hdis
    go_wp2_with fail
    refine cL.mono ?_
    rintro e w1 ⟨x, rfl, hx, hb1⟩
    obtain ⟨xa, xc, hxs⟩ := hx.shape
    rw [List.length_map] at hxs
    subst hxs
    have hlp : (litsOf 64 G).length = (placesOf G).length := by rw [lits_places, List.length_map]
    have HX0 : Hid (Own w1 W.heap.size 3 (.slice xa (litsOf 64 G).length xc) (ints (litsOf 64 G))) := hx
    have HS1 : Hid (SeaAt w1 X (.pointer (some ⟨H, 0, none⟩)) a1 (.slice none 0 0) (truthOf (givP [])) 0 (givP [])) := HS0.out.below' hb1
    have HCl1 : Hid (Cls w1 H vK (keptOf cs)) := ⟨HCl.out.head.below' hb1, HCl.out.own.below' hb1⟩
    have HO1 : Hid (Own w1 w.heap.size 71 a1 (svs (chOf n cs))) := HO.out.below' hb1
    have HB1 : Hid (Below w.heap.size w w1) := hbW.trans (hb1.mono hWs)
    have h40 : (placesOf G).length ≤ 64 := by unfold placesOf; exact Nat.le_trans (List.length_filter_le _ _) (by simp)
    have HLit : Hid (∀ m ∈ placesOf G, m < 2 * n) := fun m hm => bit_lt hGs ((mem_places hn hGs m).1 hm)
    rw [hlp] at HX0 ⊢
    clear hx hb1 cL HS0 HCl HO hbW
    go_wp2
    go_loopw [17] (fun y wr => ∃ (i : Nat) (v : Value), i ≤ (placesOf G).length ∧ y = .int .i64 i ∧ Hid (SeaAt wr X (.pointer (some ⟨H, 0, none⟩)) a1 v (truthOf (givP ((placesOf G).take i))) 0 (givP ((placesOf G).take i))) ∧ Hid (∀ b, v.ownBlock = some b → w.heap.size ≤ b) ∧ Hid (Cls wr H vK (keptOf cs)) ∧ Hid (Own wr w.heap.size 71 a1 (svs (chOf n cs))) ∧ Hid (Own wr W.heap.size 3 (.slice xa (placesOf G).length xc) (ints (litsOf 64 G))) ∧ Hid (Below w.heap.size w wr)) (fun y _ => (placesOf G).length - (intOf y).toNat)
    case atStart => exact ⟨0, .slice none 0 0, Nat.zero_le _, rfl, HS1, fun b e => by simp [Value.ownBlock] at e, HCl1, HO1, HX0, HB1⟩
    case round =>
      obtain ⟨i, v, hi, rfl, HS, HV, HK, HC, HX, HB⟩ := hrel
      by_cases hlt : i < (placesOf G).length
      · obtain ⟨ga, gc, he, hga, hcells⟩ := HX.out.at (by simp; omega)
        have hck := hcells i (by simp; omega)
        simp only [Value.slice.injEq] at he
        obtain ⟨rfl, -, -⟩ := he
        have hmem : (placesOf G).getD i 0 ∈ placesOf G := by rw [getD_lt _ _ _ hlt]; exact List.getElem_mem hlt
        have hm := HLit.out _ hmem
        have HT : Hid ((placesOf G).take (i + 1) = (placesOf G).take i ++ [(placesOf G).getD i 0]) := places_take G i hlt
        have hgd : (ints (litsOf 64 G)).getD i undef = .int .i64 (atp ((placesOf G).getD i 0)) := by
          rw [lits_places, getD_lt _ _ _ (by simp; omega), getD_lt _ _ _ hlt]
          simp [ints]
        rw [hgd] at hck
        generalize (placesOf G).getD i 0 = m at *
        have hatp := atp_lit (V := n) hm
        have hmk : maskOf [atp m] = 2 ^ m := by rw [mask_one, pl_atp]
        generalize hae : atp m = l at *
        have cL : Calls Tryd.prog 44 #[.slice (some ⟨wr.heap.size, 0, none⟩) 1 1] (wr.alloc (.cells #[.int .i64 l] 3)) fun e w' => e = .returned (sv (maskOf [l])) ∧ w' = wr.alloc (.cells #[.int .i64 l] 3) := litsOf_any n hn (some ⟨wr.heap.size, 0, none⟩) 1 [l] _ (wr.heap.size + 1) (fun _ => ⟨wr.heap.size, 0, rfl, Nat.lt_succ_self _, fun j hj => by
          have hj0 : j = 0 := by simp at hj; omega
          subst hj0
          exact (blk_new wr [.int .i64 l] 3).cell (i := 0) (by simp) undef⟩) (fun x hx => by rw [List.mem_singleton] at hx; rw [hx]; exact hatp) (by simp)
        rw [hmk] at cL
        have hm64 := lt64 hn (two_pow_lt hm)
        have hal := alloc_below wr (.cells #[.int .i64 l] 3)
        have hTl : truthOf (givP ((placesOf G).take i)) < 18446744073709551616 := by
          refine lt64 hn (Nat.lt_pow_two_of_testBit _ fun j hj => bool_false fun hb => ?_)
          rw [givP_bit] at hb
          have := HLit.out j (List.mem_of_mem_take hb)
          omega
        have cP := put_any X (.pointer (some ⟨H, 0, none⟩)) a1 v (truthOf (givP ((placesOf G).take i))) 0 (givP ((placesOf G).take i)) (2 ^ m) 0 (wr.alloc (.cells #[.int .i64 l] 3)) (HS.out.below' hal) (by unfold givP; simp; omega) hTl hm64
        have HP2 : Hid (givP ((placesOf G).take (i + 1)) = ⟨2 ^ m, 0, 0⟩ :: givP ((placesOf G).take i)) := by unfold Hid; rw [HT.out, givP_snoc]
        generalize 2 ^ m = P2 at *
        clear hcells hmem hm hgd hmk hatp hae
        go_wp2_with (first | (go_at_call 44; refine cL.mono ?_; rintro e w' ⟨rfl, hw'⟩; obtain rfl := hw'.symm) | (go_at_call 96; refine cP.mono ?_; rintro e w2 ⟨rfl, v', hs2, hC2, hO2⟩))
        go_roundw
        case rel =>
          have hsA := HS.out.below' hal
          have ht := hsA.tchg hC2
          have hBs := HB.out.size
          refine ⟨i + 1, v', by omega, by go_num, by unfold Hid; rw [HP2.out]; exact hs2, fun b e => ?_, ⟨ht.blk (HK.out.head.below' hal) (by decide), ht.own (HK.out.own.below' hal) (by decide)⟩, ht.own (HC.out.below' hal) (by decide), ht.own (HX.out.below' hal) (by decide), ?_⟩
          · rcases hO2 b e with h | h
            · exact HV.out b h
            · exact Nat.le_trans hBs (Nat.le_trans hal.size h)
          · refine (HB.out.trans (hal.mono hBs)).trans (hC2.below (Nat.le_trans hBs hal.size) fun k e => ?_)
            rcases e with e | e
            · rw [e]; exact hX
            · exact HV.out k e
        case measure => simp [intOf]; omega
      · obtain rfl : i = (placesOf G).length := by omega
        go_wp2
        go_ret
        have hS := HS.out
        rw [List.take_length] at hS
        exact ⟨X, H, v, vK, a1, rfl, hS, HK.out, HC.out, HDi.out, hH, hX, HV.out, HCo.out, HLe.out, HB.out⟩
end Go.Proofs.YtlodenfdcckemaaDoor

/-
  The walk of the search.
-/

namespace Go.Proofs.YtlodenfdcckemaaDoor
open Go.RowKit Go.Shelf

/-- How the search answers. -/
def RunEnd (J : List Nat → World → Prop) (e : Ending) (w' : World) : End → Prop
  | .sat S => e = .returned (.tuple #[sv S, .bool true])
  | .unsat F => e = .returned (.tuple #[sv 0, .bool false]) ∧ J F w'

/-- A state that the search can be in. -/
def RelR (V G : Nat) (cs : List (List Int)) (ch : List Nat) (B0 : Nat) (J : List Nat → World → Prop) (w : World) (X H : Nat) (a1 : Value) (a0 : Cf) (a : Cf) (wr : World) : Prop := (∃ v vK, RunI ch B0 J w X H a1 a wr v vK) ∧ SInv V G cs a ∧ ∀ e, Ends G ch a e → Ends G ch a0 e

theorem rel_min {V G : Nat} {cs : List (List Int)} {ch : List Nat} {B0 : Nat} {J : List Nat → World → Prop} {w : World} {X H : Nat} {a1 : Value} {a0 a : Cf} {wr : World} (h : RelR V G cs ch B0 J w X H a1 a0 a wr) : ∃ b, RelR V G cs ch B0 J w X H a1 a0 b wr ∧ smeas V b = least (fun m => ∃ a, RelR V G cs ch B0 J w X H a1 a0 a wr ∧ smeas V a = m) := (least_spec (p := fun m => ∃ a, RelR V G cs ch B0 J w X H a1 a0 a wr ∧ smeas V a = m) ⟨a, h, rfl⟩).1

theorem rel_le {V G : Nat} {cs : List (List Int)} {ch : List Nat} {B0 : Nat} {J : List Nat → World → Prop} {w : World} {X H : Nat} {a1 : Value} {a0 a : Cf} {wr : World} (h : RelR V G cs ch B0 J w X H a1 a0 a wr) : least (fun m => ∃ a, RelR V G cs ch B0 J w X H a1 a0 a wr ∧ smeas V a = m) ≤ smeas V a := (least_spec (p := fun m => ∃ a, RelR V G cs ch B0 J w X H a1 a0 a wr ∧ smeas V a = m) ⟨a, h, rfl⟩).2 _ ⟨a, h, rfl⟩

theorem Turn.ends {G : Nat} {ch : List Nat} {a0 a b : Cf} (h : ∀ e, Ends G ch a e → Ends G ch a0 e) (ht : Turn G ch a (.inl b)) : ∀ e, Ends G ch b e → Ends G ch a0 e := fun e he => h e (.step ht he)

set_option maxRecDepth 100000 in
set_option maxHeartbeats 4000000 in
theorem run_any (n : Nat) (ao : Option Addr) (cap : Nat) (cs : List (List Int)) (G : Nat) (gf : Nat) (cf : Array Value) (B0 : Nat) (J : List Nat → World → Prop) (hF : Found gf cf B0 J) (w : World) (hc : ListsAt w w.heap.size ao cs) (hg : Good n cs) (hGs : G < 2 ^ (2 * n)) (hh : ∀ m, G.testBit m = true → G.testBit (mir m) = false) (hTb : Tab w) (hw0 : 0 < w.heap.size) (hB0 : B0 ≤ w.heap.size) (hJ : J [] w) :
    Calls Tryd.prog 55 #[.agg #[.int .i64 n, .slice ao cs.length cap], sv G, .func (.func gf) #[] cf] w fun e w' => ∃ en, Ends G (chOf n cs) ⟨keptOf cs, givP (placesOf G), []⟩ en ∧ EndG n G cs en ∧ RunEnd J e w' en ∧ Below B0 w w' := by
  have hn := hg.vars
  have hlit : ∀ c ∈ cs, ∀ l ∈ c, IsLit n l := fun c hc l hl => hg.lits c hc l hl
  have hw1 : Below w.heap.size w (w.alloc (.cells #[.int .i64 n, .slice ao cs.length cap] 31)) := (Below.refl _ _).alloc (Nat.le_refl _) _
  have Bf := blk_new w [.int .i64 n, .slice ao cs.length cap] 31
  dsimp only [List.toArray] at Bf
  have hG64 := lt64 hn hGs
  have cOp := opposites_any G hG64
  have ho64 := opp_lt64 G
  go_enter Tryd.func55, Tryd.ntmps55
  go_wp2_with fail
  generalize w.alloc (.cells #[.int .i64 n, .slice ao cs.length cap] 31) = W0 at *
  have hc0 := (hc.below hw1 (Nat.le_refl _)).mono hw1.size
  have hsz0 := hw1.size
  refine (start_any n ao cap cs G W0 hc0 hg hGs (hTb.below hw1 hw0) (by omega)).mono ?_
  rintro e W ⟨X, H, v0, vK, a1, rfl, hSea, hCl, hO, hdis, hH, hX, hlv0, hCo, hLe, hbW0⟩
  have hbW : Below w.heap.size w W := hw1.trans (hbW0.mono hsz0)
  · skip
    have hCh := chOf_ok n cs
    have hChl := chOf_len n cs
    have hI0 : RunI (chOf n cs) B0 J w X H a1 ⟨keptOf cs, givP (placesOf G), []⟩ W v0 vK := ⟨by show SeaAt W X _ a1 v0 (truthOf (givP (placesOf G))) (lv (givP (placesOf G))) _; rw [givP_lv]; exact hSea, hCl, hO.lower (Nat.zero_le _), fun b e => (hdis b e).2, hF.keep [] w W hJ (TChg.of_below hbW) (hbW.mono hB0), Nat.le_trans hB0 (Nat.le_trans hsz0 hX), Nat.le_trans hB0 (Nat.le_trans hsz0 hH), fun b e => Nat.le_trans hB0 (Nat.le_trans hsz0 (hlv0 b e)), fun b e => Nat.le_trans hB0 (Nat.le_trans hsz0 (hdis b e).1), hbW.mono hB0, Nat.le_trans hB0 hbW.size⟩
    have HR0 : Hid (RelR n G cs (chOf n cs) B0 J w X H a1 ⟨keptOf cs, givP (placesOf G), []⟩ ⟨keptOf cs, givP (placesOf G), []⟩ W) := ⟨⟨_, _, hI0⟩, SInv.start hn hCo hLe hGs hh, fun e h => h⟩
    have h200 := hg.many
    generalize hche : chOf n cs = ch at *
    generalize hae : (⟨keptOf cs, givP (placesOf G), []⟩ : Cf) = a0 at *
    have HchE : Hid (chOf n cs = ch) := hche
    have HaE : Hid ((⟨keptOf cs, givP (placesOf G), []⟩ : Cf) = a0) := hae
    clear hche hae
    clear hI0 hCl hO hdis hSea hCo hLe hc0 Bf hw1 hbW hbW0 hc hlit hlv0
    have HGs : Hid (G < 2 ^ (2 * n)) := hGs
    clear hGs hh
    go_wp2
    go_loopw [9] (fun _ wr => Hid (∃ a, RelR n G cs ch B0 J w X H a1 a0 a wr)) (fun _ wr => least (fun m => ∃ a, RelR n G cs ch B0 J w X H a1 a0 a wr ∧ smeas n a = m))
    case atStart => exact ⟨_, HR0.out⟩
    case round =>
      obtain ⟨ax, hax⟩ := hrel.out
      obtain ⟨a, ⟨⟨v, vK, hI⟩, hSI, hE⟩, hm⟩ := rel_min hax
      clear hax ax hrel
      obtain ⟨hFl, hKl⟩ := hSI.few hn h200
      have cA := advance_any n hn (Known n (withF cs a.F)) H vK a.K (fun k hk => hSI.cover.small hk) (fun k hk => hSI.cover.known hk) (by omega) X a1 v a.P wr hI.sea hI.cls hSI.trail
      have HM : Hid (smeas n a = least (fun m => ∃ a, RelR n G cs ch B0 J w X H a1 a0 a wr ∧ smeas n a = m)) := hm
      have HI : Hid (RunI ch B0 J w X H a1 a wr v vK) := hI
      have HS : Hid (SInv n G cs a) := hSI
      have HE : Hid (∀ e, Ends G ch a e → Ends G ch a0 e) := hE
      clear hm hI hSI hE
      go_wp2_with fail
      refine cA.mono ?_
      rintro e w1 ⟨P', o, v', hG, hT', rfl, hs1, hc1, hC1, hO1⟩
      have hI1 : RunI ch B0 J w X H a1 ⟨a.K, P', a.F⟩ w1 v' vK := HI.out.picks hF hs1 hC1 hO1 rfl rfl
      have hS1 := HS.out.more hn hG
      have h40 := hT'.short hn
      have hT64 := lt64 hn hT'.small
      clear cA
      cases o with
      | none =>
        have cC := choose_any X (.pointer (some ⟨H, 0, none⟩)) a1 v' ch P' w1 hs1 hI1.own (by omega) (fun l hl => by obtain ⟨m, hm, rfl⟩ := hCh.lit l hl; exact lt64 hn (two_pow_lt hm)) hT64 (by omega)
        have HI1 : Hid _ := hI1
        have HG : Hid (Goes a.K [] true a.P (P', none)) := hG
        have HS1 : Hid _ := hS1
        clear hI1 hS1 hG hs1 hc1 hC1 hO1
        simp only [lemAt, Option.isSome]
        go_wp2_with fail
        refine cC.mono ?_
        rintro e w2 (⟨hch, rfl, hb⟩ | ⟨l, v2, hch, rfl, hs2, hC2, hO2⟩)
        · have hI1 : RunI ch B0 J w X H a1 ⟨a.K, P', a.F⟩ w1 v' vK := HI1.out
          have c3 : w2.cell? ⟨X, 3, none⟩ = some (sv (truthOf P')) := (hI1.sea.head.below' hb).cell (i := 3) (by simp) undef
          have HOld : Hid (Below B0 w w2) := hI1.old.trans (hb.mono hI1.base)
          have HT : Hid (Turn G ch a (.inr (.sat (truthOf P')))) := Turn.found (K := a.K) (P := a.P) (F := a.F) HG.out hch
          clear hI1
          go_wp2
          go_ret2
          exact ⟨.sat (truthOf P'), by rw [HchE.out, HaE.out]; exact HE.out _ (.last HT.out), HT.out.ok hn hCh HS.out, rfl, HOld.out⟩
        · have HT : Hid (Turn G ch a (.inl ⟨a.K, ⟨l, 0, lv P' + 1⟩ :: P', a.F⟩)) := Turn.chose (K := a.K) (P := a.P) (F := a.F) HG.out hch
          go_wp2
          obtain ⟨hSb, hlt⟩ := HT.out.inv hn hCh HS.out
          have hI1 : RunI ch B0 J w X H a1 ⟨a.K, P', a.F⟩ w1 v' vK := HI1.out
          have hIb : RunI ch B0 J w X H a1 ⟨a.K, ⟨l, 0, lv P' + 1⟩ :: P', a.F⟩ w2 v2 vK := hI1.picks hF (by simpa [truthOf, lv] using hs2) hC2 hO2 rfl rfl
          have hR : RelR n G cs ch B0 J w X H a1 a0 ⟨a.K, ⟨l, 0, lv P' + 1⟩ :: P', a.F⟩ w2 := ⟨⟨_, _, hIb⟩, hSb, Turn.ends HE.out HT.out⟩
          exact ⟨⟨_, hR⟩, Nat.lt_of_le_of_lt (rel_le hR) (by rw [← HM.out]; exact hlt)⟩
      | some k =>
        have hlem := HS.out.lem hn hG
        have hc64 := lt64 hn hlem.small
        have ef := hF.enter
        have HC : Hid (lemAt P' (some k) = lemOf (falseAt (lv P') P' 0) (lv P') P' k) := rfl
        simp only [Option.isSome]
        rw [← HC.out] at hc64
        generalize lemAt P' (some k) = c at *
        have cFd := hF.call a.F c w1 hI1.fnd hc64 hI1.base hFl
        have HI1 : Hid (RunI ch B0 J w X H a1 ⟨a.K, P', a.F⟩ w1 v' vK) := hI1
        have HG : Hid (Goes a.K [] true a.P (P', some k)) := hG
        clear hI1 hS1 hG hs1 hc1 hC1 hO1 hlem
        have cWi := within_any c (opp G) hc64 ho64
        generalize hoG : opp G = oG at *
        have HoG : Hid (opp G = oG) := hoG
        clear hoG
        cases h0 : within c oG with
        | true =>
          rw [h0] at cWi
          have HT : Hid (Turn G ch a (.inr (.unsat (a.F ++ [c])))) := Turn.ended (K := a.K) (P := a.P) (F := a.F) HG.out HC.out (by rw [HoG.out]; exact h0)
          clear h0
          go_wp2_with (first | (go_at_fn gf; refine cFd.mono ?_; rintro e w2 ⟨rfl, hJ2, hb2, ht2⟩) | (go_at_call 70; refine (cOp _).mono ?_; rintro e w' ⟨rfl, hw'⟩; obtain rfl := hw'.symm) | (go_at_call 72; refine (cWi _).mono ?_; rintro e w' ⟨rfl, hw'⟩; obtain rfl := hw'.symm))
          go_ret2
          exact ⟨.unsat (a.F ++ [c]), by rw [HchE.out, HaE.out]; exact HE.out _ (.last HT.out), HT.out.ok hn hCh HS.out, ⟨rfl, hJ2⟩, HI1.out.old.trans hb2⟩
        | false =>
          rw [h0] at cWi
          have HT : Hid (Turn G ch a (.inl ⟨addTo a.K c, popTo (backLev (lv P') c P') P', a.F ++ [c]⟩)) := Turn.learn (K := a.K) (P := a.P) (F := a.F) HG.out HC.out (by rw [HoG.out]; exact h0)
          clear h0
          go_wp2_with (first | (go_at_fn gf; refine cFd.mono ?_; rintro e w2 ⟨rfl, hJ2, hb2, ht2⟩) | (go_at_call 70; refine (cOp _).mono ?_; rintro e w' ⟨rfl, hw'⟩; obtain rfl := hw'.symm) | (go_at_call 72; refine (cWi _).mono ?_; rintro e w' ⟨rfl, hw'⟩; obtain rfl := hw'.symm))
          have hI2 : RunI ch B0 J w X H a1 ⟨a.K, P', a.F ++ [c]⟩ w2 v' vK := HI1.out.found hb2 ht2 hJ2
          refine (back_any n hn (Known n (withF cs a.F)) X (.pointer (some ⟨H, 0, none⟩)) a1 v' P' c w2 hI2.sea hT' (by omega) hc64).mono ?_
          rintro e w3 ⟨rfl, v3, hs3, ho3, hC3⟩
          have hI3 : RunI ch B0 J w X H a1 ⟨a.K, popTo (backLev (lv P') c P') P', a.F ++ [c]⟩ w3 v3 vK := hI2.picks hF hs3 hC3 (fun g e => Or.inl (by rw [← ho3]; exact e)) rfl rfl
          have x0 : w3.cell? ⟨X, 0, none⟩ = some (.pointer (some ⟨H, 0, none⟩)) := hI3.sea.head.cell (i := 0) (by simp) undef
          have cAd := add_any H vK a.K c w3 hI3.cls (fun k hk => lt64 hn (HS.out.cover.small hk)) hc64 (by omega)
          have HI3 : Hid _ := hI3
          clear hI3 hI2 hs3 hC3 cFd hJ2
          go_wp2_with fail
          refine cAd.mono ?_
          rintro e w4 ⟨rfl, vK4, hCl4, hO4, hC4⟩
          go_wp2
          obtain ⟨hSb, hlt⟩ := HT.out.inv hn hCh HS.out
          have hI3 : RunI ch B0 J w X H a1 ⟨a.K, popTo (backLev (lv P') c P') P', a.F ++ [c]⟩ w3 v3 vK := HI3.out
          have hIb : RunI ch B0 J w X H a1 ⟨addTo a.K c, popTo (backLev (lv P') c P') P', a.F ++ [c]⟩ w4 v3 vK4 := hI3.kept hF hCl4 hC4 hO4 rfl rfl
          have hR : RelR n G cs ch B0 J w X H a1 a0 ⟨addTo a.K c, popTo (backLev (lv P') c P') P', a.F ++ [c]⟩ w4 := ⟨⟨_, _, hIb⟩, hSb, Turn.ends HE.out HT.out⟩
          exact ⟨⟨_, hR⟩, Nat.lt_of_le_of_lt (rel_le hR) (by rw [← HM.out]; exact hlt)⟩
end Go.Proofs.YtlodenfdcckemaaDoor

/-
  The walk of Solve.
-/

namespace Go.Proofs.YtlodenfdcckemaaDoor
open Go.RowKit Go.Shelf

/-- The proof so far, in memory. -/
def ProofAt (Bp B0 : Nat) (F : List Nat) (w : World) : Prop := Tab w ∧ ∃ vp vs, Blk w Bp 23 [vp] ∧ MadeS w B0 vp vs (F.map (litsOf 64))

theorem sol1_end {w w1 w2 : World} {Bp B0 : Nat} {F : List Nat} {c : Nat} {vp x : Value} {vs : List Value} {g cap : Nat} {o : Obj} (hT : Tab w) (hBp : Blk w Bp 23 [vp]) (hM : MadeS w B0 vp vs (F.map (litsOf 64))) (hB : B0 ≤ w.heap.size) (hB1 : B0 ≤ Bp) (hw0 : 0 < B0) (hb1 : Below w.drew.heap.size w.drew w1) (hx : Own w1 w.drew.heap.size 3 x (ints (litsOf 64 c)))
    (hown : w2.ownsRow B0 24 1 (.slice (some ⟨g, 0, none⟩) (F.length + 1) cap) (F.length + 1) (vs ++ [x])) (hgrow : (w1.alloc o).grownBy w2 vp.ownBlock) (hneB : vp.ownBlock ≠ some Bp) :
    ProofAt Bp B0 (F ++ [c]) (w2.setCell ⟨Bp, 0, none⟩ (.slice (some ⟨g, 0, none⟩) (F.length + 1) cap)) ∧ Below B0 w (w2.setCell ⟨Bp, 0, none⟩ (.slice (some ⟨g, 0, none⟩) (F.length + 1) cap)) ∧ TChg (fun t => ¬ SeaT t) w (w2.setCell ⟨Bp, 0, none⟩ (.slice (some ⟨g, 0, none⟩) (F.length + 1) cap)) := by
  have hMd : MadeS w.drew B0 vp vs (F.map (litsOf 64)) := hM.tchg (Ts := fun _ => False) (TChg.of_below ((Below.refl _ _).drew)) (fun e => e) (fun e => e)
  have hM1 := hMd.below' hb1
  have hC2 : Chg (fun k => vp.ownBlock = some k) w1 w2 := (Chg.of_below (alloc_below w1 o)).trans (Chg.of_grown (S := fun k => vp.ownBlock = some k) hgrow (fun k e => e) (fun k e o' ho => (hM1.oe.alloc o).cells e o' ho))
  have hM2 := hMd.more hb1 hx hB (own_of hown) hC2
  have hBp1 := Blk.below' (w := w.drew) hBp hb1
  have hBp2 : Blk w2 Bp 23 [vp] := hBp1.chg hC2 hneB
  have hCs : Chg (fun k => k = Bp) w2 (w2.setCell ⟨Bp, 0, none⟩ (.slice (some ⟨g, 0, none⟩) (F.length + 1) cap)) := (Chg.refl (fun k => k = Bp) w2).setB Bp 0 rfl _
  have ht : TChg (fun t => t = 23) w2 (w2.setCell ⟨Bp, 0, none⟩ (.slice (some ⟨g, 0, none⟩) (F.length + 1) cap)) := ⟨_, hCs, fun b e _ => by obtain rfl : b = Bp := e; exact ⟨_, _, hBp2, rfl⟩⟩
  have hCw : Chg (fun k => k = Bp ∨ vp.ownBlock = some k) w (w2.setCell ⟨Bp, 0, none⟩ (.slice (some ⟨g, 0, none⟩) (F.length + 1) cap)) :=
    (((Chg.refl (fun k => k = Bp ∨ vp.ownBlock = some k) w).drew.trans (Chg.of_below hb1)).trans (hC2.mono fun k _ e => Or.inr e)).trans (hCs.mono fun k _ e => Or.inl e)
  have hbw : Below B0 w (w2.setCell ⟨Bp, 0, none⟩ (.slice (some ⟨g, 0, none⟩) (F.length + 1) cap)) := hCw.below hB (fun k e => by
    rcases e with e | e
    · omega
    · exact (hM.oe.lt e).1)
  refine ⟨⟨hT.below hbw hw0, _, _, hBp2.set 0 _, by rw [List.map_append]; exact hM2.tchg ht (by decide) (by decide)⟩, hbw, _, hCw, fun b e _ => ?_⟩
  rcases e with rfl | e
  · exact ⟨_, _, hBp, by unfold SeaT; decide⟩
  · obtain ⟨L, hL⟩ := hM.oe.blkOf e
    exact ⟨_, _, hL, by unfold SeaT; decide⟩

set_option maxRecDepth 100000 in
set_option maxHeartbeats 2000000 in
theorem sol1_any (Bp B0 : Nat) (F : List Nat) (c : Nat) (w : World) (h : ProofAt Bp B0 F w) (hc : c < 18446744073709551616) (hB : B0 ≤ w.heap.size) (hB1 : B0 ≤ Bp) (hw0 : 0 < B0) (hF : F.length ≤ 3486784401) :
    Calls Tryd.prog 79 #[sv c, .pointer (some ⟨Bp, 0, none⟩)] w fun e w' => e = .returned (.tuple #[]) ∧ ProofAt Bp B0 (F ++ [c]) w' ∧ Below B0 w w' ∧ TChg (fun t => ¬ SeaT t) w w' := by
  obtain ⟨hT, vp, vs, hBp, hM⟩ := h
  have hlen : vs.length = F.length := by rw [hM.len]; simp
  have hit : w.cell? ⟨Bp, 0, none⟩ = some vp := hBp.cell (i := 0) (by simp) undef
  obtain ⟨i0, hi, hz0, hz1, hz2⟩ := info_parts Tryd.infoInts
  have hneB : vp.ownBlock ≠ some Bp := own_blk hM.oe hBp (by decide)
  have hBl := hBp.lt
  have hTd : Tab w.drew := hT
  have cL := list_any c hc w.drew hTd (by show 0 < w.heap.size; omega)
  go_enter Tryd.func79, Tryd.ntmps79
  go_wp2
  go_region_law (first
    | (refine step_append_lies _ (by rfl) (.tmp 3) (.tmp 6) 23 (by rfl) B0 24 i0 (.slice none 0 0) 1 24 Tryd.underlying23 hi hz0 hz1 hz2 (by rfl) (by decide) vp F.length vs (by rfl) (by exact hOA) ⟨w1.heap.size, 0, none⟩ 1 1 [.slice xa (litsOf 64 c).length xc] (by rfl) (by rfl) (by exact World.news_of_block hNA) hone (by decide) (by unfold maxLen; omega) (by omega) (by rw [alloc_size]; omega) (w1.heap.size + 1) (by simp) ?_; intro g cap w2 hown hgrow hat hlt; have B2 := Blk.grown hBA hgrow hneB; have d1 : w2.cell? ⟨Bp, 0, none⟩ = some vp := B2.cell (i := 0) (by simp) undef; have d2 : w2.frozen? ⟨Bp, 0, none⟩ = false := B2.frozen 0)
    | (go_simp; go_at_call 49; refine cL.mono ?_; rintro e w1 ⟨x, rfl, hx, hb1⟩; obtain ⟨xa, xc, hxs⟩ := hx.shape; rw [List.length_map] at hxs; subst hxs; have hone : ∀ u ∈ [Value.slice xa (litsOf 64 c).length xc], u.oneCell' = true := (by intro u hu; rw [List.mem_singleton] at hu; rw [hu]; rfl); have hBp1 := Blk.below' (w := w.drew) hBp hb1; have hit1 : w1.cell? ⟨Bp, 0, none⟩ = some vp := hBp1.cell (i := 0) (by simp) undef; have hs1 : w.heap.size ≤ w1.heap.size := hb1.size; have hM1 := MadeS.below' (w := w.drew) (hM.tchg (Ts := fun _ => False) (TChg.of_below ((Below.refl _ _).drew)) (fun e => e) (fun e => e)) hb1; have hOA : (w1.alloc (.cells #[.slice xa (litsOf 64 c).length xc] 24)).ownsRow B0 24 1 vp F.length vs := (by have := (hM1.oe.alloc (.cells #[.slice xa (litsOf 64 c).length xc] 24)).own; rw [hlen] at this; exact this); have hNA : Blk (w1.alloc (.cells #[.slice xa (litsOf 64 c).length xc] 24)) w1.heap.size 24 [.slice xa (litsOf 64 c).length xc] := blk_new w1 [.slice xa (litsOf 64 c).length xc] 24; have hBA := hBp1.alloc (.cells #[.slice xa (litsOf 64 c).length xc] 24); have hBl1 : Bp < w1.heap.size := hBp1.lt; dsimp only))
  all_goals
    have hr := sol1_end (Bp := Bp) (B0 := B0) (F := F) (c := c) hT hBp hM hB hB1 hw0 hb1 hx hown hgrow hneB
    have HR : Hid _ := hr
    clear hr
    go_end0
    exact ⟨rfl, HR.out⟩

theorem found_sol (Bp B0 : Nat) (hB1 : B0 ≤ Bp) (hw0 : 0 < B0) : Found 79 #[.pointer (some ⟨Bp, 0, none⟩)] B0 (ProofAt Bp B0) := by
  refine ⟨enters_of Tryd.func79 (by kernel_rfl) rfl, fun F c w hJ hc hB hF => sol1_any Bp B0 F c w hJ hc hB hB1 hw0 hF, fun F w w' hJ ht hb => ?_⟩
  obtain ⟨hT, vp, vs, hBp, hM⟩ := hJ
  exact ⟨hT.below hb hw0, vp, vs, ht.blk hBp (by unfold SeaT; decide), hM.tchg ht (by unfold SeaT; decide) (by unfold SeaT; decide)⟩

/-- How Solve answers. -/
def SolEnd (b : Nat) (e : Ending) (w' : World) : End → Prop
  | .sat S => ∃ v, e = .returned (.tuple #[.agg #[.bool true, v, .slice none 0 0], .int .i64 0]) ∧ Own w' b 3 v (ints (litsOf 64 S))
  | .unsat F => ∃ v vs, e = .returned (.tuple #[.agg #[.bool false, .slice none 0 0, v], .int .i64 0]) ∧ MadeS w' b v vs (F.map (litsOf 64))

theorem sol_end {w W1 W2 : World} {Rb : Nat} {a b c : Value} (hR : Blk W1 Rb 45 [.bool false, .slice none 0 0, .slice none 0 0]) (hw : w.heap.size ≤ Rb) (hb : Below w.heap.size w W1) (e : W2 = ((W1.setCell ⟨Rb, 0, none⟩ a).setCell ⟨Rb, 1, none⟩ b).setCell ⟨Rb, 2, none⟩ c) : Blk W2 Rb 45 [a, b, c] ∧ Below w.heap.size w W2 ∧ TChg (fun t => t = 45) W1 W2 := by
  subst e
  refine ⟨((hR.set 0 a).set 1 b).set 2 c, ((hb.setCell (p := ⟨Rb, 0, none⟩) hw _).setCell (p := ⟨Rb, 1, none⟩) hw _).setCell (p := ⟨Rb, 2, none⟩) hw _, fun k => k = Rb, (((Chg.refl (fun k => k = Rb) W1).setB Rb 0 rfl _).setB Rb 1 rfl _).setB Rb 2 rfl _, fun k e _ => by obtain rfl : k = Rb := e; exact ⟨_, _, hR, rfl⟩⟩

/-- How answer answers. -/
def AnsEnd (b : Nat) (e : Ending) (w' : World) : End → Prop
  | .sat S => ∃ v, e = .returned (.agg #[.bool true, v, .slice none 0 0]) ∧ Own w' b 3 v (ints (litsOf 64 S))
  | .unsat F => ∃ v vs, e = .returned (.agg #[.bool false, .slice none 0 0, v]) ∧ MadeS w' b v vs (F.map (litsOf 64))

set_option maxRecDepth 100000 in
set_option maxHeartbeats 2000000 in
theorem answer_any (Q : End → Prop) (hQ : ∀ S, Q (.sat S) → S < 18446744073709551616) (gr : Nat) (cr : Array Value) (er : ∀ args w, (callFunc gr args).run Tryd.prog w = .ok (.enter gr args) w) (w : World) (hT : Tab w) (hw0 : 0 < w.heap.size)
    (hrun : ∀ (Bp : Nat) (W : World), Below w.heap.size w W → ProofAt Bp Bp [] W → w.heap.size ≤ Bp → Bp ≤ W.heap.size → Calls Tryd.prog gr (#[.func (.func 79) #[] #[.pointer (some ⟨Bp, 0, none⟩)]] ++ cr) W fun e W' => ∃ en, Q en ∧ RunEnd (ProofAt Bp Bp) e W' en ∧ Below Bp W W') :
    Calls Tryd.prog 53 #[.func (.func gr) #[] cr] w fun e w' => ∃ en, Q en ∧ AnsEnd w.heap.size e w' en ∧ Below w.heap.size w w' := by
  have hw1 : Below w.heap.size w ((w.alloc (.cells #[.bool false, .slice none 0 0, .slice none 0 0] 45)).alloc (.cells #[.slice none 0 0] 23)) := ((Below.refl _ _).alloc (Nat.le_refl _) _).alloc (by simp) _
  have Br := (blk_new w [.bool false, .slice none 0 0, .slice none 0 0] 45).alloc (.cells #[.slice none 0 0] 23)
  have Bp := blk_new (w.alloc (.cells #[.bool false, .slice none 0 0, .slice none 0 0] 45)) [.slice none 0 0] 23
  have hz : ((w.alloc (.cells #[.bool false, .slice none 0 0, .slice none 0 0] 45)).alloc (.cells #[.slice none 0 0] 23)).heap.size = w.heap.size + 1 + 1 := by simp
  rw [World.size_alloc] at Bp
  dsimp only [List.toArray] at Bp Br
  go_enter Tryd.func53, Tryd.ntmps53
  go_wp2_with fail
  generalize (w.alloc (.cells #[.bool false, .slice none 0 0, .slice none 0 0] 45)).alloc (.cells #[.slice none 0 0] 23) = W0 at *
  have hP0 : ProofAt (w.heap.size + 1) (w.heap.size + 1) [] W0 := ⟨hT.below hw1 hw0, _, [], Bp, MadeS.start _ _⟩
  have cR := hrun (w.heap.size + 1) W0 hw1 hP0 (Nat.le_succ _) (by omega)
  go_at_fn gr
  refine cR.mono ?_
  rintro e w3 ⟨en, hq, hRe, hb3⟩
  have hbw3 : Below w.heap.size w w3 := hw1.trans (hb3.mono (Nat.le_succ _))
  have Br3 : Blk w3 w.heap.size 45 [.bool false, .slice none 0 0, .slice none 0 0] := Br.below hb3 (Nat.lt_succ_self _)
  have r0 : w3.cell? ⟨w.heap.size, 0, none⟩ = some (.bool false) := Br3.cell (i := 0) (by simp) undef
  have r1 : w3.cell? ⟨w.heap.size, 1, none⟩ = some (.slice none 0 0) := Br3.cell (i := 1) (by simp) undef
  have r2 : w3.cell? ⟨w.heap.size, 2, none⟩ = some (.slice none 0 0) := Br3.cell (i := 2) (by simp) undef
  have f0 := Br3.frozen 0
  have f1 := Br3.frozen 1
  have f2 := Br3.frozen 2
  clear Br Bp hP0 hw1 hb3 hz hrun cR
  have HQ : Hid (Q en) := hq
  have HBr : Hid (Blk w3 w.heap.size 45 [.bool false, .slice none 0 0, .slice none 0 0]) := Br3
  cases en with
  | sat S =>
    obtain rfl : e = .returned (.tuple #[sv S, .bool true]) := hRe
    have hS64 : S < 18446744073709551616 := hQ S hq
    have cL := list_any S hS64 w3 (hT.below hbw3 hw0) (by have := hbw3.size; omega)
    clear hq Br3
    go_wp2_with fail
    refine cL.mono ?_
    rintro e w4 ⟨x, rfl, hx, hb4⟩
    obtain ⟨xa, xc, hxs⟩ := hx.shape
    rw [List.length_map] at hxs
    subst hxs
    have Br4 := HBr.out.below' hb4
    have q0 : w4.cell? ⟨w.heap.size, 0, none⟩ = some (.bool false) := Br4.cell (i := 0) (by simp) undef
    have q1 : w4.cell? ⟨w.heap.size, 1, none⟩ = some (.slice none 0 0) := Br4.cell (i := 1) (by simp) undef
    have q2 : w4.cell? ⟨w.heap.size, 2, none⟩ = some (.slice none 0 0) := Br4.cell (i := 2) (by simp) undef
    have g0 := Br4.frozen 0
    have g1 := Br4.frozen 1
    have g2 := Br4.frozen 2
    have hbw4 : Below w.heap.size w w4 := hbw3.trans (hb4.mono hbw3.size)
    have hend := fun W2 h => sol_end (W2 := W2) (a := .bool true) (b := .slice xa (litsOf 64 S).length xc) (c := .slice none 0 0) Br4 (Nat.le_refl _) hbw4 h
    have HEd : Hid _ := hend
    have HX : Hid _ := hx
    have hsz3 := hbw3.size
    clear hend hx Br4 cL r0 r1 r2 f0 f1 f2
    go_wp2
    obtain ⟨bR, hbF, htF⟩ := HEd.out _ rfl
    exact bodyPost_ret (v := .agg #[.bool true, .slice xa (litsOf 64 S).length xc, .slice none 0 0]) (by simp [results, Tryd.results53, go_sem, q0, q1, q2]) rfl ⟨.sat S, HQ.out, ⟨_, rfl, htF.own (Own.lower HX.out hsz3) (by decide)⟩, hbF⟩
  | unsat F =>
    obtain ⟨rfl, hTb, vp, vs, hBp, hM⟩ := hRe
    have hlen : vs.length = F.length := by rw [hM.len]; simp
    obtain ⟨pa, pc, hps⟩ := hM.oe.shape
    rw [hlen] at hps
    have hMl := hM.lower (Nat.le_succ w.heap.size)
    subst hps
    have p0 : w3.cell? ⟨w.heap.size + 1, 0, none⟩ = some (.slice pa F.length pc) := hBp.cell (i := 0) (by simp) undef
    have hend := fun W2 h => sol_end (W2 := W2) (a := .bool false) (b := .slice none 0 0) (c := .slice pa F.length pc) Br3 (Nat.le_refl _) hbw3 h
    have HEd : Hid _ := hend
    have HM : Hid (MadeS w3 w.heap.size (.slice pa F.length pc) vs (F.map (litsOf 64))) := hMl
    clear hend hM hMl hBp Br3 hq
    go_wp2
    obtain ⟨bR, hbF, htF⟩ := HEd.out _ rfl
    exact bodyPost_ret (v := .agg #[.bool false, .slice none 0 0, .slice pa F.length pc]) (by simp [results, Tryd.results53, go_sem, r0, r1, r2]) rfl ⟨.unsat F, HQ.out, ⟨_, vs, rfl, HM.out.tchg htF (by decide) (by decide)⟩, hbF⟩

set_option maxRecDepth 100000 in
set_option maxHeartbeats 2000000 in
theorem solve1_any (n : Nat) (ao : Option Addr) (cap : Nat) (cs : List (List Int)) (Fb Bp : Nat) (w : World) (hBf : Blk w Fb 31 [.int .i64 n, .slice ao cs.length cap]) (hc : ListsAt w w.heap.size ao cs) (hg : Good n cs) (hP : ProofAt Bp Bp [] w) (hp0 : 0 < Bp) (hBp : Bp ≤ w.heap.size) :
    Calls Tryd.prog 54 #[.func (.func 79) #[] #[.pointer (some ⟨Bp, 0, none⟩)], .pointer (some ⟨Fb, 0, none⟩)] w fun e w' => ∃ en, (Ends 0 (chOf n cs) ⟨keptOf cs, [], []⟩ en ∧ EndOk n cs en) ∧ RunEnd (ProofAt Bp Bp) e w' en ∧ Below Bp w w' := by
  have m0 : w.cell? ⟨Fb, 0, none⟩ = some (.int .i64 n) := hBf.cell (i := 0) (by simp) undef
  have m1 : w.cell? ⟨Fb, 1, none⟩ = some (.slice ao cs.length cap) := hBf.cell (i := 1) (by simp) undef
  have hfl := hBf.lt
  go_enter Tryd.func54, Tryd.ntmps54
  go_wp2_with fail
  refine (run_any n ao cap cs 0 79 #[.pointer (some ⟨Bp, 0, none⟩)] Bp (ProofAt Bp Bp) (found_sol _ _ (Nat.le_refl _) hp0) w hc hg (Nat.two_pow_pos _) (fun m h => by simp at h) hP.1 (by omega) hBp hP).mono ?_
  rintro e w3 ⟨en, hEn, hOk, hRe, hb3⟩
  rw [places_zero] at hEn
  have HE : Hid (Ends 0 (chOf n cs) ⟨keptOf cs, [], []⟩ en) := hEn
  have HOk : Hid (EndOk n cs en) := hOk.ok
  clear hEn hOk
  cases en with
  | sat S =>
    obtain rfl : e = .returned (.tuple #[sv S, .bool true]) := hRe
    go_wp2
    go_ret2
    exact ⟨.sat S, ⟨HE.out, HOk.out⟩, rfl, hb3⟩
  | unsat F =>
    obtain ⟨rfl, hJ⟩ := hRe
    have HJ : Hid _ := hJ
    clear hJ
    go_wp2
    go_ret2
    exact ⟨.unsat F, ⟨HE.out, HOk.out⟩, ⟨rfl, HJ.out⟩, hb3⟩

set_option maxRecDepth 100000 in
set_option maxHeartbeats 2000000 in
theorem solve_good (n : Nat) (ao : Option Addr) (cap : Nat) (cs : List (List Int)) (w : World) (hc : ListsAt w w.heap.size ao cs) (hg : Good n cs) (hf : (fault n cs).1 = 0) (hT : Tab w) (hw0 : 0 < w.heap.size) :
    Calls Tryd.prog 21 #[fm n ao cap cs] w fun e w' => ∃ en, Ends 0 (chOf n cs) ⟨keptOf cs, [], []⟩ en ∧ EndOk n cs en ∧ SolEnd w.heap.size e w' en ∧ Below w.heap.size w w' := by
  have hne : ((fault n cs).1 != 0) = false := by simp [hf]
  have hw1 : Below w.heap.size w ((w.alloc (.cells #[.int .i64 n, .slice ao cs.length cap] 31)).alloc (.cells #[.bool false, .slice none 0 0, .slice none 0 0] 45)) := ((Below.refl _ _).alloc (Nat.le_refl _) _).alloc (by simp) _
  have Bf := (blk_new w [.int .i64 n, .slice ao cs.length cap] 31).alloc (.cells #[.bool false, .slice none 0 0, .slice none 0 0] 45)
  have Br := blk_new (w.alloc (.cells #[.int .i64 n, .slice ao cs.length cap] 31)) [.bool false, .slice none 0 0, .slice none 0 0] 45
  rw [World.size_alloc] at Br
  dsimp only [List.toArray] at Bf Br
  unfold fm
  go_enter Tryd.func21, Tryd.ntmps21
  go_wp2_with fail
  generalize (w.alloc (.cells #[.int .i64 n, .slice ao cs.length cap] 31)).alloc (.cells #[.bool false, .slice none 0 0, .slice none 0 0] 45) = W0 at *
  have hc0 := (hc.below hw1 (Nat.le_refl _)).mono hw1.size
  refine (of_any n ao cap cs W0 hc0).mono ?_
  rintro e w1 ⟨rfl, hb1⟩
  have hbw1 : Below w.heap.size w w1 := hw1.trans (hb1.mono hw1.size)
  have Bf1 := Bf.below' hb1
  have Br1 := Br.below' hb1
  have hs1 := hbw1.size
  have hf1 := Bf1.lt
  have hr1 := Br1.lt
  have cA := answer_any (fun en => Ends 0 (chOf n cs) ⟨keptOf cs, [], []⟩ en ∧ EndOk n cs en) (fun S h => lt64 hg.vars h.2.1) 54 #[.pointer (some ⟨w.heap.size, 0, none⟩)] (enters_of Tryd.func54 (by kernel_rfl) rfl) w1 (hT.below hbw1 hw0) (by omega) (fun Bp W hbW hP hp1 hp2 => solve1_any n ao cap cs w.heap.size Bp W (Bf1.below' hbW) ((hc.below (hbw1.trans (hbW.mono hs1)) (Nat.le_refl _)).mono (by have := hbW.size; omega)) hg hP (by omega) hp2)
  clear hf Bf Br hc0 hw1 hb1
  have HBr : Hid (Blk w1 (w.heap.size + 1) 45 [.bool false, .slice none 0 0, .slice none 0 0]) := Br1
  have HBw : Hid _ := hbw1
  clear Bf1 Br1 hbw1
  go_wp2_with fail
  refine cA.mono ?_
  rintro e w3 ⟨en, ⟨hEn, hOk⟩, hRe, hb3⟩
  have hbw3 : Below w.heap.size w w3 := HBw.out.trans (hb3.mono hs1)
  have Br3 := HBr.out.below' hb3
  have r0 : w3.cell? ⟨w.heap.size + 1, 0, none⟩ = some (.bool false) := Br3.cell (i := 0) (by simp) undef
  have r1 : w3.cell? ⟨w.heap.size + 1, 1, none⟩ = some (.slice none 0 0) := Br3.cell (i := 1) (by simp) undef
  have r2 : w3.cell? ⟨w.heap.size + 1, 2, none⟩ = some (.slice none 0 0) := Br3.cell (i := 2) (by simp) undef
  have f0 := Br3.frozen 0
  have f1 := Br3.frozen 1
  have f2 := Br3.frozen 2
  have HEn : Hid _ := hEn
  have HOk : Hid _ := hOk
  clear hEn hOk cA
  cases en with
  | sat S =>
    obtain ⟨v, rfl, hO⟩ := hRe
    obtain ⟨xa, xc, hxs⟩ := hO.shape
    rw [List.length_map] at hxs
    subst hxs
    have hend := fun W2 h => sol_end (W2 := W2) (a := .bool true) (b := .slice xa (litsOf 64 S).length xc) (c := .slice none 0 0) Br3 (Nat.le_succ _) hbw3 h
    have HEd : Hid _ := hend
    have HX : Hid _ := hO
    clear hend hO Br3
    go_wp2
    obtain ⟨bR, hbF, htF⟩ := HEd.out _ rfl
    exact bodyPost_ret (v := .tuple #[.agg #[.bool true, .slice xa (litsOf 64 S).length xc, .slice none 0 0], .int .i64 0]) (by simp [results, Tryd.results21, go_sem, r0, r1, r2]) rfl ⟨.sat S, HEn.out, HOk.out, ⟨_, rfl, htF.own (Own.lower HX.out hs1) (by decide)⟩, hbF⟩
  | unsat F =>
    obtain ⟨vp, vs, rfl, hM⟩ := hRe
    have hlen : vs.length = F.length := by rw [hM.len]; simp
    obtain ⟨pa, pc, hps⟩ := hM.oe.shape
    rw [hlen] at hps
    have hMl := hM.lower hs1
    subst hps
    have hend := fun W2 h => sol_end (W2 := W2) (a := .bool false) (b := .slice none 0 0) (c := .slice pa F.length pc) Br3 (Nat.le_succ _) hbw3 h
    have HEd : Hid _ := hend
    have HM : Hid (MadeS w3 w.heap.size (.slice pa F.length pc) vs (F.map (litsOf 64))) := hMl
    clear hend hM hMl Br3
    go_wp2
    obtain ⟨bR, hbF, htF⟩ := HEd.out _ rfl
    exact bodyPost_ret (v := .tuple #[.agg #[.bool false, .slice none 0 0, .slice pa F.length pc], .int .i64 0]) (by simp [results, Tryd.results21, go_sem, r0, r1, r2]) rfl ⟨.unsat F, HEn.out, HOk.out, ⟨_, vs, rfl, HM.out.tchg htF (by decide) (by decide)⟩, hbF⟩
end Go.Proofs.YtlodenfdcckemaaDoor

/-
  The document's look at an assignment: the walks of holds and True.
-/

namespace Go.Proofs.YtlodenfdcckemaaDoor
open Go.RowKit

theorem modelOf_len (V S : Nat) : (modelOf V S).length = V := by simp [modelOf]
theorem modelOf_at {V S v : Nat} (h : v < V) : (modelOf V S).getD v 0 = ((v + 1 : Nat) : Int) ∨ (modelOf V S).getD v 0 = -((v + 1 : Nat) : Int) := by
  unfold modelOf
  rw [List.getD_eq_getElem?_getD, List.getElem?_map, List.getElem?_range h]
  simp only [Option.map_some, Option.getD_some]
  split
  · exact Or.inl rfl
  · exact Or.inr rfl

set_option maxHeartbeats 1000000 in
theorem holds_any (mo : Option Addr) (mc : Nat) (zs : List Int) (l : Int) (w : World) (B : Nat) (hz : IntsAt w B mo zs) (hl : IsLit zs.length l) (hn : zs.length ≤ 20) :
    Calls Tryd.prog 101 #[.slice mo zs.length mc, .int .i64 l] w fun e w' => e = .returned (.bool (zs.getD (pl l / 2) 0 == l)) ∧ w' = w := by
  obtain ⟨h0, h1, h2⟩ := hl
  obtain ⟨b, o, rfl, hb, hc⟩ := hz (by intro e; rw [e] at h1 h2; simp at h1 h2; omega)
  have hp : pl l / 2 < zs.length := by unfold pl; split <;> omega
  have hk := hc (pl l / 2) hp
  by_cases hl : 0 < l
  · have e : (l - 1) = ((pl l / 2 : Nat) : Int) := by unfold pl; rw [if_neg (by omega)]; omega
    have hl' : decide (0 < l) = true := by simp [hl]
    have i0 : (0 : Int) ≤ ((pl l / 2 : Nat) : Int) := by omega
    have i1 : ((pl l / 2 : Nat) : Int) < (zs.length : Int) := by omega
    have hw : IntKind.i64.wrap (l - 1) = ((pl l / 2 : Nat) : Int) := by rw [e]; exact wrapI (by omega) (by omega)
    generalize pl l / 2 = p at *
    generalize zs.getD p 0 = x at *
    clear hc e
    go_enter Tryd.func101, Tryd.ntmps101
    go_wp2
    go_ret
    exact ⟨rfl, rfl⟩
  · have e : (-l - 1) = ((pl l / 2 : Nat) : Int) := by unfold pl; rw [if_pos (by omega)]; omega
    have hl' : decide (0 < l) = false := by simp; omega
    have i0 : (0 : Int) ≤ ((pl l / 2 : Nat) : Int) := by omega
    have i1 : ((pl l / 2 : Nat) : Int) < (zs.length : Int) := by omega
    have hw0 : IntKind.i64.wrap (-l) = -l := wrapI (by omega) (by omega)
    have hw : IntKind.i64.wrap (-l - 1) = ((pl l / 2 : Nat) : Int) := by rw [e]; exact wrapI (by omega) (by omega)
    generalize pl l / 2 = p at *
    generalize zs.getD p 0 = x at *
    clear hc e
    go_enter Tryd.func101, Tryd.ntmps101
    go_wp2
    go_ret
    exact ⟨rfl, rfl⟩

/-- A literal of a clause so far holds. -/
def anyAt (zs c : List Int) (k : Nat) : Bool := (c.take k).any fun l => zs.getD (pl l / 2) 0 == l

theorem anyAt_succ {zs c : List Int} {k : Nat} (h : k < c.length) : anyAt zs c (k + 1) = (anyAt zs c k || (zs.getD (pl (c.getD k 0) / 2) 0 == c.getD k 0)) := by
  unfold anyAt
  rw [List.take_succ_eq_append_getElem h, List.any_append, getD_lt _ _ _ h]
  simp

set_option maxRecDepth 100000 in
set_option maxHeartbeats 2000000 in
theorem true_any (n S : Nat) (hn : n ≤ 20) (ao mo : Option Addr) (cap mc : Nat) (cs : List (List Int)) (w : World) (hc : ListsAt w w.heap.size ao cs) (hm : IntsAt w w.heap.size mo (modelOf n S)) (hlen : cs.length ≤ 200) (heach : ∀ c ∈ cs, c.length ≤ 20) (hlit : ∀ c ∈ cs, ∀ l ∈ c, IsLit n l) (hok : ∀ c ∈ cs, ∃ l ∈ c, IsLit n l ∧ (modelOf n S).getD (pl l / 2) 0 = l) :
    Calls Tryd.prog 84 #[.agg #[.int .i64 n, .slice ao cs.length cap], .slice mo n mc] w fun e w' => e = .returned (.bool true) ∧ Below w.heap.size w w' := by
  have hw1 := alloc_below w (.cells #[.int .i64 n, .slice ao cs.length cap] 31)
  have Bf := blk_new w [.int .i64 n, .slice ao cs.length cap] 31
  dsimp only [List.toArray] at Bf
  have hne : ((n : Int) != (n : Int)) = false := by simp
  have HAt : Hid (∀ v, v < n → (modelOf n S).getD v 0 = ((v + 1 : Nat) : Int) ∨ (modelOf n S).getD v 0 = -((v + 1 : Nat) : Int)) := fun v hv => modelOf_at hv
  have hml : (modelOf n S).length = n := modelOf_len n S
  go_enter Tryd.func84, Tryd.ntmps84
  go_wp2
  generalize w.alloc (.cells #[.int .i64 n, .slice ao cs.length cap] 31) = W at *
  have m0 : W.cell? ⟨w.heap.size, 0, none⟩ = some (.int .i64 n) := Bf.cell (i := 0) (by simp) undef
  have m1 : W.cell? ⟨w.heap.size, 1, none⟩ = some (.slice ao cs.length cap) := Bf.cell (i := 1) (by simp) undef
  have hcW := hc.below hw1 (Nat.le_refl _)
  have hmW := hm.below hw1 (Nat.le_refl _)
  generalize modelOf n S = zs at *
  clear hc hm Bf
  go_loop [5] (fun x => ∃ v : Nat, v ≤ n ∧ x = .int .i64 ((v : Int) + 1)) (fun x => n + 1 - (intOf x).toNat)
  case atStart => exact ⟨0, Nat.zero_le _, rfl⟩
  case round =>
    obtain ⟨v, hv, rfl⟩ := hrel
    by_cases hlt : v < n
    · obtain ⟨b, o, rfl, hb, hcell⟩ := hmW (by intro e; rw [e] at hml; simp at hml; omega)
      have hk := hcell v (by omega)
      have hat := HAt.out v hlt
      have i0 : (0 : Int) ≤ (v : Int) := by omega
      have i1 : (v : Int) < (n : Int) := by omega
      have hle : decide ((v : Int) + 1 ≤ (n : Int)) = true := by simp; omega
      generalize zs.getD v 0 = x at *
      clear hcell
      rcases hat with rfl | rfl
      · have e1 : (((v + 1 : Nat) : Int) != ((v : Int) + 1)) = false := by simp
        go_wp2
        go_round
        case rel => exact ⟨v + 1, by omega, by go_num⟩
        case measure => simp [intOf]; omega
      · have e1 : ((-((v + 1 : Nat) : Int)) != ((v : Int) + 1)) = true := by simp; omega
        have e2 : ((-((v + 1 : Nat) : Int)) != (-((v : Int) + 1))) = false := by simp
        go_wp2
        go_round
        case rel => exact ⟨v + 1, by omega, by go_num⟩
        case measure => simp [intOf]; omega
    · obtain rfl : v = n := by omega
      have hle : decide ((v : Int) + 1 ≤ (v : Int)) = false := by simp; omega
      go_wp2
      go_loop [6] (fun x => ∃ i : Nat, i ≤ cs.length ∧ x = .int .i64 i) (fun x => cs.length - (intOf x).toNat)
      case atStart => exact ⟨0, Nat.zero_le _, rfl⟩
      case round =>
        obtain ⟨i, hi, rfl⟩ := hrel
        by_cases hlt2 : i < cs.length
        · obtain ⟨b, o, rfl, hb, hcell⟩ := hcW (by intro e; rw [e] at hlt2; simp at hlt2)
          obtain ⟨A, Cc, hck, hin⟩ := hcell i hlt2
          have hmem : cs.getD i [] ∈ cs := mem_lists hlt2
          have hlc := hlit _ hmem
          have hec := heach _ hmem
          have HOk : Hid (anyAt zs (cs.getD i []) (cs.getD i []).length = true) := by
            obtain ⟨l, hl, -, e⟩ := hok _ hmem
            unfold Hid anyAt
            rw [List.take_length, List.any_eq_true]
            exact ⟨l, hl, by rw [e]; simp⟩
          generalize cs.getD i [] = c at *
          clear hcell hmem
          have i2 : (0 : Int) ≤ (i : Int) := by omega
          have i3 : (i : Int) < (cs.length : Int) := by omega
          go_wp2
          go_loop [7, 8] (fun y x => ∃ k : Nat, k ≤ c.length ∧ x = .int .i64 k ∧ y = .bool (anyAt zs c k)) (fun _ x => c.length - (intOf x).toNat)
          case atStart => exact ⟨0, Nat.zero_le _, rfl, by simp [anyAt]⟩
          case round =>
            obtain ⟨k, hk, rfl, rfl⟩ := hrel
            by_cases hlt3 : k < c.length
            · obtain ⟨b2, o2, rfl, hb2, hcell2⟩ := hin (by intro e; rw [e] at hlt3; simp at hlt3)
              have hx := hcell2 k hlt3
              have hxl : IsLit v (c.getD k 0) := hlc _ (by rw [getD_lt _ _ _ hlt3]; exact List.getElem_mem hlt3)
              have HSu : Hid (anyAt zs c (k + 1) = (anyAt zs c k || (zs.getD (pl (c.getD k 0) / 2) 0 == c.getD k 0))) := anyAt_succ hlt3
              have cH := holds_any mo mc zs (c.getD k 0) W w.heap.size hmW (by rw [hml]; exact hxl) (by omega)
              rw [hml] at cH
              generalize c.getD k 0 = l at *
              generalize (zs.getD (pl l / 2) 0 == l) = h at *
              have i4 : (0 : Int) ≤ (k : Int) := by omega
              have i5 : (k : Int) < (c.length : Int) := by omega
              clear hcell2
              cases hA : anyAt zs c k with
              | true =>
                rw [hA] at HSu
                clear hA
                go_wp2_with (go_at_call 101; refine cH.mono ?_; rintro e w' ⟨rfl, hw'⟩; obtain rfl := hw'.symm)
                go_round
                case rel => exact ⟨k + 1, by omega, by go_num, by rw [HSu.out]; rfl⟩
                case measure => simp [intOf]; omega
              | false =>
                rw [hA] at HSu
                clear hA
                go_wp2_with (go_at_call 101; refine cH.mono ?_; rintro e w' ⟨rfl, hw'⟩; obtain rfl := hw'.symm)
                go_round
                case rel => exact ⟨k + 1, by omega, by go_num, by rw [HSu.out]; rfl⟩
                case measure => simp [intOf]; omega
            · obtain rfl : k = c.length := by omega
              rw [HOk.out]
              go_wp2
              go_round
              case rel => exact ⟨i + 1, by omega, by go_num⟩
              case measure => simp [intOf]; omega
        · obtain rfl : i = cs.length := by omega
          go_wp2
          go_ret
          exact ⟨rfl, hw1⟩
end Go.Proofs.YtlodenfdcckemaaDoor

/-
  Two lists of the same numbers: they are found the same.
-/

namespace Go.Proofs.YtlodenfdcckemaaDoor
open Go.RowKit

set_option maxHeartbeats 400000 in
theorem same_any (ao bo : Option Addr) (ca cb : Nat) (zs : List Int) (w : World) (ha : IntsAt w w.heap.size ao zs) (hb : IntsAt w w.heap.size bo zs) (hl : zs.length ≤ 1000) :
    Calls Tryd.prog 16 #[.slice ao zs.length ca, .slice bo zs.length cb] w fun e w' => e = .returned (.bool true) ∧ ∃ n, w' = w.drewN n := by
  have hne : ((zs.length : Int) != (zs.length : Int)) = false := by simp
  go_enter Tryd.func16, Tryd.ntmps16
  go_wp2
  go_loopw [5] (fun i wr => ∃ (k n : Nat), k ≤ zs.length ∧ i = .int .i64 k ∧ wr = w.drewN n) (fun i _ => zs.length - (intOf i).toNat)
  case atStart => exact ⟨0, 0, by omega, rfl, rfl⟩
  case round =>
    obtain ⟨k, n, hk, rfl, rfl⟩ := hrel
    by_cases hlt : k < zs.length
    · obtain ⟨b, o, rfl, hbl, hca⟩ := ha (by intro h; rw [h] at hlt; simp at hlt)
      obtain ⟨b', o', rfl, hbl', hcb⟩ := hb (by intro h; rw [h] at hlt; simp at hlt)
      have h1 := hca k hlt
      have h2 := hcb k hlt
      generalize zs.getD k 0 = x at *
      have hnx : (x != x) = false := by simp
      clear hca hcb
      go_wp2
      go_quiet (fail)
      go_wp2
      go_roundw
      case rel => exact ⟨k + 1, n + nq, by omega, by go_num, rfl⟩
      case measure => simp [intOf]; omega
    · go_wp2
      go_ret
      exact ⟨rfl, n, rfl⟩

end Go.Proofs.YtlodenfdcckemaaDoor
