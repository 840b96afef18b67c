/-
  The walk of Closed.
-/
import Derived.Test.YtlodenfdcckemaaDoorKAppend
namespace Go.Proofs.YtlodenfdcckemaaDoor
open Go.RowKit

set_option maxRecDepth 100000 in
set_option maxHeartbeats 8000000 in
theorem closed_any (vars more : Int) (ao go : Option Addr) (cap gcap : Nat) (raw : List (List Int)) (given : List Int) (w : World) (hc : ListsAt w w.heap.size ao raw) (hF : Fits raw) (hgi : IntsAt w w.heap.size go given) (hgn : ∀ l ∈ given, -9223372036854775808 ≤ l ∧ l ≤ 9223372036854775807) (hv0 : -9223372036854775808 ≤ vars) (hv1 : vars ≤ 9223372036854775807) (hx0 : -9223372036854775808 ≤ more) (hx1 : more ≤ 9223372036854775807) (hT : Tab w) (hw0 : 0 < w.heap.size) :
    Calls Tryd.prog 7 #[.int .i64 vars, .slice ao raw.length cap, .slice go given.length gcap, .int .i64 more] w fun e w' => e = .returned (.bool true) ∧ Below w.heap.size w w' := by
  have hr := pickOf_range vars (show (0 : Int) < ((8 : Nat) : Int) by omega)
  obtain ⟨V, hV⟩ : ∃ V : Nat, rawV vars ((8 : Nat) : Int) = V := ⟨(rawV vars ((8 : Nat) : Int)).toNat, by unfold rawV; omega⟩
  have hV1 : 1 ≤ V := by unfold rawV at hV; omega
  have hV2 : V ≤ 8 := by unfold rawV at hV; omega
  clear hr
  have HGood : Hid (Good V (rawC V raw)) := rawC_good hV1 (by omega) raw
  obtain ⟨i0, hi, hz0, hz1, hz2⟩ := info_parts Tryd.info3
  go_enter Tryd.func7, Tryd.ntmps7
  go_wp2_with fail
  refine (known_any w hT hw0).mono ?_
  rintro e w1 ⟨rfl, hb1⟩
  have hs1 := hb1.size
  have cf := kformula_any vars 8 ao cap raw w1 ((hc.below hb1 (Nat.le_refl _)).mono hs1) hF hv0 hv1 (by omega) (by omega)
  rw [hV] at cf
  go_wp2_with (go_at_call 26; refine cf.mono ?_; rintro e w2 ⟨v, vs, rfl, hM, hb2⟩; obtain ⟨ve, vcap, rfl, hL2⟩ := hM.lists)
  clear cf hV
  have b3 := alloc_below w2 (.cells #[.int .i64 V, .slice ve (rawC V raw).length vcap] 31)
  have B3 : Blk (w2.alloc (.cells #[.int .i64 V, .slice ve (rawC V raw).length vcap] 31)) w2.heap.size 31 [.int .i64 V, .slice ve (rawC V raw).length vcap] := blk_new w2 [.int .i64 V, .slice ve (rawC V raw).length vcap] 31
  have s3 := alloc_size w2 (.cells #[.int .i64 V, .slice ve (rawC V raw).length vcap] 31)
  have HM : Hid (MadeL (w2.alloc (.cells #[.int .i64 V, .slice ve (rawC V raw).length vcap] 31)) w1.heap.size (.slice ve (rawC V raw).length vcap) vs (rawC V raw)) := hM.below' b3
  generalize w2.alloc (.cells #[.int .i64 V, .slice ve (rawC V raw).length vcap] 31) = w3 at *
  have hs2 := hb2.size
  have HB3 : Hid (Below w.heap.size w w3) := hb1.trans ((hb2.mono hs1).trans (b3.mono (by omega)))
  have hs3 : w.heap.size ≤ w3.heap.size := by omega
  have HF3 : Hid (Blk w3 w2.heap.size 31 [.int .i64 V, .slice ve (rawC V raw).length vcap]) := B3
  have hFl : w2.heap.size < w3.heap.size := by omega
  generalize w2.heap.size = Fb at *
  have HGi : Hid (IntsAt w3 w.heap.size go given) := hgi.below HB3.out (Nat.le_refl _)
  have HGn : Hid (∀ l ∈ given, -9223372036854775808 ≤ l ∧ l ≤ 9223372036854775807) := hgn
  clear hM hL2 hb2 hb1 b3 B3 s3 hs1 hs2 hc hgi hgn
  generalize hC : rawC V raw = C at *
  clear hC
  have HT3 : Hid (Tab w3) := hT.below HB3.out hw0
  have hw3 : 0 < w3.heap.size := by omega
  clear hT hF
  go_loopw [11, 12] (fun vg x wr => ∃ (j : Nat), j ≤ given.length ∧ j ≤ 4 ∧ x = .int .i64 j ∧ Hid (Own wr w3.heap.size 3 vg (ints ((given.take j).map fun c => litBy c V))) ∧ Hid (Below w3.heap.size w3 wr)) (fun _ x _ => 4 - (intOf x).toNat)
  case atStart => exact ⟨0, Nat.zero_le _, Nat.zero_le _, rfl, Own.nil _ _ _, Below.refl _ _⟩
  case round =>
    obtain ⟨j, hj, hj4, rfl, HO, HBq⟩ := hrel
    have hsq := HBq.out.size
    have HEnd : Hid ((¬ j < given.length ∨ ¬ j < 4) → given.take j = given.take 4) := by
      intro h
      by_cases h4 : j = 4
      · rw [h4]
      · have : j = given.length := by omega
        rw [this, List.take_length, List.take_of_length_le (by omega)]
    by_cases hlj : j < given.length
    by_cases hlj4 : j < 4
    · have hVc : wr.cell? ⟨Fb, 0, none⟩ = some (.int .i64 V) := (HF3.out.below' HBq.out).cell (i := 0) (by simp) undef
      have hinq := HGi.out.below HBq.out hs3
      obtain ⟨b', o', rfl, hb', hcell'⟩ := hinq (by intro h; rw [h] at hlj; simp at hlj)
      have hcx := hcell' j hlj
      have hmem : given.getD j 0 ∈ given := by rw [getD_lt _ _ _ hlj]; exact List.getElem_mem hlj
      obtain ⟨hy0, hy1⟩ := HGn.out _ hmem
      have HRT : Hid (given.take (j + 1) = given.take j ++ [given.getD j 0]) := take_succ_getD given j hlj
      generalize given.getD j 0 = x at hcx hy0 hy1 HRT
      clear hcell' hinq hmem
      have c2 := kliteral_any x V
      generalize hy : litBy x V = y at c2
      have HY : Hid (litBy x V = y) := hy
      clear hy
      have hjl : ((given.take j).map fun c => litBy c V).length = j := by simp; omega
      have hcx3 : wr.drew.cell? ⟨b', o' + j, none⟩ = _ := hcx
      have hVc3 : wr.drew.cell? ⟨Fb, 0, none⟩ = _ := hVc
      have OA : Own (wr.alloc (.cells #[.int .i64 y] 3)).drew w3.heap.size 3 u11 (ints ((given.take j).map fun c => litBy c V)) := (HO.out.alloc (.cells #[.int .i64 y] 3)).chg (S := fun _ => False) (Chg.drew (Chg.refl _ _)) (fun _ _ h => h)
      have BA0 := alloc_below wr (.cells #[.int .i64 y] 3)
      have BA : Below wr.heap.size wr (wr.alloc (.cells #[.int .i64 y] 3)).drew := ⟨BA0.os, BA0.tape, BA0.output, BA0.size, BA0.block⟩
      have NA : Blk (wr.alloc (.cells #[.int .i64 y] 3)).drew wr.heap.size 3 [.int .i64 y] := (blk_new wr [.int .i64 y] 3).drew
      have SA : (wr.alloc (.cells #[.int .i64 y] 3)).drew.heap.size = wr.heap.size + 1 := alloc_size wr _
      have hbw : b' < wr.heap.size := by omega
      have hone : ∀ u ∈ [Value.int .i64 y], u.oneCell' = true := by intro u hu; simp at hu; rw [hu]; rfl
      have OA' : (wr.alloc (.cells #[.int .i64 y] 3)).drew.ownsRow w3.heap.size 3 1 u11 j (ints ((given.take j).map fun c => litBy c V)) := by
        have := OA.own
        rwa [List.length_map, hjl] at this
      have hlow : ∀ q, q < w3.heap.size → u11.ownBlock ≠ some q := fun q hq e => by have := (OA.lt e).1; omega
      have hb'3 : b' < w3.heap.size := by omega
      have hFq1 : Fb < wr.heap.size := by omega
      go_wp2
      go_region_held3 (fun q => q.cell? ⟨b', o' + j, none⟩ = some (.int .i64 x) ∧ q.cell? ⟨Fb, 0, none⟩ = some (.int .i64 V))
        (first | exact ⟨k2, k3⟩ | exact ⟨hcx3, hVc3⟩ | exact ⟨(BA.cell (p := ⟨b', o' + j, none⟩) hbw).trans hcx, (BA.cell (p := ⟨Fb, 0, none⟩) hFq1).trans hVc⟩ | go_keep)
        (first
          | (go_at_call 31; refine (c2 _ hy0 hy1 hV1 (by omega)).mono ?_; rintro e q ⟨rfl, rfl⟩)
          | (refine step_append_lies _ (by rfl) (.tmp 47) (.tmp 55) 24 (by rfl) w3.heap.size 3 i0 (.int .i64 0) 1 8 Tryd.underlying24 hi hz0 hz1 hz2 (by rfl) (by decide) u11 j (ints ((given.take j).map fun c => litBy c V)) (by rfl) (by exact OA') ⟨wr.heap.size, 0, none⟩ 1 1 [.int .i64 y] (by rfl) (by rfl) (by exact World.news_of_block NA) hone (by decide) (by unfold maxLen; omega) (by omega) (by rw [SA]; omega) (wr.heap.size + 1) SA ?_; intro g5 cap5 w5 hO5 hgr5 hat5 hlt5; have k2 : w5.cell? ⟨b', o' + j, none⟩ = some (.int .i64 x) := (World.cell?_of_block (w := (wr.alloc (.cells #[.int .i64 y] 3)).drew) (hgr5.block b' (by rw [SA]; omega) (fun e => hlow b' hb'3 e.symm))).trans ((BA.cell (p := ⟨b', o' + j, none⟩) hbw).trans hcx); have k3 : w5.cell? ⟨Fb, 0, none⟩ = some (.int .i64 V) := (World.cell?_of_block (w := (wr.alloc (.cells #[.int .i64 y] 3)).drew) (hgr5.block Fb (by rw [SA]; omega) (fun e => hlow Fb hFl e.symm))).trans ((BA.cell (p := ⟨Fb, 0, none⟩) hFq1).trans hVc)))
      go_wp2
      go_roundw
      case rel =>
        refine ⟨j + 1, by omega, by omega, by go_num, ?_, ?_⟩
        · have e : ints ((given.take (j + 1)).map fun c => litBy c V) = ints ((given.take j).map fun c => litBy c V) ++ [.int .i64 y] := by rw [HRT.out, ← HY.out]; simp
          rw [e]
          exact own_of hO5
        · refine HBq.out.trans ((BA.mono hsq).trans ⟨hgr5.os, hgr5.tape, hgr5.output, hgr5.size, fun q hq => hgr5.block q (by rw [SA]; omega) (fun e => hlow q hq e.symm)⟩)
      case measure => simp [intOf]; omega
    all_goals
      have HOv := HO.out
      rw [HEnd.out (by omega)] at HOv
      have HOg : Hid (Own wr w3.heap.size 3 u11 (ints (rowBy V given))) := HOv
      have HGl : Hid (∀ l ∈ rowBy V given, IsLit V l) := rowBy_lits hV1 given
      have hgs4 := rowBy_len V given
      clear HOv HEnd HO
      generalize rowBy V given = gs at *
      obtain ⟨ga, gc, rfl, hIg⟩ := HOg.out.ints (Nat.le_refl _)
      have c0 : wr.cell? ⟨Fb, 0, none⟩ = some (.int .i64 V) := (HF3.out.below' HBq.out).cell (i := 0) (by simp) undef
      have c1 : wr.cell? ⟨Fb, 1, none⟩ = some (.slice ve C.length vcap) := (HF3.out.below' HBq.out).cell (i := 1) (by simp) undef
      obtain ⟨a', c', e', hL⟩ := (HM.out.below' HBq.out).lists
      simp only [Value.slice.injEq] at e'
      obtain ⟨rfl, -, rfl⟩ := e'
      have cp := propagate_all V ve ga vcap gc C gs wr hL hIg HGood.out (fault_good HGood.out) (by omega) (HT3.out.below HBq.out hw3) (by omega)
      clear hL
      go_wp2_with (first | (go_at_call 13; refine cp.mono ?_; rintro e w4 ⟨v4, zs, cc, xx, rfl, hO4, hP, hb4⟩; obtain rfl := hP.ok HGl.out; obtain ⟨la, lc, rfl, hIl⟩ := hO4.ints (Nat.le_refl _)))
      clear cp
      have hs4 := hb4.size
      have HB4 : Hid (Below w3.heap.size w3 w4) := HBq.out.trans (hb4.mono hsq)
      have c0 : w4.cell? ⟨Fb, 0, none⟩ = some (.int .i64 V) := (HF3.out.below' HB4.out).cell (i := 0) (by simp) undef
      have c1 : w4.cell? ⟨Fb, 1, none⟩ = some (.slice ve C.length vcap) := (HF3.out.below' HB4.out).cell (i := 1) (by simp) undef
      obtain ⟨a', c', e', hL⟩ := (HM.out.below' HB4.out).lists
      simp only [Value.slice.injEq] at e'
      obtain ⟨rfl, -, rfl⟩ := e'
      have HL4 : Hid (ListsAt w4 w4.heap.size ve C) := hL
      have HG4 : Hid (IntsAt w4 w4.heap.size ga gs) := (hIg.below hb4 (Nat.le_refl _)).mono hs4
      have HZ4 : Hid (IntsAt w4 w4.heap.size la zs) := hIl
      have HP : Hid (PRes V C gs zs cc 0) := hP
      have hzl := hP.len (show V ≤ 20 by omega)
      have HOz : Hid (Own w4 wr.heap.size 3 (.slice la zs.length lc) (ints zs)) := hO4
      clear hL hIg hIl hP hO4
      obtain ⟨HW, hN256⟩ := shl_small hV2
      generalize (2 ^ V : Nat) = N at *
      have HCl : Hid (∀ c ∈ C, ∀ l ∈ c, IsLit V l) := fun c hc l hl => HGood.out.lits c hc l hl
      have HZl : Hid (∀ l ∈ zs, IsLit V l) := HP.out.lits HGl.out
      have cm := fun b (hb : b < 9223372036854775808) => makes_any V (by omega) b hb ve vcap C w4 HL4.out HCl.out (by have := HGood.out.many; omega) (fun c hc => by have := HGood.out.long c hc; omega)
      have HHold : Hid (∀ b, makesB b C = true → gs.all (tIn b) = true → cc = false ∧ ∀ l ∈ zs, tIn b l = true) := fun b h1 h2 => HP.out.holds HGl.out HCl.out h1 h2
      go_loop [16] (fun x => ∃ b : Nat, b ≤ N ∧ x = .int .i64 b) (fun x => N - (intOf x).toNat)
      case atStart => exact ⟨0, Nat.zero_le _, rfl⟩
      case round =>
        obtain ⟨b, hb, rfl⟩ := hrel
        by_cases hlt : b < N
        · have c2 := cm b (by omega)
          clear cm
          go_wp2_with (first | (go_at_call 32; refine c2.mono ?_; rintro e w' ⟨rfl, hw'⟩; obtain rfl := hw'.symm))
          go_loop [17, 18] (fun m x => ∃ j : Nat, j ≤ gs.length ∧ x = .int .i64 j ∧ m = .bool (makesB b C && (gs.take j).all (tIn b))) (fun _ x => gs.length - (intOf x).toNat)
          case atStart => exact ⟨0, Nat.zero_le _, rfl, by simp⟩
          case round =>
            obtain ⟨j, hj, rfl, rfl⟩ := hrel
            by_cases hlj : j < gs.length
            · obtain ⟨b1, o1, rfl, hb1, hcell1⟩ := HG4.out (by intro h; rw [h] at hlj; simp at hlj)
              have hcx := hcell1 j hlj
              have hx := HGl.out (gs.getD j 0) (by rw [getD_lt _ _ _ hlj]; exact List.getElem_mem hlj)
              have HA : Hid _ := all_take_succ (tIn b) gs j hlj
              generalize gs.getD j 0 = x at hcx hx HA
              obtain ⟨hx0, hx1, hx2⟩ := hx
              have c3 := trueIn_any b x w4 (by omega) hx0 (by omega) (by omega)
              clear hcell1 hx0
              have HB2 : Hid ((makesB b C && (gs.take (j + 1)).all (tIn b)) = ((makesB b C && (gs.take j).all (tIn b)) && tIn b x)) := by unfold Hid; rw [HA.out, Bool.and_assoc]
              generalize (makesB b C && (gs.take j).all (tIn b)) = acc at *
              generalize tIn b x = t at *
              cases acc with
              | true =>
                go_wp2_with (go_at_call 33; refine c3.mono ?_; rintro e w' ⟨rfl, hw'⟩; obtain rfl := hw'.symm)
                go_round
                case rel => exact ⟨j + 1, by omega, by go_num, by rw [HB2.out]; rfl⟩
                case measure => simp [intOf]; omega
              | false =>
                go_wp2_with (go_at_call 33; refine c3.mono ?_; rintro e w' ⟨rfl, hw'⟩; obtain rfl := hw'.symm)
                go_round
                case rel => exact ⟨j + 1, by omega, by go_num, by rw [HB2.out]; rfl⟩
                case measure => simp [intOf]; omega
            · obtain rfl : j = gs.length := by omega
              rw [List.take_length]
              cases hacc : (makesB b C && gs.all (tIn b)) with
              | true =>
                rw [Bool.and_eq_true] at hacc
                obtain ⟨rfl, hall⟩ := HHold.out b hacc.1 hacc.2
                have HAll : Hid (∀ l ∈ zs, tIn b l = true) := hall
                clear hall hacc
                go_wp2
                go_loop [20] (fun x => ∃ j : Nat, j ≤ zs.length ∧ x = .int .i64 j) (fun x => zs.length - (intOf x).toNat)
                case atStart => exact ⟨0, Nat.zero_le _, rfl⟩
                case round =>
                  obtain ⟨j, hj, rfl⟩ := hrel
                  by_cases hlj : j < zs.length
                  · obtain ⟨b1, o1, rfl, hb1, hcell1⟩ := HZ4.out (by intro h; rw [h] at hlj; simp at hlj)
                    have hcx := hcell1 j hlj
                    have hmem : zs.getD j 0 ∈ zs := by rw [getD_lt _ _ _ hlj]; exact List.getElem_mem hlj
                    have hx := HZl.out _ hmem
                    have ht := HAll.out _ hmem
                    generalize zs.getD j 0 = x at hcx hx ht
                    obtain ⟨hx0, hx1, hx2⟩ := hx
                    have c3 := trueIn_any b x w4 (by omega) hx0 (by omega) (by omega)
                    rw [ht] at c3
                    clear hcell1 hx0 hmem
                    go_wp2_with (go_at_call 33; refine c3.mono ?_; rintro e w' ⟨rfl, hw'⟩; obtain rfl := hw'.symm)
                    go_round
                    case rel => exact ⟨j + 1, by omega, by go_num⟩
                    case measure => simp [intOf]; omega
                  · go_wp2
                    go_round
                    case rel => exact ⟨b + 1, by omega, by go_num⟩
                    case measure => simp [intOf]; omega
              | false =>
                clear hacc
                go_wp2
                go_loop [20] (fun x => x = .int .i64 0) (fun _ => 0)
                case atStart => rfl
                case round =>
                  obtain rfl := hrel
                  by_cases hlj : 0 < zs.length
                  · go_wp2
                    go_round
                    case rel => exact ⟨b + 1, by omega, by go_num⟩
                    case measure => simp [intOf]; omega
                  · go_wp2
                    go_round
                    case rel => exact ⟨b + 1, by omega, by go_num⟩
                    case measure => simp [intOf]; omega
        · clear cm HHold
          cases cc with
          | true =>
            have hzs := HP.out.conf.1
            subst hzs
            have HBend : Hid (Below w.heap.size w w4) := HB3.out.trans (HB4.out.mono hs3)
            go_wp2
            go_ret
            exact ⟨rfl, HBend.out⟩
          | false =>
            go_wp2
            have HIn : Hid (∀ l ∈ gs, l ∈ zs) := fun l hl => ((HP.out.free HGl.out).2.1 l).2 (.given hl)
            go_loop [22] (fun x => ∃ j : Nat, j ≤ gs.length ∧ x = .int .i64 j) (fun x => gs.length - (intOf x).toNat)
            case atStart => exact ⟨0, Nat.zero_le _, rfl⟩
            case round =>
              obtain ⟨j, hj, rfl⟩ := hrel
              by_cases hlj : j < gs.length
              · obtain ⟨b1, o1, rfl, hb1, hcell1⟩ := HG4.out (by intro h; rw [h] at hlj; simp at hlj)
                have hcx := hcell1 j hlj
                have hmem : gs.getD j 0 ∈ gs := by rw [getD_lt _ _ _ hlj]; exact List.getElem_mem hlj
                have hin := HIn.out _ hmem
                generalize gs.getD j 0 = x at hcx hin
                have c3 := kcontains_any la lc zs x w4 HZ4.out (by omega)
                rw [decide_eq_true hin] at c3
                clear hcell1 hmem hin
                go_wp2_with (go_at_call 34; refine c3.mono ?_; rintro e w' ⟨rfl, hw'⟩; obtain rfl := hw'.symm)
                go_round
                case rel => exact ⟨j + 1, by omega, by go_num⟩
                case measure => simp [intOf]; omega
              · have cp2 := propagate_all V ve la vcap lc C zs w4 HL4.out HZ4.out HGood.out (fault_good HGood.out) (by omega) (HT3.out.below HB4.out hw3) (by omega)
                go_wp2_with (first | (go_at_call 13; refine cp2.mono ?_; rintro e w5 ⟨v5, zs5, cc5, xx5, rfl, hO5, hP5, hb5⟩; obtain ⟨hz5, rfl, rfl⟩ := HP.out.again HGl.out hP5; obtain rfl := hz5.symm; obtain ⟨ra, rc, rfl, hI5⟩ := hO5.ints (Nat.le_refl _)))
                clear cp2
                have b6 := alloc_below w5 (.cells #[.slice la zs.length lc] 24)
                have B6 : Blk (w5.alloc (.cells #[.slice la zs.length lc] 24)) w5.heap.size 24 [.slice la zs.length lc] := blk_new w5 [.slice la zs.length lc] 24
                have s6 := alloc_size w5 (.cells #[.slice la zs.length lc] 24)
                generalize w5.alloc (.cells #[.slice la zs.length lc] 24) = x1 at *
                have b7 := alloc_below x1 (.cells #[.slice ra zs.length rc] 24)
                have B7 : Blk (x1.alloc (.cells #[.slice ra zs.length rc] 24)) x1.heap.size 24 [.slice ra zs.length rc] := blk_new x1 [.slice ra zs.length rc] 24
                replace B6 := B6.below' b7
                generalize x1.alloc (.cells #[.slice ra zs.length rc] 24) = x2 at *
                rw [s6] at B7
                have hx2 : Below w5.heap.size w5 x2 := b6.trans (b7.mono (by omega))
                have hx4 : Below w4.heap.size w4 x2 := hb5.trans (hx2.mono hb5.size)
                have I1 : IntsAt x2 x2.heap.size la zs := (HZ4.out.below hx4 (Nat.le_refl _)).mono hx4.size
                have I2 : IntsAt x2 x2.heap.size ra zs := (hI5.below hx2 (Nat.le_refl _)).mono hx2.size
                have L1 : ListsAt x2 x2.heap.size (some ⟨w5.heap.size, 0, none⟩) [zs] := lists_at B6 rfl (fun i hi => by
                  match i, hi with
                  | 0, _ => exact ⟨_, _, rfl, I1⟩
                  | n + 1, h => exact absurd h (by simp))
                have L2 : ListsAt x2 x2.heap.size (some ⟨w5.heap.size + 1, 0, none⟩) [zs] := lists_at B7 rfl (fun i hi => by
                  match i, hi with
                  | 0, _ => exact ⟨_, _, rfl, I2⟩
                  | n + 1, h => exact absurd h (by simp))
                have csame := ksame_any _ _ 1 1 [zs] x2 L1 L2 (by simp) (by intro c hc; simp at hc; subst hc; omega)
                refine csame.mono ?_
                rintro e u6 ⟨rfl, n6, hu6⟩
                have hW4 : Below w4.heap.size w4 u6 := by rw [hu6]; exact below_drewN hx4 _
                clear csame L1 L2 I1 I2 b6 b7 B6 B7 s6 hx2 hx4 hu6 hI5 hO5 hP5 hb5 c0 c1
                have HB6 : Hid (Below w3.heap.size w3 u6) := HB4.out.trans (hW4.mono HB4.out.size)
                have c0 : u6.cell? ⟨Fb, 0, none⟩ = some (.int .i64 V) := (HF3.out.below' HB6.out).cell (i := 0) (by simp) undef
                have c1 : u6.cell? ⟨Fb, 1, none⟩ = some (.slice ve C.length vcap) := (HF3.out.below' HB6.out).cell (i := 1) (by simp) undef
                have hs6 := HB6.out.size
                have hFu : Fb < u6.heap.size := by omega
                have OG6 : Own u6 w3.heap.size 3 (.slice ga gs.length gc) (ints gs) := (HOg.out.chg (S := fun _ => False) (Chg.of_below hb4) (fun _ _ h => h)).chg (S := fun _ => False) (Chg.of_below hW4) (fun _ _ h => h)
                have c2 := kliteral_any more V
                have hyl := litBy_lit more hV1
                generalize litBy more V = y at c2 hyl
                have HYl : Hid (IsLit V y) := hyl
                clear hyl
                have HGl' : Hid (∀ l ∈ gs ++ [y], IsLit V l) := by
                  intro l hl
                  rcases List.mem_append.1 hl with h | h
                  · exact HGl.out l h
                  · rw [List.mem_singleton] at h; rw [h]; exact HYl.out
                have cp3 : ∀ (w7 : World) (g7 cap7 : Nat), Below w3.heap.size w3 w7 → Own w7 u6.heap.size 3 (.slice (some ⟨g7, 0, none⟩) (gs.length + 1) cap7) (ints gs ++ [.int .i64 y]) →
                    Calls Tryd.prog 13 #[.agg #[.int .i64 V, .slice ve C.length vcap], .slice (some ⟨g7, 0, none⟩) (gs.length + 1) cap7] w7 fun e w' => ∃ v zs c x, e = .returned (.tuple #[v, .bool c, .int .i64 x]) ∧ Own w' w7.heap.size 3 v (ints zs) ∧ PRes V C (gs ++ [y]) zs c x ∧ Below w7.heap.size w7 w' := by
                  intro w7 g7 cap7 hb7 hO7
                  have e7 : ints gs ++ [.int .i64 y] = ints (gs ++ [y]) := by simp
                  rw [e7] at hO7
                  obtain ⟨A, Cc, he, hI⟩ := hO7.ints (Nat.le_refl _)
                  simp only [Value.slice.injEq] at he
                  obtain ⟨rfl, -, rfl⟩ := he
                  obtain ⟨a', c', e', hL⟩ := (HM.out.below' hb7).lists
                  simp only [Value.slice.injEq] at e'
                  obtain ⟨rfl, -, rfl⟩ := e'
                  have h3 := propagate_all V ve (some ⟨g7, 0, none⟩) vcap cap7 C (gs ++ [y]) w7 hL hI HGood.out (fault_good HGood.out) (by simp; omega) (HT3.out.below hb7 hw3) (by have := hb7.size; omega)
                  have el : (gs ++ [y]).length = gs.length + 1 := by simp
                  rwa [el] at h3
                have d0 : u6.drew.cell? ⟨Fb, 0, none⟩ = some (.int .i64 V) := c0
                have d1 : u6.drew.cell? ⟨Fb, 1, none⟩ = some (.slice ve C.length vcap) := c1
                have BE := alloc_below u6 (.cells #[] 3)
                have a0 : (u6.alloc (.cells #[] 3)).drew.cell? ⟨Fb, 0, none⟩ = some (.int .i64 V) := (BE.cell (p := ⟨Fb, 0, none⟩) hFu).trans c0
                have a1 : (u6.alloc (.cells #[] 3)).drew.cell? ⟨Fb, 1, none⟩ = some (.slice ve C.length vcap) := (BE.cell (p := ⟨Fb, 1, none⟩) hFu).trans c1
                have OE : (u6.alloc (.cells #[] 3)).drew.ownsRow u6.heap.size 3 1 (.slice (some ⟨u6.heap.size, 0, none⟩) 0 0) 0 [] := World.ownsRow_lit u6 #[] 0 (Nat.le_refl _) (by decide) rfl
                have OG0 : Own (u6.alloc (.cells #[] 3)).drew w3.heap.size 3 (.slice ga gs.length gc) (ints gs) := (OG6.alloc (.cells #[] 3)).chg (S := fun _ => False) (Chg.drew (Chg.refl _ _)) (fun _ _ h => h)
                have SE : (u6.alloc (.cells #[] 3)).drew.heap.size = u6.heap.size + 1 := alloc_size u6 _
                have hone0 : ∀ u ∈ ints gs, u.oneCell' = true := by intro u hu; obtain ⟨z, _, rfl⟩ := List.mem_map.1 hu; rfl
                have hone : ∀ u ∈ [Value.int .i64 y], u.oneCell' = true := by intro u hu; simp at hu; rw [hu]; rfl
                go_wp2_with fail
                go_region_held3 (fun q => q.cell? ⟨Fb, 0, none⟩ = some (.int .i64 V) ∧ q.cell? ⟨Fb, 1, none⟩ = some (.slice ve C.length vcap))
                  (first | exact ⟨k80, k81⟩ | exact ⟨k70, k71⟩ | exact ⟨k60, k61⟩ | exact ⟨((alloc_below w6 _).cell (p := ⟨Fb, 0, none⟩) hF6).trans k60, ((alloc_below w6 _).cell (p := ⟨Fb, 1, none⟩) hF6).trans k61⟩ | exact ⟨a0, a1⟩ | exact ⟨d0, d1⟩ | exact ⟨c0, c1⟩ | go_keep)
                  (first
                    | (go_at_call 31; refine (c2 _ hx0 hx1 hV1 (by omega)).mono ?_; rintro e q ⟨rfl, hq⟩; obtain rfl := hq.symm)
                    | (go_at_call 13; refine (cp3 w7 g7 cap7 BW7 O7).mono ?_; rintro e w8 ⟨v8, zs8, cc8, xx8, rfl, hO8, hP8, hb8⟩; obtain rfl := hP8.ok HGl'.out; obtain ⟨wa, wc, rfl, hI8⟩ := hO8.ints (Nat.le_refl _); have k80 : w8.cell? ⟨Fb, 0, none⟩ = some (.int .i64 V) := (hb8.cell (p := ⟨Fb, 0, none⟩) hF7).trans k70; have k81 : w8.cell? ⟨Fb, 1, none⟩ = some (.slice ve C.length vcap) := (hb8.cell (p := ⟨Fb, 1, none⟩) hF7).trans k71)
                    | (refine step_append_any (by rfl) (.tmp 150) (.tmp 151) 24 (by rfl) u6.heap.size 3 i0 (.int .i64 0) 8 Tryd.underlying24 hi hz0 hz1 hz2 (by rfl) (.slice (some ⟨u6.heap.size, 0, none⟩) 0 0) 0 [] (by rfl) (by exact OE) w3.heap.size (.slice ga gs.length gc) gs.length (ints gs) (by rfl) (by exact OG0) (by simp) hone0 (by unfold maxLen; omega) (by omega) (by rw [SE]; omega) ?_; intro v6 w6 hO6 hgr6; have BW6 : Below u6.heap.size u6 w6 := grown_new rfl hgr6; have O6 : Own w6 u6.heap.size 3 v6 (ints gs) := own_any hO6; have hF6 : Fb < w6.heap.size := Nat.lt_of_lt_of_le hFu BW6.size; have k60 : w6.cell? ⟨Fb, 0, none⟩ = some (.int .i64 V) := (BW6.cell (p := ⟨Fb, 0, none⟩) hFu).trans c0; have k61 : w6.cell? ⟨Fb, 1, none⟩ = some (.slice ve C.length vcap) := (BW6.cell (p := ⟨Fb, 1, none⟩) hFu).trans c1)
                    | (refine step_append_lies _ (by rfl) (.tmp 152) (.tmp 157) 24 (by rfl) u6.heap.size 3 i0 (.int .i64 0) 1 8 Tryd.underlying24 hi hz0 hz1 hz2 (by rfl) (by decide) v6 gs.length (ints gs) (by rfl) (by have h := (O6.alloc (.cells #[.int .i64 y] 3)).own; rwa [List.length_map] at h) ⟨w6.heap.size, 0, none⟩ 1 1 [.int .i64 y] (by rfl) (by rfl) (by exact World.news_of_block (blk_new w6 [.int .i64 y] 3)) hone (by decide) (by unfold maxLen; omega) (by omega) (by rw [alloc_size]; have := BW6.size; omega) (w6.heap.size + 1) (alloc_size w6 _) ?_; intro g7 cap7 w7 hO7 hgr7 hat7 hlt7; have BU7 : Below u6.heap.size u6 w7 := grown_more (fun q e => (O6.lt e).1) BW6 hgr7; have BW7 : Below w3.heap.size w3 w7 := HB6.out.trans (BU7.mono hs6); have O7 := own_of hO7; have hF7 : Fb < w7.heap.size := Nat.lt_of_lt_of_le hFu BU7.size; have k70 : w7.cell? ⟨Fb, 0, none⟩ = some (.int .i64 V) := (BU7.cell (p := ⟨Fb, 0, none⟩) hFu).trans c0; have k71 : w7.cell? ⟨Fb, 1, none⟩ = some (.slice ve C.length vcap) := (BU7.cell (p := ⟨Fb, 1, none⟩) hFu).trans c1))
                have hs46 := hW4.size
                have hB8 : Below w4.heap.size w4 w8 := hW4.trans ((BU7.mono hs46).trans (hb8.mono (Nat.le_trans hs46 BU7.size)))
                have HZ8 : Hid (IntsAt w8 w8.heap.size la zs) := (HZ4.out.below hB8 (Nat.le_refl _)).mono hB8.size
                have HBend : Hid (Below w.heap.size w w8) := HB3.out.trans ((HB4.out.mono hs3).trans (hB8.mono (Nat.le_trans hs3 HB4.out.size)))
                have HP8 : Hid (PRes V C (gs ++ [y]) zs8 cc8 0) := hP8
                have h8l := hP8.len (show V ≤ 20 by omega)
                have HI8 : Hid (IntsAt w8 w8.heap.size wa zs8) := hI8
                clear hP8 hI8 hO8 hb8 hB8 BU7 BW7 O7 hO7 hgr7 hat7 k70 k71 k60 k61 hO6 hgr6 BW6 O6 OE OG0 OG6 SE BE a0 a1 d0 d1 cp3 c2 hone hone0 hW4 c0 c1
                cases cc8 with
                | false =>
                  have HGrow : Hid (∀ l ∈ zs, l ∈ zs8) := HP.out.grows HGl.out HGl'.out (fun l h => List.mem_append_left _ h) HP8.out
                  go_wp2
                  go_loop [27, 31] (fun a x => ∃ j : Nat, j ≤ zs.length ∧ x = .int .i64 j ∧ a = .bool true) (fun _ x => zs.length - (intOf x).toNat)
                  case atStart => exact ⟨0, Nat.zero_le _, rfl, rfl⟩
                  case round =>
                    obtain ⟨j, hj, rfl, rfl⟩ := hrel
                    by_cases hlj : j < zs.length
                    · obtain ⟨b1, o1, rfl, hb1, hcell1⟩ := HZ8.out (by intro h; rw [h] at hlj; simp at hlj)
                      have hcx := hcell1 j hlj
                      have hmem : zs.getD j 0 ∈ zs := by rw [getD_lt _ _ _ hlj]; exact List.getElem_mem hlj
                      have hin := HGrow.out _ hmem
                      generalize zs.getD j 0 = x at hcx hin
                      have c3 := kcontains_any wa wc zs8 x w8 HI8.out (by omega)
                      rw [decide_eq_true hin] at c3
                      clear hcell1 hmem hin
                      go_wp2_with (go_at_call 34; refine c3.mono ?_; rintro e w' ⟨rfl, hw'⟩; obtain rfl := hw'.symm)
                      go_round
                      case rel => exact ⟨j + 1, by omega, by go_num, rfl⟩
                      case measure => simp [intOf]; omega
                    · go_wp2
                      go_ret
                      exact ⟨rfl, HBend.out⟩
                | true =>
                  go_wp2
                  go_loop [27, 31] (fun a x => x = .int .i64 0 ∧ a = .bool true) (fun _ _ => 0)
                  case atStart => exact ⟨rfl, rfl⟩
                  case round =>
                    obtain ⟨rfl, rfl⟩ := hrel
                    by_cases hlj : 0 < zs.length
                    · go_wp2
                      go_ret
                      exact ⟨rfl, HBend.out⟩
                    · go_wp2
                      go_ret
                      exact ⟨rfl, HBend.out⟩
end Go.Proofs.YtlodenfdcckemaaDoor
