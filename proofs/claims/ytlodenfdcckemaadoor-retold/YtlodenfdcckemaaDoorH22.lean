/-
  Several texts, one behind the other.
-/
import Derived.Test.YtlodenfdcckemaaDoorH14
import Derived.Test.YtlodenfdcckemaaDoorH21
import Derived.Test.YtlodenfdcckemaaDoorH17
import Derived.Test.YtlodenfdcckemaaDoorH6
import Derived.Test.YtlodenfdcckemaaDoorH20
import Derived.Deep.QuietTactic
import Derived.BigQuiet
import Derived.Deep.RegionHeld3
/-
  The walk of the document's Propagate.
-/

namespace Go.Proofs.YtlodenfdcckemaaDoor
open Go.RowKit

theorem tellOf_len (V : Nat) (T : Int → Bool) : (tellOf V T).length ≤ 2 * V := by
  unfold tellOf
  exact Nat.le_trans (List.length_filter_le _ _) (by simp)

theorem drewN_below {w : World} (n : Nat) : Below w.heap.size w (w.drewN n) := ⟨rfl, rfl, rfl, Nat.le_refl _, fun _ _ => rfl⟩

/-- What the document answers to literals that are ones. -/
def RPropRes (V : Nat) (C : List (List Int)) (g : List Int) (w0 w' : World) (e : Ending) : Prop :=
  ∃ bs, RDone V C (fun l => l ∈ g) bs ∧ ((crash bs = true ∧ e = .returned (.tuple #[.slice none 0 0, .bool true, .int .i64 0])) ∨ (crash bs = false ∧ ∃ v, e = .returned (.tuple #[v, .bool false, .int .i64 0]) ∧ Own w' w0.heap.size 3 v (ints (tellOf V (there bs)))))

set_option maxRecDepth 100000 in
set_option maxHeartbeats 4000000 in
theorem rprop_any (V : Nat) (hV : V ≤ 20) (ao go : Option Addr) (cap gcap : Nat) (cs : List (List Int)) (g : List Int) (w : World) (hc : ListsAt w w.heap.size ao cs) (hgi : IntsAt w w.heap.size go g) (hlit : ∀ c ∈ cs, ∀ l ∈ c, IsLit V l) (hlen : cs.length ≤ 200) (heach : ∀ c ∈ cs, c.length ≤ 20) (hgl : g.length ≤ 4611686018427387904) (hnum : ∀ l ∈ g, -9223372036854775808 ≤ l ∧ l ≤ 9223372036854775807) :
    Calls Tryd.prog 15 #[.agg #[.int .i64 V, .slice ao cs.length cap], .slice go g.length gcap] w fun e w' => ((litsFault V g ≠ 0 ∧ e = .returned (.tuple #[.slice none 0 0, .bool false, .int .i64 6])) ∨ (litsFault V g = 0 ∧ RPropRes V cs g w w' e)) ∧ Below w.heap.size w w' := by
  have b1 := alloc_below w (.cells #[.int .i64 V, .slice ao cs.length cap] 31)
  have B1 : Blk (w.alloc (.cells #[.int .i64 V, .slice ao cs.length cap] 31)) w.heap.size 31 [.int .i64 V, .slice ao cs.length cap] := blk_new w [.int .i64 V, .slice ao cs.length cap] 31
  have s1 := alloc_size w (.cells #[.int .i64 V, .slice ao cs.length cap] 31)
  go_enter Tryd.func15, Tryd.ntmps15
  go_wp2
  generalize w.alloc (.cells #[.int .i64 V, .slice ao cs.length cap] 31) = w1 at *
  have HB1 : Hid (Below w.heap.size w w1) := b1
  have hwl : w.heap.size < w1.heap.size := by omega
  have cV : w1.cell? ⟨w.heap.size, 0, none⟩ = some (.int .i64 V) := B1.cell (i := 0) (by simp) undef
  have cF : w1.cell? ⟨w.heap.size, 1, none⟩ = some (.slice ao cs.length cap) := B1.cell (i := 1) (by simp) undef
  clear b1 s1
  go_loopw [7] (fun x wr => ∃ (k q : Nat), k ≤ g.length ∧ x = .int .i64 k ∧ Hid ((g.take k).all (lit V) = true) ∧ wr = w1.drewN q) (fun x _ => g.length - (intOf x).toNat)
  case atStart => exact ⟨0, 0, Nat.zero_le _, rfl, (by unfold Hid; simp), rfl⟩
  case round =>
    obtain ⟨k, q, hk, rfl, HAl, rfl⟩ := hrel
    have cVq : (w1.drewN q).cell? ⟨w.heap.size, 0, none⟩ = some (.int .i64 V) := cV
    have cFq : (w1.drewN q).cell? ⟨w.heap.size, 1, none⟩ = some (.slice ao cs.length cap) := cF
    have hwq : w.heap.size < (w1.drewN q).heap.size := hwl
    have HBq : Hid (Below w.heap.size w (w1.drewN q)) := HB1.out.trans ((drewN_below q).mono HB1.out.size)
    have HQ : Hid (w1.drewN q = w1.drewN q) := rfl
    by_cases hlk : k < g.length
    · have hgq := hgi.below HBq.out (Nat.le_refl _)
      obtain ⟨b', o', rfl, hb', hcell'⟩ := hgq (by intro h; rw [h] at hlk; simp at hlk)
      have hcx := hcell' k hlk
      have hmem : g.getD k 0 ∈ g := by rw [getD_lt _ _ _ hlk]; exact List.getElem_mem hlk
      obtain ⟨hx0, hx1⟩ := hnum _ hmem
      have HAT : Hid _ := all_take_succ (lit V) g k hlk
      have HAF : Hid (lit V (g.getD k 0) = false → g.all (lit V) = false) := fun h => all_false_of (lit V) g k hlk h
      generalize g.getD k 0 = x at hcx hx0 hx1 HAT HAF
      clear hcell' hgq hmem cV cF
      have cl := literal_any x V
      generalize hw3 : w1.drewN q = w3 at *
      have HW3 : Hid (w1.drewN q = w3) := hw3
      clear hw3 HQ
      cases hlx : lit V x with
      | false =>
        have HF : Hid (litsFault V g ≠ 0) := by unfold Hid; rw [litsFault_not (HAF.out hlx)]; decide
        rw [hlx] at cl
        clear hlx
        go_wp2
        go_quiet ((go_at_call 50; exact Calls.quiet_of_same (cl _ hx0 hx1 (by omega) (by omega))))
        go_wp2
        go_ret3
        exact ⟨Or.inl ⟨HF.out, rfl⟩, HBq.out.trans ((drewN_below _).mono HBq.out.size)⟩
      | true =>
        rw [hlx] at cl
        have HA2 : Hid ((g.take (k + 1)).all (lit V) = true) := by unfold Hid; rw [HAT.out, HAl.out, hlx]; rfl
        clear hlx
        go_wp2
        go_quiet ((go_at_call 50; exact Calls.quiet_of_same (cl _ hx0 hx1 (by omega) (by omega))))
        go_wp2
        go_roundw
        case rel => exact ⟨k + 1, q + nq, by omega, by go_num, HA2, by rw [← HW3.out, World.drewN_drewN]⟩
        case measure => simp [intOf]; omega
    · obtain rfl : k = g.length := by omega
      have hall : g.all (lit V) = true := by
        have := HAl.out
        rwa [List.take_length] at this
      have HL0 : Hid (litsFault V g = 0) := litsFault_all hall
      have hlits := lits_all HL0.out
      clear hall HAl cV cF
      generalize w1.drewN q = w3 at *
      have hsq := HBq.out.size
      have c1 := rfollow_any V hV ao none go cap 0 gcap cs [] g w3 ((hc.below HBq.out (Nat.le_refl _)).mono hsq) (fun h => absurd rfl h) ((hgi.below HBq.out (Nat.le_refl _)).mono hsq) hlit (fun c hc => by cases hc) hlits (by omega) (by simp) hgl heach (fun c hc => by cases hc)
      rw [List.append_nil, List.length_nil] at c1
      go_wp2_with fail
      refine c1.mono ?_
      rintro e w4 ⟨Hk, bs, rfl, hB4, hR4, hb4, hH4⟩
      have HB4 : Hid (Below w.heap.size w w4) := HBq.out.trans (hb4.mono hsq)
      have cV4 : w4.cell? ⟨w.heap.size, 0, none⟩ = some (.int .i64 V) := (hb4.cell (p := ⟨w.heap.size, 0, none⟩) hwq).trans cVq
      have hwl4 : w.heap.size < w4.heap.size := Nat.lt_of_lt_of_le hwq hb4.size
      have hbl := hR4.come.len
      have c64 := hB4.cell (i := 64) (by simp; omega) undef
      rw [bvs_get (by omega)] at c64
      have hHl := hB4.lt
      have HR4 : Hid (RDone V cs (fun l => l ∈ g) bs) := hR4
      have HBk : Hid (Blk w4 Hk 83 (bvs bs)) := hB4
      clear c1 hB4 hR4 hb4 cVq cFq
      cases hx : bs.getD 64 false with
      | true =>
        rw [hx] at c64
        have HX : Hid (crash bs = true) := hx
        clear hx
        go_wp2
        go_ret3
        exact ⟨Or.inr ⟨HL0.out, bs, HR4.out, Or.inl ⟨HX.out, rfl⟩⟩, HB4.out⟩
      | false =>
        rw [hx] at c64
        have HX : Hid (crash bs = false) := hx
        clear hx
        go_wp2
        go_loopw [10, 11] (fun va x wr => ∃ (k : Nat), k ≤ V ∧ x = .int .i64 (k + 1 : Nat) ∧ Hid (Own wr w4.heap.size 3 va (ints (tellOf k (there bs)))) ∧ Hid (Below w4.heap.size w4 wr)) (fun _ x _ => V + 1 - (intOf x).toNat)
        case atStart => exact ⟨0, Nat.zero_le _, rfl, Own.nil _ _ _, Below.refl _ _⟩
        case round =>
          obtain ⟨k, hk, rfl, HO, HBw⟩ := hrel
          have cVr : wr.cell? ⟨w.heap.size, 0, none⟩ = some (.int .i64 V) := (HBw.out.cell (p := ⟨w.heap.size, 0, none⟩) hwl4).trans cV4
          have hwr := HBw.out.size
          have hwlr : w.heap.size < wr.heap.size := by omega
          by_cases hlt : k < V
          · have hlp : IsLit V ((k + 1 : Nat) : Int) := ⟨by omega, by omega, by omega⟩
            have hln : IsLit V (-((k + 1 : Nat) : Int)) := hlp.neg
            have hle : ((k + 1 : Nat) : Int) ≤ (V : Int) := by omega
            have HTS : Hid _ := tellOf_succ k (there bs)
            have hTl := tellOf_len k (there bs)
            have hr1 := rp_lt hV hlp
            have hr2 := rp_lt hV hln
            have hBr := HBk.out.below' HBw.out
            have q1 : rp ((k + 1 : Nat) : Int) < bs.length := by rw [hbl]; omega
            have q2 : rp (-((k + 1 : Nat) : Int)) < bs.length := by rw [hbl]; omega
            have t1 := hBr.cell (i := rp ((k + 1 : Nat) : Int)) (by rw [List.length_map]; exact q1) undef
            have t2 := hBr.cell (i := rp (-((k + 1 : Nat) : Int))) (by rw [List.length_map]; exact q2) undef
            rw [bvs_get q1] at t1
            rw [bvs_get q2] at t2
            have p1 := rplace_any ((k + 1 : Nat) : Int) (by omega) (by omega)
            have p2 := rplace_any (-((k + 1 : Nat) : Int)) (by omega) (by omega)
            have hHr : Hk < wr.heap.size := by omega
            have HO1 := HO.out
            have HTa : Hid (there bs ((k + 1 : Nat) : Int) = bs.getD (rp ((k + 1 : Nat) : Int)) false) := rfl
            have HTb : Hid (there bs (-((k + 1 : Nat) : Int)) = bs.getD (rp (-((k + 1 : Nat) : Int))) false) := rfl
            generalize hx1 : rp ((k + 1 : Nat) : Int) = r1 at *
            generalize hx2 : rp (-((k + 1 : Nat) : Int)) = r2 at *
            generalize hxv : ((k + 1 : Nat) : Int) = x at *
            have HXV : Hid (((k + 1 : Nat) : Int) = x) := hxv
            have hx0 : 1 ≤ x := by omega
            have hx20 : x ≤ 20 := by omega
            generalize tellOf k (there bs) = T0 at *
            clear hlp hln hx1 hx2 hxv hBr HO
            cases ha : bs.getD r1 false with
            | true =>
              rw [ha] at t1
              go_wp2
              go_quiet ((go_at_call 52; exact Calls.quiet_of ((p1 _).mono fun e w' h => ⟨h.1, 0, h.2⟩)))
              have OD : Own (wr.drewN nq) w4.heap.size 3 _ _ := HO1.chg (S := fun _ => False) ((Chg.refl _ _).drewN nq) (fun _ _ h => h)
              have BD : Below w4.heap.size w4 (wr.drewN nq) := HBw.out.trans ((drewN_below nq).mono hwr)
              have t2d : (wr.drewN nq).cell? ⟨Hk, r2, none⟩ = _ := t2
              have hHd : Hk < (wr.drewN nq).heap.size := hHr
              have hwd : w4.heap.size ≤ (wr.drewN nq).heap.size := hwr
              generalize wr.drewN nq = w5 at *
              have OA := OD.alloc (.cells #[.int .i64 x] 3)
              have NA : Blk (w5.alloc (.cells #[.int .i64 x] 3)) w5.heap.size 3 [.int .i64 x] := blk_new w5 [.int .i64 x] 3
              have BA := alloc_below w5 (.cells #[.int .i64 x] 3)
              go_wp2_with (at_builtin; refine wpList_append_new (.tmp 48) (.tmp 50) 24 3 (.int .i64 0) 8 Tryd.underlying24 Tryd.info3 rfl w4.heap.size w5.heap.size _ _ [.int .i64 x] 1 T0.length (by simp) rfl (by decide) (by rfl) (by rfl) OA NA (by intro u hu; simp at hu; rw [hu]; rfl) (by unfold maxLen; omega) (by omega) (by rw [alloc_size]; omega) ?_; intro g6 cap6 w6 hO6 hgr6 hat6 hlt6)
              have BW6 : Below w4.heap.size w4 w6 := BD.trans ((BA.mono hwd).trans ⟨hgr6.os, hgr6.tape, hgr6.output, hgr6.size, fun j hj => hgr6.block j (by rw [alloc_size]; omega) (fun e => by have := (OA.lt e.symm).1; omega)⟩)
              have t2w6 : w6.cell? ⟨Hk, r2, none⟩ = some (.bool (bs.getD r2 false)) := (BW6.cell (p := ⟨Hk, r2, none⟩) hHl).trans (by rw [HBk.out.cell (i := r2) (by rw [List.length_map]; exact q2) undef, bvs_get q2])
              have hHw6 : Hk < w6.heap.size := Nat.lt_of_lt_of_le hHl BW6.size
              have hsw6 := BW6.size
              have BWw6 := BW6
              rw [show ints T0 ++ [.int .i64 x] = ints (T0 ++ [x]) by simp] at hO6
              clear OA NA BA OD BD t2d t2 t1 hgr6 HO1
              cases hbq : bs.getD r2 false with
              | true =>
                rw [hbq] at t2w6
                have HTell : Hid (tellOf (k + 1) (there bs) = T0 ++ [x] ++ [-x]) := by
                  unfold Hid; rw [HTS.out, HTa.out, HTb.out, ha, hbq]; simp
                clear ha hbq
                go_wp2
                go_quiet ((go_at_call 52; exact Calls.quiet_of ((p2 _).mono fun e w' h => ⟨h.1, 0, h.2⟩)))
                have OE : Own (w6.drewN nq) w4.heap.size 3 _ _ := hO6.chg (S := fun _ => False) ((Chg.refl _ _).drewN nq) (fun _ _ h => h)
                have BE : Below w4.heap.size w4 (w6.drewN nq) := BWw6.trans ((drewN_below nq).mono hsw6)
                have hse : w4.heap.size ≤ (w6.drewN nq).heap.size := hsw6
                generalize w6.drewN nq = w7 at *
                have OB := OE.alloc (.cells #[.int .i64 (-x)] 3)
                have NB : Blk (w7.alloc (.cells #[.int .i64 (-x)] 3)) w7.heap.size 3 [.int .i64 (-x)] := blk_new w7 [.int .i64 (-x)] 3
                have BB := alloc_below w7 (.cells #[.int .i64 (-x)] 3)
                go_wp2_with (at_builtin; refine wpList_append_new (.tmp 60) (.tmp 63) 24 3 (.int .i64 0) 8 Tryd.underlying24 Tryd.info3 rfl w4.heap.size w7.heap.size _ _ [.int .i64 (-x)] 1 (T0.length + 1) (by simp) rfl (by decide) (by rfl) (by rfl) OB NB (by intro u hu; simp at hu; rw [hu]; rfl) (by unfold maxLen; omega) (by omega) (by rw [alloc_size]; omega) ?_; intro g8 cap8 w8 hO8 hgr8 hat8 hlt8)
                go_roundw
                case rel =>
                  refine ⟨k + 1, by omega, by rw [← HXV.out]; go_num, ?_, BE.trans ((BB.mono hse).trans ⟨hgr8.os, hgr8.tape, hgr8.output, hgr8.size, fun j hj => hgr8.block j (by rw [alloc_size]; omega) (fun e => by have := (OB.lt e.symm).1; omega)⟩)⟩
                  rw [HTell.out, show ints (T0 ++ [x] ++ [-x]) = ints (T0 ++ [x]) ++ [.int .i64 (-x)] by simp]
                  exact hO8
                case measure => rw [← HXV.out]; simp [intOf]; omega
              | false =>
                rw [hbq] at t2w6
                have HTell : Hid (tellOf (k + 1) (there bs) = T0 ++ [x]) := by
                  unfold Hid; rw [HTS.out, HTa.out, HTb.out, ha, hbq]; simp
                clear ha hbq
                go_wp2
                go_quiet ((go_at_call 52; exact Calls.quiet_of ((p2 _).mono fun e w' h => ⟨h.1, 0, h.2⟩)))
                go_wp2
                go_roundw
                case rel =>
                  refine ⟨k + 1, by omega, by rw [← HXV.out]; go_num, ?_, BWw6.trans ((drewN_below nq).mono hsw6)⟩
                  rw [HTell.out]
                  exact hO6.chg (S := fun _ => False) ((Chg.refl _ _).drewN nq) (fun _ _ h => h)
                case measure => rw [← HXV.out]; simp [intOf]; omega
            | false =>
              rw [ha] at t1
              go_wp2
              go_quiet ((go_at_call 52; exact Calls.quiet_of ((p1 _).mono fun e w' h => ⟨h.1, 0, h.2⟩)))
              have OD : Own (wr.drewN nq) w4.heap.size 3 _ _ := HO1.chg (S := fun _ => False) ((Chg.refl _ _).drewN nq) (fun _ _ h => h)
              have BWw6 : Below w4.heap.size w4 (wr.drewN nq) := HBw.out.trans ((drewN_below nq).mono hwr)
              have t2w6 : (wr.drewN nq).cell? ⟨Hk, r2, none⟩ = _ := t2
              have hHw6 : Hk < (wr.drewN nq).heap.size := hHr
              have hsw6 : w4.heap.size ≤ (wr.drewN nq).heap.size := hwr
              generalize wr.drewN nq = w6 at *
              clear t1 t2 HO1
              cases hbq : bs.getD r2 false with
              | true =>
                rw [hbq] at t2w6
                have HTell : Hid (tellOf (k + 1) (there bs) = T0 ++ [-x]) := by
                  unfold Hid; rw [HTS.out, HTa.out, HTb.out, ha, hbq]; simp
                clear ha hbq
                go_wp2
                go_quiet ((go_at_call 52; exact Calls.quiet_of ((p2 _).mono fun e w' h => ⟨h.1, 0, h.2⟩)))
                have OE : Own (w6.drewN nq) w4.heap.size 3 _ _ := OD.chg (S := fun _ => False) ((Chg.refl _ _).drewN nq) (fun _ _ h => h)
                have BE : Below w4.heap.size w4 (w6.drewN nq) := BWw6.trans ((drewN_below nq).mono hsw6)
                have hse : w4.heap.size ≤ (w6.drewN nq).heap.size := hsw6
                generalize w6.drewN nq = w7 at *
                have OB := OE.alloc (.cells #[.int .i64 (-x)] 3)
                have NB : Blk (w7.alloc (.cells #[.int .i64 (-x)] 3)) w7.heap.size 3 [.int .i64 (-x)] := blk_new w7 [.int .i64 (-x)] 3
                have BB := alloc_below w7 (.cells #[.int .i64 (-x)] 3)
                go_wp2_with (at_builtin; refine wpList_append_new (.tmp 60) (.tmp 63) 24 3 (.int .i64 0) 8 Tryd.underlying24 Tryd.info3 rfl w4.heap.size w7.heap.size _ _ [.int .i64 (-x)] 1 T0.length (by simp) rfl (by decide) (by rfl) (by rfl) OB NB (by intro u hu; simp at hu; rw [hu]; rfl) (by unfold maxLen; omega) (by omega) (by rw [alloc_size]; omega) ?_; intro g8 cap8 w8 hO8 hgr8 hat8 hlt8)
                go_roundw
                case rel =>
                  refine ⟨k + 1, by omega, by rw [← HXV.out]; go_num, ?_, BE.trans ((BB.mono hse).trans ⟨hgr8.os, hgr8.tape, hgr8.output, hgr8.size, fun j hj => hgr8.block j (by rw [alloc_size]; omega) (fun e => by have := (OB.lt e.symm).1; omega)⟩)⟩
                  rw [HTell.out, show ints (T0 ++ [-x]) = ints (T0) ++ [.int .i64 (-x)] by simp]
                  exact hO8
                case measure => rw [← HXV.out]; simp [intOf]; omega
              | false =>
                rw [hbq] at t2w6
                have HTell : Hid (tellOf (k + 1) (there bs) = T0) := by
                  unfold Hid; rw [HTS.out, HTa.out, HTb.out, ha, hbq]; simp
                clear ha hbq
                go_wp2
                go_quiet ((go_at_call 52; exact Calls.quiet_of ((p2 _).mono fun e w' h => ⟨h.1, 0, h.2⟩)))
                go_wp2
                go_roundw
                case rel =>
                  refine ⟨k + 1, by omega, by rw [← HXV.out]; go_num, ?_, BWw6.trans ((drewN_below nq).mono hsw6)⟩
                  rw [HTell.out]
                  exact OD.chg (S := fun _ => False) ((Chg.refl _ _).drewN nq) (fun _ _ h => h)
                case measure => rw [← HXV.out]; simp [intOf]; omega
          · obtain rfl : k = V := by omega
            have hle : ¬ ((k + 1 : Nat) : Int) ≤ (k : Int) := by omega
            go_wp2
            go_ret3
            refine ⟨Or.inr ⟨HL0.out, bs, HR4.out, Or.inr ⟨HX.out, _, rfl, ?_⟩⟩, HB4.out.trans (HBw.out.mono HB4.out.size)⟩
            exact HO.out.base HB4.out.size
end Go.Proofs.YtlodenfdcckemaaDoor

/-
  Propagate, the program's and the document's, in the same words.
-/

namespace Go.Proofs.YtlodenfdcckemaaDoor
open Go.RowKit

theorem tellOf_congr (V : Nat) (T U : Int → Bool) (h : ∀ l, IsLit V l → T l = U l) : tellOf V T = tellOf V U := by
  unfold tellOf
  apply List.filter_congr
  intro l hl
  obtain ⟨m, hm, rfl⟩ := List.mem_map.1 hl
  exact h _ (atp_lit (List.mem_range.1 hm))

/-- What is answered: the list, whether there is a conflict, the error. -/
def PRes (V : Nat) (C : List (List Int)) (g : List Int) (zs : List Int) (c : Bool) (x : Int) : Prop :=
  (litsFault V g ≠ 0 ∧ zs = [] ∧ c = false ∧ x = 6) ∨ (litsFault V g = 0 ∧ Conf C (fun l => l ∈ g) ∧ zs = [] ∧ c = true ∧ x = 0) ∨
  (litsFault V g = 0 ∧ ¬ Conf C (fun l => l ∈ g) ∧ c = false ∧ x = 0 ∧ ∃ T : Int → Bool, (∀ l, IsLit V l → (T l = true ↔ Fol C (fun l => l ∈ g) l)) ∧ (∀ l, Fol C (fun l => l ∈ g) l → IsLit V l) ∧ zs = tellOf V T)

theorem PRes.same {V : Nat} {C : List (List Int)} {g zs zs' : List Int} {c c' : Bool} {x x' : Int} (h : PRes V C g zs c x) (h' : PRes V C g zs' c' x') : zs = zs' ∧ c = c' ∧ x = x' := by
  rcases h with ⟨h1, h2, h3, h4⟩ | ⟨h1, h2, h3, h4, h5⟩ | ⟨h1, h2, h3, h4, T, h5, _, h6⟩ <;> rcases h' with ⟨k1, k2, k3, k4⟩ | ⟨k1, k2, k3, k4, k5⟩ | ⟨k1, k2, k3, k4, U, k5, _, k6⟩
  · exact ⟨by rw [h2, k2], by rw [h3, k3], by rw [h4, k4]⟩
  · exact absurd k1 h1
  · exact absurd k1 h1
  · exact absurd h1 k1
  · exact ⟨by rw [h3, k3], by rw [h4, k4], by rw [h5, k5]⟩
  · exact absurd h2 k2
  · exact absurd h1 k1
  · exact absurd k2 h2
  · refine ⟨?_, by rw [h3, k3], by rw [h4, k4]⟩
    rw [h6, k6]
    apply tellOf_congr
    intro l hl
    rw [Bool.eq_iff_iff, h5 l hl, k5 l hl]

theorem PRes.len {V : Nat} (hV : V ≤ 20) {C : List (List Int)} {g zs : List Int} {c : Bool} {x : Int} (h : PRes V C g zs c x) : zs.length ≤ 64 := by
  rcases h with ⟨_, h2, _⟩ | ⟨_, _, h3, _⟩ | ⟨_, _, _, _, T, _, _, h6⟩
  · rw [h2]; simp
  · rw [h3]; simp
  · rw [h6]; exact Nat.le_trans (tellOf_len V T) (by omega)

set_option maxHeartbeats 400000 in
theorem propagate_bad (vars : Int) (ao : Option Addr) (cap : Nat) (cs : List (List Int)) (v : Value) (w : World) (hc : ListsAt w w.heap.size ao cs) (hf : (fault vars cs).1 ≠ 0) :
    Calls Tryd.prog 13 #[.agg #[.int .i64 vars, .slice ao cs.length cap], v] w fun e w' => e = .returned (.tuple #[.slice none 0 0, .bool false, .int .i64 (fault vars cs).1]) ∧ Below w.heap.size w w' := by
  have hne : ((fault vars cs).1 != 0) = true := by simp [hf]
  have hw1 : Below w.heap.size w (w.alloc (.cells #[.int .i64 vars, .slice ao cs.length cap] 31)) := (Below.refl _ _).alloc (Nat.le_refl _) _
  have B0 := blk_new w [.int .i64 vars, .slice ao cs.length cap] 31
  go_enter Tryd.func13, Tryd.ntmps13
  go_wp2_with fail
  change Blk (w.alloc (.cells #[.int .i64 vars, .slice ao cs.length cap] 31)) w.heap.size 31 _ at B0
  generalize w.alloc (.cells #[.int .i64 vars, .slice ao cs.length cap] 31) = W at *
  have hc1 := (hc.below hw1 (Nat.le_refl _)).mono hw1.size
  refine (of_any vars ao cap cs W hc1).mono ?_
  rintro e w1 ⟨rfl, hb1⟩
  have hb : Below w.heap.size w w1 := hw1.trans (hb1.mono hw1.size)
  clear hf
  go_wp2
  go_ret3
  exact ⟨rfl, hb⟩

set_option maxHeartbeats 1000000 in
theorem propagate_none (n : Nat) (ao go : Option Addr) (cap gcap : Nat) (cs : List (List Int)) (g : List Int) (w : World) (hc : ListsAt w w.heap.size ao cs) (hgi : IntsAt w w.heap.size go g) (hg : Good n cs) (hf : (fault n cs).1 = 0) (hgl : litsFault n g ≠ 0) (hlen : g.length ≤ 4611686018427387904) :
    Calls Tryd.prog 13 #[.agg #[.int .i64 n, .slice ao cs.length cap], .slice go g.length gcap] w fun e w' => e = .returned (.tuple #[.slice none 0 0, .bool false, .int .i64 6]) ∧ Below w.heap.size w w' := by
  have hne : ((fault n cs).1 != 0) = false := by simp [hf]
  have hl6 : litsFault n g = 6 := by
    unfold litsFault at hgl ⊢
    split at hgl
    · exact absurd rfl hgl
    · rename_i h; rw [if_neg h]
  have hV := hg.vars
  have hw1 : Below w.heap.size w (w.alloc (.cells #[.int .i64 n, .slice ao cs.length cap] 31)) := (Below.refl _ _).alloc (Nat.le_refl _) _
  have B0 : Blk (w.alloc (.cells #[.int .i64 n, .slice ao cs.length cap] 31)) w.heap.size 31 [.int .i64 n, .slice ao cs.length cap] := blk_new w [.int .i64 n, .slice ao cs.length cap] 31
  go_enter Tryd.func13, Tryd.ntmps13
  go_wp2_with fail
  generalize w.alloc (.cells #[.int .i64 n, .slice ao cs.length cap] 31) = W at *
  refine (of_any n ao cap cs W ((hc.below hw1 (Nat.le_refl _)).mono hw1.size)).mono ?_
  rintro e w1 ⟨rfl, hb1⟩
  have hb : Below w.heap.size w w1 := hw1.trans (hb1.mono hw1.size)
  have B1 := B0.below' hb1
  have n0 : w1.cell? ⟨w.heap.size, 0, none⟩ = some (.int .i64 n) := B1.cell (i := 0) (by simp) undef
  have hg1 := (hgi.below hb (Nat.le_refl _)).mono hb.size
  have c1 := faultLits_any n go gcap g w1 _ hg1 (by omega) (by omega) hlen
  rw [hl6] at c1
  have hBl := B1.lt
  have HBw : Hid (Below w.heap.size w w1) := hb
  clear hf hgl hl6 hw1 B0 hb1 hb
  go_wp2_with (first | (go_at_call 43; refine c1.mono ?_; rintro e w' ⟨rfl, hw'⟩; obtain rfl := hw'.symm))
  go_ret3
  exact ⟨rfl, HBw.out⟩

theorem propagate_all (n : Nat) (ao go : Option Addr) (cap gcap : Nat) (cs : List (List Int)) (g : List Int) (w : World) (hc : ListsAt w w.heap.size ao cs) (hgi : IntsAt w w.heap.size go g) (hg : Good n cs) (hf : (fault n cs).1 = 0) (hlen : g.length ≤ 4611686018427387904) (hT : Tab w) (hw0 : 0 < w.heap.size) :
    Calls Tryd.prog 13 #[.agg #[.int .i64 n, .slice ao cs.length cap], .slice go g.length gcap] w fun e w' => ∃ v zs c x, e = .returned (.tuple #[v, .bool c, .int .i64 x]) ∧ Own w' w.heap.size 3 v (ints zs) ∧ PRes n cs g zs c x ∧ Below w.heap.size w w' := by
  by_cases hgl : litsFault n g = 0
  · refine (propagate_good n ao go cap gcap cs g w hc hgi hg hf hgl hlen hT hw0).mono ?_
    rintro e w' ⟨h, hb⟩
    rcases h with ⟨hconf, rfl⟩ | ⟨S, v, hS, hSh, rfl, hO⟩
    · exact ⟨.slice none 0 0, [], true, 0, rfl, Own.nil _ _ _, Or.inr (Or.inl ⟨hgl, hconf, rfl, rfl, rfl⟩), hb⟩
    · refine ⟨v, litsOf 64 S, false, 0, rfl, hO, Or.inr (Or.inr ⟨hgl, hSh.noconf, rfl, rfl, fun l => S.testBit (pl l), fun l hl => ⟨fun ht => ?_, fun hF => (hSh.fol hF).2⟩, fun l hF => (hSh.fol hF).1, ?_⟩), hb⟩
      · have := hS.fol _ ht
        rwa [atp_pl hl.1] at this
      · rw [litsOf_short hg.vars hS.small]
        apply litsOf_tell
        intro m _
        rw [pl_atp]
  · refine (propagate_none n ao go cap gcap cs g w hc hgi hg hf hgl hlen).mono ?_
    rintro e w' ⟨rfl, hb⟩
    exact ⟨.slice none 0 0, [], false, 6, rfl, Own.nil _ _ _, Or.inl ⟨hgl, rfl, rfl, rfl⟩, hb⟩

theorem rprop_all (n : Nat) (ao go : Option Addr) (cap gcap : Nat) (cs : List (List Int)) (g : List Int) (w : World) (hc : ListsAt w w.heap.size ao cs) (hgi : IntsAt w w.heap.size go g) (hg : Good n cs) (hlen : g.length ≤ 4611686018427387904) (hnum : ∀ l ∈ g, -9223372036854775808 ≤ l ∧ l ≤ 9223372036854775807) :
    Calls Tryd.prog 15 #[.agg #[.int .i64 n, .slice ao cs.length cap], .slice go g.length gcap] w fun e w' => ∃ v zs c x, e = .returned (.tuple #[v, .bool c, .int .i64 x]) ∧ Own w' w.heap.size 3 v (ints zs) ∧ PRes n cs g zs c x ∧ Below w.heap.size w w' := by
  refine (rprop_any n hg.vars ao go cap gcap cs g w hc hgi (fun c hc l hl => hg.lits c hc l hl) hg.many hg.long hlen hnum).mono ?_
  rintro e w' ⟨h, hb⟩
  rcases h with ⟨h1, rfl⟩ | ⟨h1, bs, hR, ⟨hx, rfl⟩ | ⟨hx, v, rfl, hO⟩⟩
  · exact ⟨.slice none 0 0, [], false, 6, rfl, Own.nil _ _ _, Or.inl ⟨h1, rfl, rfl, rfl⟩, hb⟩
  · exact ⟨.slice none 0 0, [], true, 0, rfl, Own.nil _ _ _, Or.inr (Or.inl ⟨h1, hR.come.conf hx, rfl, rfl, rfl⟩), hb⟩
  · have hSh := hR.shut hx
    exact ⟨v, _, false, 0, rfl, hO, Or.inr (Or.inr ⟨h1, hSh.noconf, rfl, rfl, there bs, fun l hl => ⟨fun ht => hR.come.fol l hl ht, fun hF => (hSh.fol hF).2⟩, fun l hF => (hSh.fol hF).1, rfl⟩), hb⟩
end Go.Proofs.YtlodenfdcckemaaDoor

/-
  The walk of a proof's check.
-/

namespace Go.Proofs.YtlodenfdcckemaaDoor
open Go.RowKit

/-! A proof. -/

/-- What is told of a proof, from a step on. -/
noncomputable def checkOf (V : Nat) : List (List Int) → Nat → List (List Int) → Int × Int
  | _, i, [] => (i, 8)
  | C, i, s :: r => if clauseFault V s ≠ 0 then (i, clauseFault V s) else (open Classical in if Conf C (fun l => l ∈ s.map fun l => -l) then (if s.length = 0 then ((i + 1 : Nat), 0) else checkOf V (C ++ [s]) (i + 1) r) else (i, 7))

theorem clauseFault_ok {V : Nat} {c : List Int} (h : clauseFault V c = 0) : c.length ≤ 20 ∧ ∀ l ∈ c, IsLit V l := by
  unfold clauseFault at h
  split at h
  · cases h
  · split at h
    · rename_i h1 h2
      refine ⟨by omega, fun l hl => ?_⟩
      have := List.all_eq_true.1 h2 l hl
      unfold lit at this
      simp only [Bool.and_eq_true, Bool.not_eq_true', beq_eq_false_iff_ne, decide_eq_true_eq] at this
      exact ⟨this.1.1, this.1.2, this.2⟩
    · cases h

theorem checkOf_step (V : Nat) (C : List (List Int)) (i : Nat) (p : List (List Int)) (hi : i < p.length) :
    checkOf V C i (p.drop i) = if clauseFault V (p.getD i []) ≠ 0 then ((i : Int), clauseFault V (p.getD i [])) else (open Classical in if Conf C (fun l => l ∈ (p.getD i []).map fun l => -l) then (if (p.getD i []).length = 0 then (((i + 1 : Nat) : Int), 0) else checkOf V (C ++ [p.getD i []]) (i + 1) (p.drop (i + 1))) else ((i : Int), 7)) := by
  rw [List.drop_eq_getElem_cons hi, getD_lt _ _ _ hi, checkOf]

set_option maxRecDepth 100000 in
set_option maxHeartbeats 4000000 in
theorem pcheck_any (V : Nat) (hV : V ≤ 20) (ao po : Option Addr) (cap pcap : Nat) (cs p : List (List Int)) (w : World) (hc : ListsAt w w.heap.size ao cs) (hp : ListsAt w w.heap.size po p) (hlit : ∀ c ∈ cs, ∀ l ∈ c, IsLit V l) (hlen : cs.length ≤ 200) (heach : ∀ c ∈ cs, c.length ≤ 20) (hpl : p.length ≤ 6000000000000) :
    Calls Tryd.prog 61 #[.agg #[.int .i64 V, .slice ao cs.length cap], .slice po p.length pcap] w fun e w' => e = .returned (.tuple #[.int .i64 (checkOf V cs 0 p).1, .int .i64 (checkOf V cs 0 p).2]) ∧ Below w.heap.size w w' := by
  have b1 := alloc_below w (.cells #[.int .i64 V, .slice ao cs.length cap] 31)
  have B1 : Blk (w.alloc (.cells #[.int .i64 V, .slice ao cs.length cap] 31)) w.heap.size 31 [.int .i64 V, .slice ao cs.length cap] := blk_new w [.int .i64 V, .slice ao cs.length cap] 31
  have s1 := alloc_size w (.cells #[.int .i64 V, .slice ao cs.length cap] 31)
  go_enter Tryd.func61, Tryd.ntmps61
  go_wp2_with fail
  generalize w.alloc (.cells #[.int .i64 V, .slice ao cs.length cap] 31) = w1 at *
  refine (folOf_any V hV ao cap cs w1 ((hc.below b1 (Nat.le_refl _)).mono (by omega)) hlit hlen heach).mono ?_
  rintro e w2 ⟨H, v, K, rfl, hCl, hCo, hLe, hHb, hOw, hBe⟩
  have B2 := B1.below hBe (by omega)
  have hb2 : Below w.heap.size w w2 := b1.trans (hBe.mono (by omega))
  have hp2 := hp.below hb2 (Nat.le_refl _)
  go_wp2
  go_loopw [15] (fun x wr => ∃ (i : Nat) (v : Value) (K : List Nat), i ≤ p.length ∧ x = .int .i64 i ∧ Hid (Cls wr H v K) ∧ Hid (Cover V K (cs ++ p.take i)) ∧ Hid (K.length ≤ cs.length + i) ∧ Hid (∀ k, v.ownBlock = some k → w1.heap.size ≤ k) ∧ Hid (Below w1.heap.size w2 wr) ∧ Hid (checkOf V cs 0 p = checkOf V (cs ++ p.take i) i (p.drop i))) (fun x _ => p.length - (intOf x).toNat)
  case atStart => exact ⟨0, v, K, Nat.zero_le _, rfl, hCl, by rw [List.take_zero, List.append_nil]; exact hCo, hLe, hOw, (Below.refl _ _), by rw [List.take_zero, List.append_nil]; rfl⟩
  case round =>
    obtain ⟨i, v, K, hi, rfl, HCl, HCo, HLe, HOw, HBe, HChk⟩ := hrel
    have Br := B2.below HBe.out (by omega)
    have c0 : wr.cell? ⟨w.heap.size, 0, none⟩ = some (.int .i64 V) := Br.cell (i := 0) (by simp) undef
    have hbr : Below w.heap.size w wr := hb2.trans (HBe.out.mono (by omega))
    by_cases hlt : i < p.length
    · have hpr := hp2.below HBe.out (show w.heap.size ≤ w1.heap.size by omega)
      obtain ⟨b, o, rfl, hb, hcell⟩ := hpr (by intro h; rw [h] at hlt; simp at hlt)
      obtain ⟨A, Cc, hck, hin⟩ := hcell i hlt
      have HStep : Hid _ := HChk.out.trans (checkOf_step V (cs ++ p.take i) i p hlt)
      have HT : Hid (p.take (i + 1) = p.take i ++ [p.getD i []]) := take_succ_lists p i hlt
      generalize p.getD i [] = c at hck hin HStep HT
      have c1 := ofClause_any V A Cc c wr w.heap.size hin (by omega) (by omega)
      clear hcell hpr
      by_cases h5 : clauseFault V c = 0
      · obtain ⟨hcl, hlc⟩ := clauseFault_ok h5
        have h5' : (clauseFault (V : Int) c != 0) = false := by simp [h5]
        have H5 : Hid (clauseFault (V : Int) c = 0) := h5
        have hm64 := lt64 hV (maskOf_lt hlc)
        have c2 := litsOf_any V hV A Cc c wr w.heap.size hin hlc (by omega)
        have c3 := pfollows_any H v K V hV (cs ++ p.take i) HCo.out c hlc (by have := HLe.out; omega) wr HCl.out
        have HLc : Hid (∀ l ∈ c, IsLit V l) := hlc
        have HM : Hid (maskOf c < 18446744073709551616) := hm64
        clear h5 hlc hm64 hin
        open Classical in
        by_cases hconf : Conf (cs ++ p.take i) (fun l => l ∈ c.map fun l => -l)
        · rw [decide_eq_true hconf] at c3
          have HCf : Hid (Conf (cs ++ p.take i) (fun l => l ∈ c.map fun l => -l)) := hconf
          clear hconf
          by_cases hz : c.length = 0
          · have HZ : Hid (c.length = 0) := hz
            have hz' : ((c.length : Int) == 0) = true := by simp [hz]
            clear hz
            go_wp2_with (first | (go_at_call 66; refine c1.mono ?_; rintro e w' ⟨rfl, hw'⟩; obtain rfl := hw'.symm) | (go_at_call 44; refine c2.mono ?_; rintro e w' ⟨rfl, hw'⟩; obtain rfl := hw'.symm) | (go_at_call 89; refine c3.mono ?_; rintro e w3 ⟨rfl, hX, hb3⟩))
            go_ret2
            refine ⟨?_, hbr.trans (hb3.mono hbr.size)⟩
            rw [HStep.out, if_neg (by rw [H5.out]; simp), if_pos HCf.out, if_pos HZ.out]
            rfl
          · have HZ : Hid (¬ c.length = 0) := hz
            have hz' : ((c.length : Int) == 0) = false := by simp [hz]
            clear hz
            go_wp2_with (first | (go_at_call 66; refine c1.mono ?_; rintro e w' ⟨rfl, hw'⟩; obtain rfl := hw'.symm) | (go_at_call 44; refine c2.mono ?_; rintro e w' ⟨rfl, hw'⟩; obtain rfl := hw'.symm) | (go_at_call 89; refine c3.mono ?_; rintro e w3 ⟨rfl, hX, hb3⟩) | (go_at_call 68; refine (add_any H v K (maskOf c) _ hX (fun k hk => lt64 hV (HCo.out.small hk)) HM.out (by have := HLe.out; omega)).mono ?_; rintro e w4 ⟨rfl, v4, hC4, hO4, hChg⟩))
            go_roundw
            case rel =>
              have hs3 := hb3.size
              have hsr := HBe.out.size
              refine ⟨i + 1, v4, addTo K (maskOf c), by omega, by go_num, hC4, ?_, ?_, ?_, ?_, ?_⟩
              · rw [HT.out, ← List.append_assoc]
                exact HCo.out.add hV HLc.out
              · have := HLe.out
                exact Nat.le_trans (addTo_len K (maskOf c)) (by omega)
              · intro k e
                rcases hO4 k e with h | h
                · exact HOw.out k h
                · have := hBe.size; omega
              · refine HBe.out.trans ((hb3.mono (by have := hBe.size; omega)).trans (hChg.below (by have := hBe.size; omega) ?_))
                rintro k (h | h)
                · omega
                · exact HOw.out k h
              · refine HStep.out.trans ?_
                rw [if_neg (by rw [H5.out]; simp), if_pos HCf.out, if_neg HZ.out, HT.out, ← List.append_assoc]
            case measure => simp [intOf]; omega
        · rw [decide_eq_false hconf] at c3
          have HCf : Hid (¬ Conf (cs ++ p.take i) (fun l => l ∈ c.map fun l => -l)) := hconf
          clear hconf
          go_wp2_with (first | (go_at_call 66; refine c1.mono ?_; rintro e w' ⟨rfl, hw'⟩; obtain rfl := hw'.symm) | (go_at_call 44; refine c2.mono ?_; rintro e w' ⟨rfl, hw'⟩; obtain rfl := hw'.symm) | (go_at_call 89; refine c3.mono ?_; rintro e w3 ⟨rfl, hX, hb3⟩))
          go_ret2
          refine ⟨?_, hbr.trans (hb3.mono hbr.size)⟩
          rw [HStep.out, if_neg (by rw [H5.out]; simp), if_neg HCf.out]
          rfl
      · have h5' : (clauseFault (V : Int) c != 0) = true := by simp [h5]
        have H5 : Hid (¬ clauseFault (V : Int) c = 0) := h5
        clear h5 hin
        go_wp2_with (first | (go_at_call 66; refine c1.mono ?_; rintro e w' ⟨rfl, hw'⟩; obtain rfl := hw'.symm))
        go_ret2
        refine ⟨?_, hbr⟩
        rw [HStep.out, if_pos H5.out]
        rfl
    · obtain rfl : i = p.length := by omega
      have HE : Hid (checkOf V cs 0 p = ((p.length : Int), 8)) := by
        unfold Hid
        rw [HChk.out, List.drop_length, checkOf]
      go_wp2
      go_ret2
      exact ⟨by rw [HE.out]; rfl, hbr⟩
end Go.Proofs.YtlodenfdcckemaaDoor

/-
  The document's examples 3 and 4, by what follows at once (of no program's walk).
-/

namespace Go.Proofs.YtlodenfdcckemaaDoor
open Go.RowKit

/-- Example 4's clauses. -/
def ex4 : List (List Int) := [[1, 2], [1, -2], [-1, 2], [-1, -2]]
/-- Example 3's clauses. -/
def ex3 : List (List Int) := [[1, -2], [2]]

theorem ex4_conf1 : Conf ex4 (fun l => l ∈ [(-1 : Int)]) := by
  have f1 : Fol ex4 (fun l => l ∈ [(-1 : Int)]) (-1) := .given (by simp)
  have f2 : Fol ex4 (fun l => l ∈ [(-1 : Int)]) 2 := .unit (c := [1, 2]) (by simp [ex4]) (by simp) (fun m hm hne => by
    simp at hm
    rcases hm with rfl | rfl
    · exact f1
    · exact absurd rfl hne)
  have f3 : Fol ex4 (fun l => l ∈ [(-1 : Int)]) (-2) := .unit (c := [1, -2]) (by simp [ex4]) (by simp) (fun m hm hne => by
    simp at hm
    rcases hm with rfl | rfl
    · exact f1
    · exact absurd rfl hne)
  exact .inl ⟨2, f2, f3⟩

theorem ex4_conf2 : Conf (ex4 ++ [[1]]) (fun l => l ∈ ([] : List Int)) := by
  have f1 : Fol (ex4 ++ [[1]]) (fun l => l ∈ ([] : List Int)) 1 := .unit (c := [1]) (by simp [ex4]) (by simp) (fun m hm hne => by
    simp at hm
    exact absurd hm hne)
  have f2 : Fol (ex4 ++ [[1]]) (fun l => l ∈ ([] : List Int)) 2 := .unit (c := [-1, 2]) (by simp [ex4]) (by simp) (fun m hm hne => by
    simp at hm
    rcases hm with rfl | rfl
    · simpa using f1
    · exact absurd rfl hne)
  have f3 : Fol (ex4 ++ [[1]]) (fun l => l ∈ ([] : List Int)) (-2) := .unit (c := [-1, -2]) (by simp [ex4]) (by simp) (fun m hm hne => by
    simp at hm
    rcases hm with rfl | rfl
    · simpa using f1
    · exact absurd rfl hne)
  exact .inl ⟨2, f2, f3⟩

theorem ex4_free : ¬ Conf ex4 (fun l => l ∈ ([] : List Int)) := by
  have h : Shut ex4 (fun l => l ∈ ([] : List Int)) (fun _ => False) := by
    refine ⟨fun l hl => by simp at hl, fun l h => h.elim, fun c hc => ?_, fun c hc l hl hall => ?_⟩
    · simp [ex4] at hc
      rcases hc with rfl | rfl | rfl | rfl
      · exact ⟨1, by simp, fun h => h⟩
      · exact ⟨1, by simp, fun h => h⟩
      · exact ⟨-1, by simp, fun h => h⟩
      · exact ⟨-1, by simp, fun h => h⟩
    · simp [ex4] at hc
      rcases hc with rfl | rfl | rfl | rfl <;> simp at hl hall <;> rcases hl with rfl | rfl <;> simp at hall
  exact h.noconf

theorem ex4_check : checkOf 2 ex4 0 [[1], []] = (2, 0) := by
  have h1 : clauseFault ((2 : Nat) : Int) [1] = 0 := by decide
  have h2 : clauseFault ((2 : Nat) : Int) [] = 0 := by decide
  rw [checkOf, if_neg (by rw [h1]; simp), if_pos (by simpa using ex4_conf1), if_neg (by simp), checkOf, if_neg (by rw [h2]; simp), if_pos (by simpa using ex4_conf2), if_pos (by simp)]
  rfl

theorem ex4_check0 : checkOf 2 ex4 0 [[]] = (0, 7) := by
  have h2 : clauseFault ((2 : Nat) : Int) [] = 0 := by decide
  rw [checkOf, if_neg (by rw [h2]; simp), if_neg (by simpa using ex4_free)]
  rfl

theorem ex3_prop : PRes 2 ex3 [] [1, 2] false 0 := by
  have f2 : Fol ex3 (fun l => l ∈ ([] : List Int)) 2 := .unit (c := [2]) (by simp [ex3]) (by simp) (fun m hm hne => by
    simp at hm
    exact absurd hm hne)
  have f1 : Fol ex3 (fun l => l ∈ ([] : List Int)) 1 := .unit (c := [1, -2]) (by simp [ex3]) (by simp) (fun m hm hne => by
    simp at hm
    rcases hm with rfl | rfl
    · exact absurd rfl hne
    · simpa using f2)
  have h : Shut ex3 (fun l => l ∈ ([] : List Int)) (fun l => l = 1 ∨ l = 2) := by
    refine ⟨fun l hl => by simp at hl, fun l h => by omega, fun c hc => ?_, fun c hc l hl hall => ?_⟩
    · simp [ex3] at hc
      rcases hc with rfl | rfl
      · exact ⟨1, by simp, by omega⟩
      · exact ⟨2, by simp, by omega⟩
    · simp [ex3] at hc
      rcases hc with rfl | rfl
      · simp at hl
        rcases hl with rfl | rfl
        · exact Or.inl rfl
        · have := hall 1 (by simp) (by omega)
          omega
      · simp at hl
        exact Or.inr hl
  refine Or.inr (Or.inr ⟨by decide, h.noconf, rfl, rfl, fun l => decide (l = 1 ∨ l = 2), fun l _ => ⟨fun ht => ?_, fun hF => by simpa using h.fol hF⟩, fun l hF => ?_, by decide⟩)
  · have ht : l = 1 ∨ l = 2 := by simpa using ht
    rcases ht with rfl | rfl
    · exact f1
    · exact f2
  · rcases h.fol hF with rfl | rfl
    · exact ⟨by decide, by decide, by decide⟩
    · exact ⟨by decide, by decide, by decide⟩

theorem ex4_fault : (fault 2 ex4).1 = 0 := by decide
theorem ex3_fault : (fault 2 ex3).1 = 0 := by decide
theorem ex4_good : Good 2 ex4 := by
  obtain ⟨n, h, hg⟩ := good_of (vars := 2) ex4_fault
  have : n = 2 := by omega
  subst this; exact hg
theorem ex3_good : Good 2 ex3 := by
  obtain ⟨n, h, hg⟩ := good_of (vars := 2) ex3_fault
  have : n = 2 := by omega
  subst this; exact hg

/-! Raw numbers. -/

/-- Which of n things a raw number speaks of. -/
def pickOf (c n : Int) : Int := (if c < 0 then -(c + 1) else c) % n
/-- The literal that a raw number spells. -/
def litBy (c V : Int) : Int := if pickOf c (2 * V) < V then pickOf c (2 * V) + 1 else V - pickOf c (2 * V) - 1

theorem pickOf_range (c : Int) {n : Int} (hn : 0 < n) : 0 ≤ pickOf c n ∧ pickOf c n < n := ⟨Int.emod_nonneg _ (by omega), Int.emod_lt_of_pos _ hn⟩
theorem litBy_lit (c : Int) {V : Nat} (hV : 1 ≤ V) : IsLit V (litBy c V) := by
  have := pickOf_range c (show (0 : Int) < 2 * (V : Int) by omega)
  unfold litBy IsLit
  split <;> refine ⟨?_, ?_, ?_⟩ <;> omega

/-- The formula that raw numbers spell. -/
def rawV (vars most : Int) : Int := 1 + pickOf vars most
def rawC (V : Int) (raw : List (List Int)) : List (List Int) := (raw.take 60).map fun r => (r.take 4).map fun c => litBy c V
end Go.Proofs.YtlodenfdcckemaaDoor

/-
  The walks of the small functions of the statements without the document's answer.
-/

namespace Go.Proofs.YtlodenfdcckemaaDoor
open Go.RowKit

set_option maxHeartbeats 400000 in
theorem pick_any (c n : Int) (w : World) (h0 : -9223372036854775808 ≤ c) (h1 : c ≤ 9223372036854775807) (hn : 0 < n) (hn1 : n ≤ 9223372036854775807) :
    Calls Tryd.prog 57 #[.int .i64 c, .int .i64 n] w fun e w' => e = .returned (.int .i64 (pickOf c n)) ∧ w' = w := by
  by_cases h : c < 0
  · have HP : Hid (pickOf c n = -(c + 1).tmod n) := by
      unfold Hid pickOf; rw [if_pos h, ← Int.neg_tmod, Int.tmod_eq_emod_of_nonneg (by omega)]
    go_enter Tryd.func57, Tryd.ntmps57
    go_wp2
    go_ret
    exact ⟨by rw [HP.out]; rfl, rfl⟩
  · have HP : Hid (pickOf c n = c % n) := by
      unfold Hid pickOf; rw [if_neg h]
    go_enter Tryd.func57, Tryd.ntmps57
    go_wp2
    go_ret
    exact ⟨by rw [HP.out]; rfl, rfl⟩

set_option maxHeartbeats 400000 in
theorem kliteral_any (c : Int) (V : Nat) (w : World) (h0 : -9223372036854775808 ≤ c) (h1 : c ≤ 9223372036854775807) (hV : 1 ≤ V) (hV2 : V ≤ 20) :
    Calls Tryd.prog 31 #[.int .i64 c, .int .i64 V] w fun e w' => e = .returned (.int .i64 (litBy c V)) ∧ w' = w := by
  have hr := pickOf_range c (show (0 : Int) < 2 * (V : Int) by omega)
  have c1 := pick_any c (2 * (V : Int)) w h0 h1 (by omega) (by omega)
  have HD : Hid (litBy c V = if pickOf c (2 * (V : Int)) < V then pickOf c (2 * (V : Int)) + 1 else V - pickOf c (2 * (V : Int)) - 1) := rfl
  generalize pickOf c (2 * (V : Int)) = p at *
  by_cases h : p < (V : Int)
  · go_enter Tryd.func31, Tryd.ntmps31
    go_wp2_with (go_at_call 57; refine c1.mono ?_; rintro e w' ⟨rfl, hw'⟩; obtain rfl := hw'.symm)
    go_ret
    exact ⟨by rw [HD.out, if_pos h]; rfl, rfl⟩
  · go_enter Tryd.func31, Tryd.ntmps31
    go_wp2_with (go_at_call 57; refine c1.mono ?_; rintro e w' ⟨rfl, hw'⟩; obtain rfl := hw'.symm)
    go_ret
    exact ⟨by rw [HD.out, if_neg (by omega)]; rfl, rfl⟩

theorem i64_and1 (n : Nat) (hn : n < 9223372036854775808) : bits .and .i64 (n : Int) 1 = ((n % 2 : Nat) : Int) := by
  have h1 : (BitVec.ofInt 64 1).toNat = 2 ^ 1 - 1 := by decide
  have key : (BitVec.ofInt 64 (n : Int) &&& BitVec.ofInt 64 1).toNat = ((n : Int) % ((2 ^ 64 : Nat) : Int)).toNat % 2 ^ 1 := by
    rw [BitVec.toNat_and, BitVec.toNat_ofInt, h1, Nat.and_two_pow_sub_one_eq_mod]
  show IntKind.i64.wrap ((BitVec.ofInt 64 (n : Int) &&& BitVec.ofInt 64 1).toNat : Nat) = _
  rw [key, IntKind.wrap_i64]
  omega

/-- Is a literal true in an assignment? -/
def tIn (b : Nat) (l : Int) : Bool := if 0 < l then b.testBit (l - 1).toNat else !b.testBit (-l - 1).toNat

theorem bit_spell (b n : Nat) (hb : b < 9223372036854775808) : bits BinOp.and IntKind.i64 ((b : Int) / 2 ^ n) 1 = if b.testBit n then 1 else 0 := by
  have e : (b : Int) / 2 ^ n = ((b / 2 ^ n : Nat) : Int) := by simp
  have hlt : b / 2 ^ n < 9223372036854775808 := Nat.lt_of_le_of_lt (Nat.div_le_self _ _) hb
  rw [e, i64_and1 _ hlt]
  have h2 : b.testBit n = decide (b / 2 ^ n % 2 = 1) := by
    rw [Nat.testBit_eq_decide_div_mod_eq]
  rw [h2]
  by_cases h : b / 2 ^ n % 2 = 1
  · rw [decide_eq_true h, if_pos rfl]; omega
  · rw [decide_eq_false h, if_neg (by decide)]; omega

set_option maxHeartbeats 400000 in
theorem trueIn_any (b : Nat) (l : Int) (w : World) (hb : b < 9223372036854775808) (hl : l ≠ 0) (h1 : l ≤ 20) (h2 : -20 ≤ l) :
    Calls Tryd.prog 33 #[.int .i64 b, .int .i64 l] w fun e w' => e = .returned (.bool (tIn b l)) ∧ w' = w := by
  have HL : Hid (l ≠ 0) := hl
  clear hl
  by_cases h : 0 < l
  · have HB : Hid _ := bit_spell b (l.toNat - 1) hb
    have HT : Hid (tIn b l = b.testBit (l.toNat - 1)) := by unfold Hid tIn; rw [if_pos h, show (l - 1).toNat = l.toNat - 1 by omega]
    go_enter Tryd.func33, Tryd.ntmps33
    go_wp2
    go_ret
    refine ⟨congrArg (fun x => Ending.returned (.bool x)) ?_, rfl⟩
    rw [HT.out, HB.out]
    cases b.testBit (l.toNat - 1) <;> rfl
  · have h0 := HL.out
    obtain ⟨k, hk⟩ : ∃ k : Nat, l = -((k : Int) + 1) := ⟨(-l - 1).toNat, by omega⟩
    clear h0
    have hk19 : k ≤ 19 := by omega
    subst hk
    have HB : Hid _ := bit_spell b k hb
    have HT : Hid (tIn b (-((k : Int) + 1)) = !b.testBit k) := by
      unfold Hid tIn
      rw [if_neg (by omega), show (-(-((k : Int) + 1)) - 1).toNat = k by omega]
    go_enter Tryd.func33, Tryd.ntmps33
    go_wp2
    go_ret
    refine ⟨congrArg (fun x => Ending.returned (.bool x)) ?_, rfl⟩
    rw [HT.out, HB.out]
    cases b.testBit k <;> rfl

set_option maxHeartbeats 1000000 in
theorem kcontains_any (ao : Option Addr) (cap : Nat) (zs : List Int) (x : Int) (w : World) (hc : IntsAt w w.heap.size ao zs) (hl : zs.length ≤ 4611686018427387904) :
    Calls Tryd.prog 34 #[.slice ao zs.length cap, .int .i64 x] w fun e w' => e = .returned (.bool (decide (x ∈ zs))) ∧ w' = w := by
  go_enter Tryd.func34, Tryd.ntmps34
  go_wp2
  go_loop [5] (fun i => ∃ k : Nat, k ≤ zs.length ∧ i = .int .i64 k ∧ Hid (x ∉ zs.take k)) (fun i => zs.length - (intOf i).toNat)
  case atStart => exact ⟨0, Nat.zero_le _, rfl, by unfold Hid; simp⟩
  case round =>
    obtain ⟨k, hk, rfl, HN⟩ := hrel
    by_cases hlt : k < zs.length
    · obtain ⟨b, o, rfl, hb, hcell⟩ := hc (by intro h; rw [h] at hlt; simp at hlt)
      have hck := hcell k hlt
      have HT : Hid (zs.take (k + 1) = zs.take k ++ [zs.getD k 0]) := take_succ_getD zs k hlt
      have HM : Hid (zs.getD k 0 ∈ zs) := by unfold Hid; rw [getD_lt _ _ _ hlt]; exact List.getElem_mem hlt
      generalize zs.getD k 0 = y at hck HT HM
      clear hcell hc
      by_cases hxy : y = x
      · subst hxy
        have hyy : (y == y) = true := by simp
        go_wp2
        go_ret
        exact ⟨by rw [decide_eq_true HM.out]; rfl, rfl⟩
      · have hyy : (y == x) = false := by simp [hxy]
        have HXY : Hid (¬ y = x) := hxy
        clear hxy
        go_wp2
        go_round
        case rel =>
          refine ⟨k + 1, by omega, by go_num, ?_⟩
          unfold Hid
          rw [HT.out, List.mem_append]
          rintro (h | h)
          · exact HN.out h
          · rw [List.mem_singleton] at h; exact HXY.out h.symm
        case measure => simp [intOf]; omega
    · obtain rfl : k = zs.length := by omega
      have HE : Hid (x ∉ zs) := by
        have := HN.out
        rwa [List.take_length] at this
      go_wp2
      go_ret
      exact ⟨by rw [decide_eq_false HE.out]; rfl, rfl⟩

/-- Does an assignment make clauses true? -/
def makesB (b : Nat) (cs : List (List Int)) : Bool := cs.all fun c => c.any (tIn b)

theorem any_take_succ (p : Int → Bool) (c : List Int) (k : Nat) (hk : k < c.length) : (c.take (k + 1)).any p = ((c.take k).any p || p (c.getD k 0)) := by
  rw [take_succ_getD c k hk, List.any_append]; simp

set_option maxHeartbeats 2000000 in
theorem makes_any (V : Nat) (hV : V ≤ 20) (b : Nat) (hb : b < 9223372036854775808) (ao : Option Addr) (cap : Nat) (cs : List (List Int)) (w : World) (hc : ListsAt w w.heap.size ao cs) (hlit : ∀ c ∈ cs, ∀ l ∈ c, IsLit V l) (hlen : cs.length ≤ 4611686018427387904) (heach : ∀ c ∈ cs, c.length ≤ 4611686018427387904) :
    Calls Tryd.prog 32 #[.int .i64 b, .slice ao cs.length cap] w fun e w' => e = .returned (.bool (makesB b cs)) ∧ w' = w := by
  go_enter Tryd.func32, Tryd.ntmps32
  go_wp2
  go_loop [5] (fun i => ∃ k : Nat, k ≤ cs.length ∧ i = .int .i64 k ∧ Hid (makesB b (cs.take k) = true)) (fun i => cs.length - (intOf i).toNat)
  case atStart => exact ⟨0, Nat.zero_le _, rfl, by unfold Hid makesB; simp⟩
  case round =>
    obtain ⟨k, hk, rfl, HM⟩ := hrel
    by_cases hlt : k < cs.length
    · obtain ⟨b0, o0, rfl, hb0, hcell⟩ := hc (by intro h; rw [h] at hlt; simp at hlt)
      obtain ⟨A, Cc, hck, hin⟩ := hcell k hlt
      have hmem := mem_lists hlt
      have hl := hlit _ hmem
      have he := heach _ hmem
      have HT : Hid (cs.take (k + 1) = cs.take k ++ [cs.getD k []]) := take_succ_lists cs k hlt
      have HMem : Hid (cs.getD k [] ∈ cs) := hmem
      generalize cs.getD k [] = c at hck hin hl he HT HMem
      have HIn : Hid (IntsAt w w.heap.size A c) := hin
      have HL : Hid (∀ l ∈ c, IsLit V l) := hl
      clear hcell hmem hin hl hc
      go_wp2
      go_loop [6, 7] (fun ok x => ∃ j : Nat, j ≤ c.length ∧ x = .int .i64 j ∧ ok = .bool ((c.take j).any (tIn b))) (fun _ x => c.length - (intOf x).toNat)
      case atStart => exact ⟨0, Nat.zero_le _, rfl, by simp⟩
      case round =>
        obtain ⟨j, hj, rfl, rfl⟩ := hrel
        by_cases hlj : j < c.length
        · obtain ⟨b1, o1, rfl, hb1, hcell1⟩ := HIn.out (by intro h; rw [h] at hlj; simp at hlj)
          have hcx := hcell1 j hlj
          have hx := HL.out (c.getD j 0) (by rw [getD_lt _ _ _ hlj]; exact List.getElem_mem hlj)
          have HA : Hid _ := any_take_succ (tIn b) c j hlj
          generalize c.getD j 0 = x at hcx hx HA
          obtain ⟨hx0, hx1, hx2⟩ := hx
          have c1 := trueIn_any b x w hb hx0 (by omega) (by omega)
          clear hcell1 hx0
          generalize (c.take j).any (tIn b) = acc at *
          generalize tIn b x = t at *
          cases acc with
          | true =>
            go_wp2_with (go_at_call 33; refine c1.mono ?_; rintro e w' ⟨rfl, hw'⟩; obtain rfl := hw'.symm)
            go_round
            case rel => exact ⟨j + 1, by omega, by go_num, by rw [HA.out]; rfl⟩
            case measure => simp [intOf]; omega
          | false =>
            go_wp2_with (go_at_call 33; refine c1.mono ?_; rintro e w' ⟨rfl, hw'⟩; obtain rfl := hw'.symm)
            go_round
            case rel => exact ⟨j + 1, by omega, by go_num, by rw [HA.out]; rfl⟩
            case measure => simp [intOf]; omega
        · obtain rfl : j = c.length := by omega
          rw [List.take_length]
          cases hok : c.any (tIn b) with
          | true =>
            have HM2 : Hid (makesB b (cs.take (k + 1)) = true) := by
              unfold Hid
              have := HM.out
              unfold makesB at this ⊢
              rw [HT.out, List.all_append, this]
              simp [hok]
            clear hok
            go_wp2
            go_round
            case rel => exact ⟨k + 1, by omega, by go_num, HM2⟩
            case measure => simp [intOf]; omega
          | false =>
            have HF : Hid (makesB b cs = false) := by
              unfold Hid makesB
              rw [List.all_eq_false]
              exact ⟨c, HMem.out, by simp [hok]⟩
            clear hok
            go_wp2
            go_ret
            exact ⟨by rw [HF.out]; rfl, rfl⟩
    · obtain rfl : k = cs.length := by omega
      have HE : Hid (makesB b cs = true) := by
        have := HM.out
        rwa [List.take_length] at this
      go_wp2
      go_ret
      exact ⟨by rw [HE.out]; rfl, rfl⟩
end Go.Proofs.YtlodenfdcckemaaDoor

/-
  The walks of the program's weights.
-/

namespace Go.Proofs.YtlodenfdcckemaaDoor
open Go.RowKit

attribute [local go_sem] run_store_float

theorem Tryd.info159 : (Tryd.prog.info? 159).map (fun i => (i.zero, i.size, i.bytes)) = some (some (.float .f64 0), 1, 8) := by kernel_rfl

set_option maxHeartbeats 400000 in
theorem place_any (x : Int) (w : World) (h : x ≠ 0 ∧ x ≤ 20 ∧ -20 ≤ x) :
    Calls Tryd.prog 67 #[.int .i64 x] w fun e w' => e = .returned (.int .i64 (placeOf x)) ∧ w' = w := by
  obtain ⟨h0, h1, h2⟩ := h
  by_cases hx : x < 0
  · have hf : Hid ((placeOf x : Int) = 2 * (-x - 1) + 1) := by unfold Hid placeOf; rw [if_pos hx]; omega
    go_enter Tryd.func67, Tryd.ntmps67
    go_wp2
    go_ret
    exact ⟨by rw [hf.out]; rfl, rfl⟩
  · have hf : Hid ((placeOf x : Int) = 2 * (x - 1)) := by unfold Hid placeOf; rw [if_neg hx]; omega
    go_enter Tryd.func67, Tryd.ntmps67
    go_wp2
    go_ret
    exact ⟨by rw [hf.out]; rfl, rfl⟩

/-- The cells of the literals' weights, the first k clauses counted, and the first j literals of clause c. -/
def litCells (n : Nat) (cs : List (List Int)) (k : Nat) (c : List Int) (j : Nat) : List Value :=
  (List.range (2 * n)).map fun i => .float .f64 (Fl.W (partsOf (cs.take k) (litAt i) + partsIn c.length (c.take j) (litAt i)))

theorem litCells_zero (n : Nat) (cs : List (List Int)) (k : Nat) (c d : List Int) : litCells n cs k c 0 = litCells n cs k d 0 := by
  unfold litCells
  exact range_congr _ _ _ fun i _ => by simp [partsIn]

theorem litCells_start (n : Nat) (cs : List (List Int)) (c : List Int) : List.replicate (2 * n) (Value.float .f64 0) = litCells n cs 0 c 0 := by
  rw [replicate_range]
  unfold litCells
  refine range_congr _ _ _ fun i _ => ?_
  simp [partsIn, partsOf]
  rfl

theorem litCells_next (n : Nat) (cs : List (List Int)) (k : Nat) (hk : k < cs.length) : litCells n cs k (cs.getD k []) (cs.getD k []).length = litCells n cs (k + 1) [] 0 := by
  unfold litCells
  refine range_congr _ _ _ fun i _ => ?_
  rw [partsOf_take _ _ hk]
  simp [partsIn]

theorem litCells_step (n : Nat) (cs : List (List Int)) (k : Nat) (c : List Int) (j : Nat) (hj : j < c.length) (x : Int) (hx : x = c.getD j 0) (h0 : x ≠ 0) (p : Nat) (hp : p = partsOf (cs.take k) x + partsIn c.length (c.take j) x) :
    (litCells n cs k c j).set (placeOf x) (.float .f64 (Fl.W (p + 2 ^ (20 - c.length)))) = litCells n cs k c (j + 1) := by
  unfold litCells
  rw [range_set]
  refine range_congr _ _ _ fun i _ => ?_
  rw [partsIn_take _ _ _ hj, ← hx]
  by_cases e : i = placeOf x
  · subst e
    rw [if_pos rfl, litAt_placeOf h0, if_pos rfl, hp, Nat.add_assoc]
  · rw [if_neg e, if_neg (fun h => e ((litAt_eq h0 i).1 h)), Nat.add_zero]

theorem litCells_at (n : Nat) (cs : List (List Int)) (k : Nat) (c : List Int) (j : Nat) (x : Int) (h0 : x ≠ 0) (hlt : placeOf x < 2 * n) :
    (litCells n cs k c j).getD (placeOf x) undef = .float .f64 (Fl.W (partsOf (cs.take k) x + partsIn c.length (c.take j) x)) := by
  unfold litCells
  rw [range_getD _ _ _ _ hlt, litAt_placeOf h0]

theorem float_nat (a : Nat) : floatOfInt .f64 (a : Int) = Fl.F a := by
  show Ieee.double.nearest (decide ((a : Int) < 0)) (Int.natAbs (a : Int)) 0 = _
  rw [decide_eq_false (by omega), Int.natAbs_natCast]
  rfl

theorem float_sh (q : Nat) (hq : q ≤ 20) : floatOfInt .f64 (wrap64 (2 ^ q)) = Fl.F (2 ^ q) := by
  have hw : ∀ q : Fin 21, floatOfInt .f64 (wrap64 (2 ^ q.1)) = Fl.F (2 ^ q.1) := by decide +kernel
  exact hw ⟨q, by omega⟩

set_option maxHeartbeats 1000000 in
theorem ofLiterals_any (n : Nat) (ao : Option Addr) (cap : Nat) (cs : List (List Int)) (w : World) (hc : ListsAt w w.heap.size ao cs) (hg : Good n cs) :
    Calls Tryd.prog 113 #[.agg #[.int .i64 n, .slice ao cs.length cap]] w fun e w' => ∃ g, e = .returned (.slice (some ⟨g, 0, none⟩) (2 * n) (2 * n)) ∧ w.heap.size ≤ g ∧
      Blk w' g 159 (litCells n cs cs.length [] 0) ∧ Below w.heap.size w w' := by
  have hn := hg.vars
  have hm := hg.many
  have hL : Hid (∀ c, List.replicate (2 * n) (Value.float .f64 0) = litCells n cs 0 c 0) := fun c => litCells_start n cs c
  go_enter Tryd.func113, Tryd.ntmps113
  go_wp2_with (first
    | (at_make; refine wpList_make_blk _ rfl (.tmp 11) (.tmp 11) 156 rfl 159 (.float .f64 0) 8 Tryd.underlying156 Tryd.info159 rfl .i64 .i64 (2 * n) _ _ rfl rfl (by omega) (by omega) (by omega) (by omega) ?_; rw [hL.out []]; intro w1 hB1 hb1 hs1; have c1 : w1.cell? ⟨w.heap.size, 1, none⟩ = some (.slice ao cs.length cap) := (hb1.cell (p := ⟨w.heap.size, 1, none⟩) (by simp)).trans (by simp)))
  go_loopw [16] (fun i wr => ∃ (k : Nat), k ≤ cs.length ∧ i = .int .i64 k ∧ Blk wr (w.heap.size + 1) 159 (litCells n cs k [] 0) ∧ Below w.heap.size w wr) (fun i _ => cs.length - (intOf i).toNat)
  case atStart =>
    refine ⟨0, by omega, rfl, ?_, ?_⟩
    · simpa using hB1
    · exact ((Below.refl _ _).alloc (Nat.le_refl _) _).trans (hb1.mono (by simp))
  case round =>
    clear hB1 hb1 hs1 c1
    obtain ⟨k, hk, rfl, hB, hb⟩ := hrel
    by_cases hlt : k < cs.length
    · obtain ⟨b, o, rfl, hbl, hcc⟩ := hc (by intro h; rw [h] at hlt; simp at hlt)
      obtain ⟨A, C, hck, hci⟩ := hcc k hlt
      have hck1 := (hb.cell (p := ⟨b, o + k, none⟩) hbl).trans hck
      have hmem : cs.getD k [] ∈ cs := by rw [getD_lt _ _ _ hlt]; exact List.getElem_mem hlt
      have hcl := hg.long _ hmem
      have hlits : Hid _ := hg.lits _ hmem
      have hnext : Hid _ := litCells_next n cs k hlt
      obtain ⟨c, hx⟩ : ∃ x, x = cs.getD k [] := ⟨_, rfl⟩
      rw [← hx] at hck1 hci hcl hlits hnext
      have hBc : Blk wr (w.heap.size + 1) 159 (litCells n cs k c 0) := litCells_zero n cs k [] c ▸ hB
      have hdv : ∀ w, (binOp .quo 159 (.float .f64 4607182418800017408) (.float .f64 (Fl.F (2 ^ c.length)))).run Tryd.prog w = .ok (.float .f64 (Fl.W (2 ^ (20 - c.length)))) w := fun w => run_float_arith w .quo 159 .f64 _ _ _ (Fl.one_div _ hcl)
      have hfl := float_sh c.length hcl
      have h2p : 2 ^ (20 - c.length) ≤ 1048576 := Nat.pow_le_pow_right (n := 2) (by omega) (show 20 - c.length ≤ 20 by omega)
      obtain ⟨e2, he⟩ : ∃ e2, e2 = 2 ^ (20 - c.length) := ⟨_, rfl⟩
      rw [← he] at hdv h2p
      have HE : Hid (e2 = 2 ^ (20 - c.length)) := he
      clear he
      clear hx hcc hck hB
      go_wp2
      go_loopw [27] (fun i wr => ∃ (j : Nat), j ≤ c.length ∧ i = .int .i64 j ∧ Blk wr (w.heap.size + 1) 159 (litCells n cs k c j) ∧ Below w.heap.size w wr) (fun i _ => c.length - (intOf i).toNat)
      case atStart => exact ⟨0, by omega, rfl, hBc, hb⟩
      case round =>
        clear hBc hb hck1 hfl hdv
        obtain ⟨j, hj, rfl, hB, hb⟩ := hrel
        by_cases hjl : j < c.length
        · obtain ⟨b', o', rfl, hb', hcell'⟩ := hci (by intro h; rw [h] at hjl; simp at hjl)
          have hcj := (hb.cell (p := ⟨b', o' + j, none⟩) hb').trans (hcell' j hjl)
          have hbd := hlits.out _ (show c.getD j 0 ∈ c by rw [getD_lt _ _ _ hjl]; exact List.getElem_mem hjl)
          obtain ⟨x, hx⟩ : ∃ x, x = c.getD j 0 := ⟨_, rfl⟩
          rw [← hx] at hcj hbd
          have hpl := placeOf_lt hbd
          have hcell := hB.cell (i := placeOf x) (by simp [litCells, hpl]) undef
          rw [litCells_at _ _ _ _ _ _ hbd.1 hpl] at hcell
          have hfr := hB.frozen (placeOf x)
          have hst := litCells_step n cs k c j hjl x hx hbd.1 _ rfl
          have hset := hB.set (placeOf x) (.float .f64 (Fl.W (partsOf (cs.take k) x + partsIn c.length (c.take j) x + 2 ^ (20 - c.length))))
          rw [hst] at hset
          have hpb := hg.parts_take_le k x
          have hpi := partsIn_le c.length (c.take j) x (by simp; omega)
          obtain ⟨p, hp⟩ : ∃ p, p = partsOf (cs.take k) x + partsIn c.length (c.take j) x := ⟨_, rfl⟩
          rw [← hp] at hcell hset
          rw [← HE.out] at hset
          have HS : Hid _ := hset
          have hadd : ∀ w, (binOp .add 159 (.float .f64 (Fl.W p)) (.float .f64 (Fl.W e2))).run Tryd.prog w = .ok (.float .f64 (Fl.W (p + e2))) w := fun w => run_float_arith w .add 159 .f64 _ _ _ (Fl.add_W _ _ (by omega) (by omega))
          have hxb : x ≠ 0 ∧ x ≤ 20 ∧ -20 ≤ x := ⟨hbd.1, by omega, by omega⟩
          have HX : Hid (x ≠ 0 ∧ x ≤ 20 ∧ -20 ≤ x) := hxb
          obtain ⟨q, hq⟩ : ∃ q, q = placeOf x := ⟨_, rfl⟩
          rw [← hq] at hcell hfr HS hpl
          have HQ : Hid (q = placeOf x) := hq
          clear hxb hbd hset hst hpb hpi hp hcell' hx hq hg hlits
          go_wp2_with (go_at_call 67; refine (place_any x _ HX.out).mono ?_; rintro e w' ⟨rfl, rfl⟩; rw [← HQ.out])
          go_roundw
          case rel => exact ⟨j + 1, by omega, by go_num, HS.out, hb.setCell (by simp) _⟩
          case measure => simp [intOf]; omega
        · obtain rfl : j = c.length := by omega
          rw [hnext.out] at hB
          go_wp2
          go_roundw
          case rel => exact ⟨k + 1, by omega, by go_num, hB, hb⟩
          case measure => simp [intOf]; omega
    · obtain rfl : k = cs.length := by omega
      go_wp2
      go_ret
      exact ⟨_, rfl, by simp, hB, hb⟩
end Go.Proofs.YtlodenfdcckemaaDoor

/-
  The walks of the program's weights of variables.
-/

namespace Go.Proofs.YtlodenfdcckemaaDoor
open Go.RowKit

attribute [local go_sem] run_store_float

/-- What variable i + 1 weighs, in parts. -/
def weight (cs : List (List Int)) (i : Nat) : Nat := partsOf cs (litAt (2 * i)) + partsOf cs (litAt (2 * i + 1))

theorem Good.weight_le {n : Nat} {cs : List (List Int)} (h : Good n cs) (i : Nat) : weight cs i ≤ 8388608000 := by
  have h1 := h.parts_le (litAt (2 * i))
  have h2 := h.parts_le (litAt (2 * i + 1))
  unfold weight
  omega

/-- The cells of the variables' weights, the first k of them. -/
def varCells (n : Nat) (cs : List (List Int)) (k : Nat) : List Value := (List.range n).map fun i => .float .f64 (if i < k then Fl.W (weight cs i) else 0)

theorem varCells_start (n : Nat) (cs : List (List Int)) : List.replicate n (Value.float .f64 0) = varCells n cs 0 := by
  rw [replicate_range]
  unfold varCells
  exact range_congr _ _ _ fun i _ => by simp

theorem varCells_step (n : Nat) (cs : List (List Int)) (k : Nat) : (varCells n cs k).set k (.float .f64 (Fl.W (weight cs k))) = varCells n cs (k + 1) := by
  unfold varCells
  rw [range_set]
  refine range_congr _ _ _ fun i _ => ?_
  by_cases e : i = k
  · subst e; simp
  · rw [if_neg e]
    by_cases h : i < k
    · rw [if_pos h, if_pos (by omega)]
    · rw [if_neg h, if_neg (by omega)]

theorem litCells_get (n : Nat) (cs : List (List Int)) (i : Nat) (h : i < 2 * n) : (litCells n cs cs.length [] 0).getD i undef = .float .f64 (Fl.W (partsOf cs (litAt i))) := by
  unfold litCells
  rw [range_getD _ _ _ _ h]
  simp [partsIn]

theorem wrapI {x : Int} (h0 : -9223372036854775808 ≤ x) (h1 : x ≤ 9223372036854775807) : IntKind.i64.wrap x = x := by
  have := @IntKind.wrap_i64 x
  rw [this]
  omega

set_option maxHeartbeats 1000000 in
theorem ofVariables_any (n : Nat) (ao : Option Addr) (cap : Nat) (cs : List (List Int)) (w : World) (hc : ListsAt w w.heap.size ao cs) (hg : Good n cs) :
    Calls Tryd.prog 127 #[.agg #[.int .i64 n, .slice ao cs.length cap]] w fun e w' => ∃ g, e = .returned (.slice (some ⟨g, 0, none⟩) n n) ∧ w.heap.size ≤ g ∧
      Blk w' g 159 (varCells n cs n) ∧ Below w.heap.size w w' := by
  have hn := hg.vars
  have hw1 : Below w.heap.size w (w.alloc (.cells #[.int .i64 n, .slice ao cs.length cap] 31)) := (Below.refl _ _).alloc (Nat.le_refl _) _
  have hc1 : Hid (ListsAt (w.alloc (.cells #[.int .i64 n, .slice ao cs.length cap] 31)) (w.alloc (.cells #[.int .i64 n, .slice ao cs.length cap] 31)).heap.size ao cs) := (hc.below hw1 (Nat.le_refl _)).mono hw1.size
  have hL : Hid (List.replicate n (Value.float .f64 0) = varCells n cs 0) := varCells_start n cs
  clear hc
  go_enter Tryd.func127, Tryd.ntmps127
  go_wp2_with (first
    | (go_at_call 113; refine (ofLiterals_any n ao cap cs _ hc1.out hg).mono ?_; rintro e w1 ⟨g1, rfl, hg1, hB1, hb1⟩; have c0 : w1.cell? ⟨w.heap.size, 0, none⟩ = some (.int .i64 n) := (hb1.cell (p := ⟨w.heap.size, 0, none⟩) (by simp)).trans (by simp))
    | (at_make; refine wpList_make_blk _ rfl (.tmp 9) (.tmp 9) 156 rfl 159 (.float .f64 0) 8 Tryd.underlying156 Tryd.info159 rfl .i64 .i64 n _ _ rfl rfl (by omega) (by omega) (by omega) (by omega) ?_; rw [hL.out]; intro w2 hB2 hb2 hs2))
  have hG : g1 < w1.heap.size := hB1.lt
  go_loopw [13] (fun i wr => ∃ (k : Nat), k ≤ n ∧ i = .int .i64 k ∧ Blk wr g1 159 (litCells n cs cs.length [] 0) ∧ Blk wr w1.heap.size 159 (varCells n cs k) ∧ Below w.heap.size w wr) (fun i _ => n - (intOf i).toNat)
  case atStart => exact ⟨0, by omega, rfl, hB1.below' hb2, hB2, (hw1.trans (hb1.mono (by simp))).trans (hb2.mono (by have := hb1.size; simp at this; omega))⟩
  case round =>
    have hsz1 : w.heap.size ≤ w1.heap.size := by have := hb1.size; simp at this; omega
    clear hB1 hb1 hb2 hs2 hB2 hc1 hL hw1 c0
    obtain ⟨k, hk, rfl, hBl, hBv, hb⟩ := hrel
    by_cases hlt : k < n
    · have h0 : wr.cell? ⟨g1, 2 * k, none⟩ = some _ := hBl.cell (i := 2 * k) (by simp [litCells]; omega) undef
      have h1 : wr.cell? ⟨g1, 2 * k + 1, none⟩ = some _ := hBl.cell (i := 2 * k + 1) (by simp [litCells]; omega) undef
      rw [litCells_get _ _ _ (by omega)] at h0 h1
      have hv : wr.cell? ⟨w1.heap.size, k, none⟩ = some _ := hBv.cell (i := k) (by simp [varCells]; omega) undef
      have hfr := hBv.frozen k
      have hset := hBv.set k (.float .f64 (Fl.W (weight cs k)))
      rw [varCells_step] at hset
      have hBl2 := hBl.setOther (a := ⟨w1.heap.size, k, none⟩) (by simp; omega) (.float .f64 (Fl.W (weight cs k)))
      have hadd : ∀ w, (binOp .add 159 (.float .f64 (Fl.W (partsOf cs (litAt (2 * k))))) (.float .f64 (Fl.W (partsOf cs (litAt (2 * k + 1)))))).run Tryd.prog w = .ok (.float .f64 (Fl.W (weight cs k))) w :=
        fun w => run_float_arith w .add 159 .f64 _ _ _ (Fl.add_W _ _ (by have := hg.parts_le (litAt (2 * k)); omega) (by have := hg.parts_le (litAt (2 * k + 1)); omega))
      have hk0 : Hid ((wr.setCell ⟨w1.heap.size, k, none⟩ (.float .f64 (Fl.W (weight cs k)))).cell? ⟨g1, 2 * k, none⟩ = some (.float .f64 (Fl.W (partsOf cs (litAt (2 * k)))))) := (hBl2.cell (i := 2 * k) (by simp [litCells]; omega) undef).trans (by rw [litCells_get _ _ _ (by omega)])
      have hk1 : Hid ((wr.setCell ⟨w1.heap.size, k, none⟩ (.float .f64 (Fl.W (weight cs k)))).cell? ⟨g1, 2 * k + 1, none⟩ = some (.float .f64 (Fl.W (partsOf cs (litAt (2 * k + 1)))))) := (hBl2.cell (i := 2 * k + 1) (by simp [litCells]; omega) undef).trans (by rw [litCells_get _ _ _ (by omega)])
      generalize partsOf cs (litAt (2 * k)) = p0 at *
      generalize partsOf cs (litAt (2 * k + 1)) = p1 at *
      generalize (varCells n cs k).getD k undef = old at *
      have hi0 : (0 : Int) ≤ (k : Int) := by omega
      have hi1 : (k : Int) < (n : Int) := by omega
      have hq0 : IntKind.i64.wrap (2 * (k : Int)) = 2 * (k : Int) := wrapI (by omega) (by omega)
      have hq1 : IntKind.i64.wrap (2 * (k : Int) + 1) = 2 * (k : Int) + 1 := wrapI (by omega) (by omega)
      have hi2 : (2 * (k : Int)) < 2 * (n : Int) := by omega
      have hi3 : (2 * (k : Int) + 1) < 2 * (n : Int) := by omega
      have hi4 : (0 : Int) ≤ 2 * (k : Int) := by omega
      have hi5 : (0 : Int) ≤ 2 * (k : Int) + 1 := by omega
      have ht0 : (2 * (k : Int)).toNat = 2 * k := by omega
      have ht1 : (2 * (k : Int) + 1).toNat = 2 * k + 1 := by omega
      go_wp2
      go_region_held3 (fun w' => w'.cell? ⟨g1, 2 * k, none⟩ = some (.float .f64 (Fl.W p0)) ∧ w'.cell? ⟨g1, 2 * k + 1, none⟩ = some (.float .f64 (Fl.W p1))) (first | exact ⟨hk0.out, hk1.out⟩ | go_keep) (fail)
      all_goals go_wp2
      go_roundw
      case rel => exact ⟨k + 1, by omega, by go_num, hBl2, hset, (hb.setCell (p := ⟨w1.heap.size, k, none⟩) hsz1 _).drew⟩
      case measure => simp [intOf]; omega
    · obtain rfl : k = n := by omega
      go_wp2
      go_ret
      exact ⟨_, rfl, hsz1, hBv, hb⟩
end Go.Proofs.YtlodenfdcckemaaDoor
