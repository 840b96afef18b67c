/-
  The walk of the document's Propagate.
-/
import Derived.Test.YtlodenfdcckemaaDoorH18
import Derived.Test.YtlodenfdcckemaaDoorH19
import Derived.Test.YtlodenfdcckemaaDoorH28
namespace Go.Proofs.YtlodenfdcckemaaDoor
open Go.RowKit

theorem tellOf_len (V : Nat) (T : Int → Bool) : (tellOf V T).length ≤ 2 * V := by
  unfold tellOf
  exact Nat.le_trans (List.length_filter_le _ _) (by simp)

theorem drewN_below {w : World} (n : Nat) : Below w.heap.size w (w.drewN n) := ⟨rfl, rfl, rfl, Nat.le_refl _, fun _ _ => rfl⟩

/-- What the document answers to literals that are ones. -/
def RPropRes (V : Nat) (C : List (List Int)) (g : List Int) (w0 w' : World) (e : Ending) : Prop :=
  ∃ bs, RDone V C (fun l => l ∈ g) bs ∧ ((crash bs = true ∧ e = .returned (.tuple #[.slice none 0 0, .bool true, .int .i64 0])) ∨ (crash bs = false ∧ ∃ v, e = .returned (.tuple #[v, .bool false, .int .i64 0]) ∧ Own w' w0.heap.size 3 v (ints (tellOf V (there bs)))))

set_option maxRecDepth 100000 in
set_option maxHeartbeats 4000000 in
theorem rprop_any (V : Nat) (hV : V ≤ 20) (ao go : Option Addr) (cap gcap : Nat) (cs : List (List Int)) (g : List Int) (w : World) (hc : ListsAt w w.heap.size ao cs) (hgi : IntsAt w w.heap.size go g) (hlit : ∀ c ∈ cs, ∀ l ∈ c, IsLit V l) (hlen : cs.length ≤ 200) (heach : ∀ c ∈ cs, c.length ≤ 20) (hgl : g.length ≤ 4611686018427387904) (hnum : ∀ l ∈ g, -9223372036854775808 ≤ l ∧ l ≤ 9223372036854775807) :
    Calls Tryd.prog 15 #[.agg #[.int .i64 V, .slice ao cs.length cap], .slice go g.length gcap] w fun e w' => ((litsFault V g ≠ 0 ∧ e = .returned (.tuple #[.slice none 0 0, .bool false, .int .i64 6])) ∨ (litsFault V g = 0 ∧ RPropRes V cs g w w' e)) ∧ Below w.heap.size w w' := by
  have b1 := alloc_below w (.cells #[.int .i64 V, .slice ao cs.length cap] 31)
  have B1 : Blk (w.alloc (.cells #[.int .i64 V, .slice ao cs.length cap] 31)) w.heap.size 31 [.int .i64 V, .slice ao cs.length cap] := blk_new w [.int .i64 V, .slice ao cs.length cap] 31
  have s1 := alloc_size w (.cells #[.int .i64 V, .slice ao cs.length cap] 31)
  go_enter Tryd.func15, Tryd.ntmps15
  go_wp2
  generalize w.alloc (.cells #[.int .i64 V, .slice ao cs.length cap] 31) = w1 at *
  have HB1 : Hid (Below w.heap.size w w1) := b1
  have hwl : w.heap.size < w1.heap.size := by omega
  have cV : w1.cell? ⟨w.heap.size, 0, none⟩ = some (.int .i64 V) := B1.cell (i := 0) (by simp) undef
  have cF : w1.cell? ⟨w.heap.size, 1, none⟩ = some (.slice ao cs.length cap) := B1.cell (i := 1) (by simp) undef
  clear b1 s1
  go_loopw [7] (fun x wr => ∃ (k q : Nat), k ≤ g.length ∧ x = .int .i64 k ∧ Hid ((g.take k).all (lit V) = true) ∧ wr = w1.drewN q) (fun x _ => g.length - (intOf x).toNat)
  case atStart => exact ⟨0, 0, Nat.zero_le _, rfl, (by unfold Hid; simp), rfl⟩
  case round =>
    obtain ⟨k, q, hk, rfl, HAl, rfl⟩ := hrel
    have cVq : (w1.drewN q).cell? ⟨w.heap.size, 0, none⟩ = some (.int .i64 V) := cV
    have cFq : (w1.drewN q).cell? ⟨w.heap.size, 1, none⟩ = some (.slice ao cs.length cap) := cF
    have hwq : w.heap.size < (w1.drewN q).heap.size := hwl
    have HBq : Hid (Below w.heap.size w (w1.drewN q)) := HB1.out.trans ((drewN_below q).mono HB1.out.size)
    have HQ : Hid (w1.drewN q = w1.drewN q) := rfl
    by_cases hlk : k < g.length
    · have hgq := hgi.below HBq.out (Nat.le_refl _)
      obtain ⟨b', o', rfl, hb', hcell'⟩ := hgq (by intro h; rw [h] at hlk; simp at hlk)
      have hcx := hcell' k hlk
      have hmem : g.getD k 0 ∈ g := by rw [getD_lt _ _ _ hlk]; exact List.getElem_mem hlk
      obtain ⟨hx0, hx1⟩ := hnum _ hmem
      have HAT : Hid _ := all_take_succ (lit V) g k hlk
      have HAF : Hid (lit V (g.getD k 0) = false → g.all (lit V) = false) := fun h => all_false_of (lit V) g k hlk h
      generalize g.getD k 0 = x at hcx hx0 hx1 HAT HAF
      clear hcell' hgq hmem cV cF
      have cl := literal_any x V
      generalize hw3 : w1.drewN q = w3 at *
      have HW3 : Hid (w1.drewN q = w3) := hw3
      clear hw3 HQ
      cases hlx : lit V x with
      | false =>
        have HF : Hid (litsFault V g ≠ 0) := by unfold Hid; rw [litsFault_not (HAF.out hlx)]; decide
        rw [hlx] at cl
        clear hlx
        go_wp2
        go_quiet ((go_at_call 50; exact Calls.quiet_of_same (cl _ hx0 hx1 (by omega) (by omega))))
        go_wp2
        go_ret3
        exact ⟨Or.inl ⟨HF.out, rfl⟩, HBq.out.trans ((drewN_below _).mono HBq.out.size)⟩
      | true =>
        rw [hlx] at cl
        have HA2 : Hid ((g.take (k + 1)).all (lit V) = true) := by unfold Hid; rw [HAT.out, HAl.out, hlx]; rfl
        clear hlx
        go_wp2
        go_quiet ((go_at_call 50; exact Calls.quiet_of_same (cl _ hx0 hx1 (by omega) (by omega))))
        go_wp2
        go_roundw
        case rel => exact ⟨k + 1, q + nq, by omega, by go_num, HA2, by rw [← HW3.out, World.drewN_drewN]⟩
        case measure => simp [intOf]; omega
    · obtain rfl : k = g.length := by omega
      have hall : g.all (lit V) = true := by
        have := HAl.out
        rwa [List.take_length] at this
      have HL0 : Hid (litsFault V g = 0) := litsFault_all hall
      have hlits := lits_all HL0.out
      clear hall HAl cV cF
      generalize w1.drewN q = w3 at *
      have hsq := HBq.out.size
      have c1 := rfollow_any V hV ao none go cap 0 gcap cs [] g w3 ((hc.below HBq.out (Nat.le_refl _)).mono hsq) (fun h => absurd rfl h) ((hgi.below HBq.out (Nat.le_refl _)).mono hsq) hlit (fun c hc => by cases hc) hlits (by omega) (by simp) hgl heach (fun c hc => by cases hc)
      rw [List.append_nil, List.length_nil] at c1
      go_wp2_with fail
      refine c1.mono ?_
      rintro e w4 ⟨Hk, bs, rfl, hB4, hR4, hb4, hH4⟩
      have HB4 : Hid (Below w.heap.size w w4) := HBq.out.trans (hb4.mono hsq)
      have cV4 : w4.cell? ⟨w.heap.size, 0, none⟩ = some (.int .i64 V) := (hb4.cell (p := ⟨w.heap.size, 0, none⟩) hwq).trans cVq
      have hwl4 : w.heap.size < w4.heap.size := Nat.lt_of_lt_of_le hwq hb4.size
      have hbl := hR4.come.len
      have c64 := hB4.cell (i := 64) (by simp; omega) undef
      rw [bvs_get (by omega)] at c64
      have hHl := hB4.lt
      have HR4 : Hid (RDone V cs (fun l => l ∈ g) bs) := hR4
      have HBk : Hid (Blk w4 Hk 83 (bvs bs)) := hB4
      clear c1 hB4 hR4 hb4 cVq cFq
      cases hx : bs.getD 64 false with
      | true =>
        rw [hx] at c64
        have HX : Hid (crash bs = true) := hx
        clear hx
        go_wp2
        go_ret3
        exact ⟨Or.inr ⟨HL0.out, bs, HR4.out, Or.inl ⟨HX.out, rfl⟩⟩, HB4.out⟩
      | false =>
        rw [hx] at c64
        have HX : Hid (crash bs = false) := hx
        clear hx
        go_wp2
        go_loopw [10, 11] (fun va x wr => ∃ (k : Nat), k ≤ V ∧ x = .int .i64 (k + 1 : Nat) ∧ Hid (Own wr w4.heap.size 3 va (ints (tellOf k (there bs)))) ∧ Hid (Below w4.heap.size w4 wr)) (fun _ x _ => V + 1 - (intOf x).toNat)
        case atStart => exact ⟨0, Nat.zero_le _, rfl, Own.nil _ _ _, Below.refl _ _⟩
        case round =>
          obtain ⟨k, hk, rfl, HO, HBw⟩ := hrel
          have cVr : wr.cell? ⟨w.heap.size, 0, none⟩ = some (.int .i64 V) := (HBw.out.cell (p := ⟨w.heap.size, 0, none⟩) hwl4).trans cV4
          have hwr := HBw.out.size
          have hwlr : w.heap.size < wr.heap.size := by omega
          by_cases hlt : k < V
          · have hlp : IsLit V ((k + 1 : Nat) : Int) := ⟨by omega, by omega, by omega⟩
            have hln : IsLit V (-((k + 1 : Nat) : Int)) := hlp.neg
            have hle : ((k + 1 : Nat) : Int) ≤ (V : Int) := by omega
            have HTS : Hid _ := tellOf_succ k (there bs)
            have hTl := tellOf_len k (there bs)
            have hr1 := rp_lt hV hlp
            have hr2 := rp_lt hV hln
            have hBr := HBk.out.below' HBw.out
            have q1 : rp ((k + 1 : Nat) : Int) < bs.length := by rw [hbl]; omega
            have q2 : rp (-((k + 1 : Nat) : Int)) < bs.length := by rw [hbl]; omega
            have t1 := hBr.cell (i := rp ((k + 1 : Nat) : Int)) (by rw [List.length_map]; exact q1) undef
            have t2 := hBr.cell (i := rp (-((k + 1 : Nat) : Int))) (by rw [List.length_map]; exact q2) undef
            rw [bvs_get q1] at t1
            rw [bvs_get q2] at t2
            have p1 := rplace_any ((k + 1 : Nat) : Int) (by omega) (by omega)
            have p2 := rplace_any (-((k + 1 : Nat) : Int)) (by omega) (by omega)
            have hHr : Hk < wr.heap.size := by omega
            have HO1 := HO.out
            have HTa : Hid (there bs ((k + 1 : Nat) : Int) = bs.getD (rp ((k + 1 : Nat) : Int)) false) := rfl
            have HTb : Hid (there bs (-((k + 1 : Nat) : Int)) = bs.getD (rp (-((k + 1 : Nat) : Int))) false) := rfl
            generalize hx1 : rp ((k + 1 : Nat) : Int) = r1 at *
            generalize hx2 : rp (-((k + 1 : Nat) : Int)) = r2 at *
            generalize hxv : ((k + 1 : Nat) : Int) = x at *
            have HXV : Hid (((k + 1 : Nat) : Int) = x) := hxv
            have hx0 : 1 ≤ x := by omega
            have hx20 : x ≤ 20 := by omega
            generalize tellOf k (there bs) = T0 at *
            clear hlp hln hx1 hx2 hxv hBr HO
            cases ha : bs.getD r1 false with
            | true =>
              rw [ha] at t1
              go_wp2
              go_quiet ((go_at_call 52; exact Calls.quiet_of ((p1 _).mono fun e w' h => ⟨h.1, 0, h.2⟩)))
              have OD : Own (wr.drewN nq) w4.heap.size 3 _ _ := HO1.chg (S := fun _ => False) ((Chg.refl _ _).drewN nq) (fun _ _ h => h)
              have BD : Below w4.heap.size w4 (wr.drewN nq) := HBw.out.trans ((drewN_below nq).mono hwr)
              have t2d : (wr.drewN nq).cell? ⟨Hk, r2, none⟩ = _ := t2
              have hHd : Hk < (wr.drewN nq).heap.size := hHr
              have hwd : w4.heap.size ≤ (wr.drewN nq).heap.size := hwr
              generalize wr.drewN nq = w5 at *
              have OA := OD.alloc (.cells #[.int .i64 x] 3)
              have NA : Blk (w5.alloc (.cells #[.int .i64 x] 3)) w5.heap.size 3 [.int .i64 x] := blk_new w5 [.int .i64 x] 3
              have BA := alloc_below w5 (.cells #[.int .i64 x] 3)
              go_wp2_with (at_builtin; refine wpList_append_new (.tmp 48) (.tmp 50) 24 3 (.int .i64 0) 8 Tryd.underlying24 Tryd.info3 rfl w4.heap.size w5.heap.size _ _ [.int .i64 x] 1 T0.length (by simp) rfl (by decide) (by rfl) (by rfl) OA NA (by intro u hu; simp at hu; rw [hu]; rfl) (by unfold maxLen; omega) (by omega) (by rw [alloc_size]; omega) ?_; intro g6 cap6 w6 hO6 hgr6 hat6 hlt6)
              have BW6 : Below w4.heap.size w4 w6 := BD.trans ((BA.mono hwd).trans ⟨hgr6.os, hgr6.tape, hgr6.output, hgr6.size, fun j hj => hgr6.block j (by rw [alloc_size]; omega) (fun e => by have := (OA.lt e.symm).1; omega)⟩)
              have t2w6 : w6.cell? ⟨Hk, r2, none⟩ = some (.bool (bs.getD r2 false)) := (BW6.cell (p := ⟨Hk, r2, none⟩) hHl).trans (by rw [HBk.out.cell (i := r2) (by rw [List.length_map]; exact q2) undef, bvs_get q2])
              have hHw6 : Hk < w6.heap.size := Nat.lt_of_lt_of_le hHl BW6.size
              have hsw6 := BW6.size
              have BWw6 := BW6
              rw [show ints T0 ++ [.int .i64 x] = ints (T0 ++ [x]) by simp] at hO6
              clear OA NA BA OD BD t2d t2 t1 hgr6 HO1
              cases hbq : bs.getD r2 false with
              | true =>
                rw [hbq] at t2w6
                have HTell : Hid (tellOf (k + 1) (there bs) = T0 ++ [x] ++ [-x]) := by
                  unfold Hid; rw [HTS.out, HTa.out, HTb.out, ha, hbq]; simp
                clear ha hbq
                go_wp2
                go_quiet ((go_at_call 52; exact Calls.quiet_of ((p2 _).mono fun e w' h => ⟨h.1, 0, h.2⟩)))
                have OE : Own (w6.drewN nq) w4.heap.size 3 _ _ := hO6.chg (S := fun _ => False) ((Chg.refl _ _).drewN nq) (fun _ _ h => h)
                have BE : Below w4.heap.size w4 (w6.drewN nq) := BWw6.trans ((drewN_below nq).mono hsw6)
                have hse : w4.heap.size ≤ (w6.drewN nq).heap.size := hsw6
                generalize w6.drewN nq = w7 at *
                have OB := OE.alloc (.cells #[.int .i64 (-x)] 3)
                have NB : Blk (w7.alloc (.cells #[.int .i64 (-x)] 3)) w7.heap.size 3 [.int .i64 (-x)] := blk_new w7 [.int .i64 (-x)] 3
                have BB := alloc_below w7 (.cells #[.int .i64 (-x)] 3)
                go_wp2_with (at_builtin; refine wpList_append_new (.tmp 60) (.tmp 63) 24 3 (.int .i64 0) 8 Tryd.underlying24 Tryd.info3 rfl w4.heap.size w7.heap.size _ _ [.int .i64 (-x)] 1 (T0.length + 1) (by simp) rfl (by decide) (by rfl) (by rfl) OB NB (by intro u hu; simp at hu; rw [hu]; rfl) (by unfold maxLen; omega) (by omega) (by rw [alloc_size]; omega) ?_; intro g8 cap8 w8 hO8 hgr8 hat8 hlt8)
                go_roundw
                case rel =>
                  refine ⟨k + 1, by omega, by rw [← HXV.out]; go_num, ?_, BE.trans ((BB.mono hse).trans ⟨hgr8.os, hgr8.tape, hgr8.output, hgr8.size, fun j hj => hgr8.block j (by rw [alloc_size]; omega) (fun e => by have := (OB.lt e.symm).1; omega)⟩)⟩
                  rw [HTell.out, show ints (T0 ++ [x] ++ [-x]) = ints (T0 ++ [x]) ++ [.int .i64 (-x)] by simp]
                  exact hO8
                case measure => rw [← HXV.out]; simp [intOf]; omega
              | false =>
                rw [hbq] at t2w6
                have HTell : Hid (tellOf (k + 1) (there bs) = T0 ++ [x]) := by
                  unfold Hid; rw [HTS.out, HTa.out, HTb.out, ha, hbq]; simp
                clear ha hbq
                go_wp2
                go_quiet ((go_at_call 52; exact Calls.quiet_of ((p2 _).mono fun e w' h => ⟨h.1, 0, h.2⟩)))
                go_wp2
                go_roundw
                case rel =>
                  refine ⟨k + 1, by omega, by rw [← HXV.out]; go_num, ?_, BWw6.trans ((drewN_below nq).mono hsw6)⟩
                  rw [HTell.out]
                  exact hO6.chg (S := fun _ => False) ((Chg.refl _ _).drewN nq) (fun _ _ h => h)
                case measure => rw [← HXV.out]; simp [intOf]; omega
            | false =>
              rw [ha] at t1
              go_wp2
              go_quiet ((go_at_call 52; exact Calls.quiet_of ((p1 _).mono fun e w' h => ⟨h.1, 0, h.2⟩)))
              have OD : Own (wr.drewN nq) w4.heap.size 3 _ _ := HO1.chg (S := fun _ => False) ((Chg.refl _ _).drewN nq) (fun _ _ h => h)
              have BWw6 : Below w4.heap.size w4 (wr.drewN nq) := HBw.out.trans ((drewN_below nq).mono hwr)
              have t2w6 : (wr.drewN nq).cell? ⟨Hk, r2, none⟩ = _ := t2
              have hHw6 : Hk < (wr.drewN nq).heap.size := hHr
              have hsw6 : w4.heap.size ≤ (wr.drewN nq).heap.size := hwr
              generalize wr.drewN nq = w6 at *
              clear t1 t2 HO1
              cases hbq : bs.getD r2 false with
              | true =>
                rw [hbq] at t2w6
                have HTell : Hid (tellOf (k + 1) (there bs) = T0 ++ [-x]) := by
                  unfold Hid; rw [HTS.out, HTa.out, HTb.out, ha, hbq]; simp
                clear ha hbq
                go_wp2
                go_quiet ((go_at_call 52; exact Calls.quiet_of ((p2 _).mono fun e w' h => ⟨h.1, 0, h.2⟩)))
                have OE : Own (w6.drewN nq) w4.heap.size 3 _ _ := OD.chg (S := fun _ => False) ((Chg.refl _ _).drewN nq) (fun _ _ h => h)
                have BE : Below w4.heap.size w4 (w6.drewN nq) := BWw6.trans ((drewN_below nq).mono hsw6)
                have hse : w4.heap.size ≤ (w6.drewN nq).heap.size := hsw6
                generalize w6.drewN nq = w7 at *
                have OB := OE.alloc (.cells #[.int .i64 (-x)] 3)
                have NB : Blk (w7.alloc (.cells #[.int .i64 (-x)] 3)) w7.heap.size 3 [.int .i64 (-x)] := blk_new w7 [.int .i64 (-x)] 3
                have BB := alloc_below w7 (.cells #[.int .i64 (-x)] 3)
                go_wp2_with (at_builtin; refine wpList_append_new (.tmp 60) (.tmp 63) 24 3 (.int .i64 0) 8 Tryd.underlying24 Tryd.info3 rfl w4.heap.size w7.heap.size _ _ [.int .i64 (-x)] 1 T0.length (by simp) rfl (by decide) (by rfl) (by rfl) OB NB (by intro u hu; simp at hu; rw [hu]; rfl) (by unfold maxLen; omega) (by omega) (by rw [alloc_size]; omega) ?_; intro g8 cap8 w8 hO8 hgr8 hat8 hlt8)
                go_roundw
                case rel =>
                  refine ⟨k + 1, by omega, by rw [← HXV.out]; go_num, ?_, BE.trans ((BB.mono hse).trans ⟨hgr8.os, hgr8.tape, hgr8.output, hgr8.size, fun j hj => hgr8.block j (by rw [alloc_size]; omega) (fun e => by have := (OB.lt e.symm).1; omega)⟩)⟩
                  rw [HTell.out, show ints (T0 ++ [-x]) = ints (T0) ++ [.int .i64 (-x)] by simp]
                  exact hO8
                case measure => rw [← HXV.out]; simp [intOf]; omega
              | false =>
                rw [hbq] at t2w6
                have HTell : Hid (tellOf (k + 1) (there bs) = T0) := by
                  unfold Hid; rw [HTS.out, HTa.out, HTb.out, ha, hbq]; simp
                clear ha hbq
                go_wp2
                go_quiet ((go_at_call 52; exact Calls.quiet_of ((p2 _).mono fun e w' h => ⟨h.1, 0, h.2⟩)))
                go_wp2
                go_roundw
                case rel =>
                  refine ⟨k + 1, by omega, by rw [← HXV.out]; go_num, ?_, BWw6.trans ((drewN_below nq).mono hsw6)⟩
                  rw [HTell.out]
                  exact OD.chg (S := fun _ => False) ((Chg.refl _ _).drewN nq) (fun _ _ h => h)
                case measure => rw [← HXV.out]; simp [intOf]; omega
          · obtain rfl : k = V := by omega
            have hle : ¬ ((k + 1 : Nat) : Int) ≤ (k : Int) := by omega
            go_wp2
            go_ret3
            refine ⟨Or.inr ⟨HL0.out, bs, HR4.out, Or.inr ⟨HX.out, _, rfl, ?_⟩⟩, HB4.out.trans (HBw.out.mono HB4.out.size)⟩
            exact HO.out.base HB4.out.size
end Go.Proofs.YtlodenfdcckemaaDoor
