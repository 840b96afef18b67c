/-
  Several texts, one behind the other.
-/
import Derived.Test.YtlodenfdcckemaaDoorH29
import Derived.Test.YtlodenfdcckemaaDoorH12
import Derived.Deep.RegionHeld3
import Derived.Test.YtlodenfdcckemaaDoorH9
import Derived.Deep.QuietTactic
import Derived.BigQuiet
/-
  The walk of the document's check of a proof.
-/

namespace Go.Proofs.YtlodenfdcckemaaDoor
open Go.RowKit

open Classical in
/-- What the table says of a conflict. -/
theorem RDone.crash_iff {V : Nat} {C : List (List Int)} {G : Int → Prop} {bs : List Bool} (h : RDone V C G bs) : crash bs = decide (Conf C G) := by
  cases e : crash bs with
  | true => rw [decide_eq_true (h.come.conf e)]
  | false => rw [decide_eq_false (h.shut e).noconf]

theorem clauseFault_long {vars : Int} {c : List Int} (h : 20 < c.length) : clauseFault vars c = 5 := by rw [clauseFault, if_pos h]

theorem negs_take (c : List Int) (k : Nat) (hk : k < c.length) : (c.take (k + 1)).map (fun l => -l) = (c.take k).map (fun l => -l) ++ [-(c.getD k 0)] := by
  rw [take_succ_getD c k hk, List.map_append]; rfl

theorem ListsAt.take {w : World} {B : Nat} {ao : Option Addr} {cs : List (List Int)} (h : ListsAt w B ao cs) (n : Nat) : ListsAt w B ao (cs.take n) := by
  intro hne
  obtain ⟨b, o, e, hb, hc⟩ := h (by intro h0; rw [h0] at hne; simp at hne)
  refine ⟨b, o, e, hb, fun i hi => ?_⟩
  have hi' : i < cs.length := by simp at hi; omega
  have hin : i < n := by simp at hi; omega
  have e2 : (cs.take n).getD i [] = cs.getD i [] := by rw [getD_lt _ _ _ hi, getD_lt _ _ _ hi', List.getElem_take]
  rw [e2]
  exact hc i hi'

theorem lit_of {V : Nat} {x : Int} (h : lit V x = true) : IsLit V x := by
  unfold lit at h
  simp only [Bool.and_eq_true, Bool.not_eq_true', beq_eq_false_iff_ne, decide_eq_true_eq] at h
  exact ⟨h.1.1, h.1.2, h.2⟩

set_option maxRecDepth 100000 in
set_option maxHeartbeats 8000000 in
theorem rcheck_any (V : Nat) (hV : V ≤ 20) (ao po : Option Addr) (cap pcap : Nat) (cs p : List (List Int)) (w : World) (hc : ListsAt w w.heap.size ao cs) (hp : ListsAt w w.heap.size po p) (hlit : ∀ c ∈ cs, ∀ l ∈ c, IsLit V l) (hlen : cs.length ≤ 200) (heach : ∀ c ∈ cs, c.length ≤ 20) (hpl : p.length ≤ 6000000000000) (hpcap : p.length ≤ pcap)
    (hnum : ∀ c ∈ p, ∀ l ∈ c, -9223372036854775808 ≤ l ∧ l ≤ 9223372036854775807) (hpe : ∀ c ∈ p, c.length ≤ 4611686018427387904) :
    Calls Tryd.prog 85 #[.agg #[.int .i64 V, .slice ao cs.length cap], .slice po p.length pcap] w fun e w' => e = .returned (.tuple #[.int .i64 (checkOf V cs 0 p).1, .int .i64 (checkOf V cs 0 p).2]) ∧ Below w.heap.size w w' := by
  have b1 := alloc_below w (.cells #[.int .i64 V, .slice ao cs.length cap] 31)
  have B1 : Blk (w.alloc (.cells #[.int .i64 V, .slice ao cs.length cap] 31)) w.heap.size 31 [.int .i64 V, .slice ao cs.length cap] := blk_new w [.int .i64 V, .slice ao cs.length cap] 31
  have s1 := alloc_size w (.cells #[.int .i64 V, .slice ao cs.length cap] 31)
  go_enter Tryd.func85, Tryd.ntmps85
  go_wp2
  generalize w.alloc (.cells #[.int .i64 V, .slice ao cs.length cap] 31) = w1 at *
  go_loopw [6] (fun x wr => ∃ (i : Nat), i ≤ p.length ∧ x = .int .i64 i ∧ Hid (∀ c ∈ p.take i, clauseFault V c = 0) ∧ Hid (Below w1.heap.size w1 wr) ∧ Hid (checkOf V cs 0 p = checkOf V (cs ++ p.take i) i (p.drop i))) (fun x _ => p.length - (intOf x).toNat)
  case atStart => exact ⟨0, Nat.zero_le _, rfl, (fun c hc => by simp at hc), (Below.refl _ _), by rw [List.take_zero, List.append_nil]; rfl⟩
  case round =>
    obtain ⟨i, hi, rfl, HOK, HBe, HChk⟩ := hrel
    have hbr : Below w.heap.size w wr := b1.trans (HBe.out.mono (by omega))
    by_cases hlt : i < p.length
    · have hpr := hp.below hbr (Nat.le_refl _)
      obtain ⟨b, o, rfl, hb, hcell⟩ := hpr (by intro h; rw [h] at hlt; simp at hlt)
      obtain ⟨A, Cc, hck, hin⟩ := hcell i hlt
      have HStep : Hid _ := HChk.out.trans (checkOf_step V (cs ++ p.take i) i p hlt)
      have HT : Hid (p.take (i + 1) = p.take i ++ [p.getD i []]) := take_succ_lists p i hlt
      have hnm := hnum _ (mem_lists hlt)
      have hln := hpe _ (mem_lists hlt)
      generalize p.getD i [] = c at hck hin HStep HT hnm hln
      have HIn : Hid (IntsAt wr w.heap.size A c) := hin
      clear hcell hpr hin
      by_cases h20 : 20 < c.length
      · have H5 : Hid (clauseFault (V : Int) c = 5) := clauseFault_long h20
        go_wp2
        go_ret2
        refine ⟨?_, hbr⟩
        rw [HStep.out, if_pos (by rw [H5.out]; decide), H5.out]
        rfl
      · have H20 : Hid (clauseFault (V : Int) c = litsFault V c) := clauseFault_lits h20
        have h20' : c.length ≤ 20 := by omega
        clear h20
        have HLn : Hid (∀ l ∈ c, -9223372036854775808 ≤ l ∧ l ≤ 9223372036854775807) := hnm
        clear hnm
        have hbl : b < wr.heap.size := Nat.lt_of_lt_of_le hb (Nat.le_trans hbr.size (Nat.le_refl _))
        have hck1 : wr.cell? ⟨b, o + i, none⟩ = some (.slice A c.length Cc) := hck
        have cV : wr.cell? ⟨w.heap.size, 0, none⟩ = some (.int .i64 V) := (HBe.out.cell (p := ⟨w.heap.size, 0, none⟩) (by show w.heap.size < w1.heap.size; omega)).trans (B1.cell (i := 0) (by simp) undef)
        have cF : wr.cell? ⟨w.heap.size, 1, none⟩ = some (.slice ao cs.length cap) := (HBe.out.cell (p := ⟨w.heap.size, 1, none⟩) (by show w.heap.size < w1.heap.size; omega)).trans (B1.cell (i := 1) (by simp) undef)
        have hwl : w.heap.size < wr.heap.size := by have := HBe.out.size; omega
        have HBr : Hid (Below w.heap.size w wr) := hbr
        obtain ⟨w2, rfl⟩ : ∃ x, x = wr := ⟨wr, rfl⟩
        go_wp2
        have HCV : Hid (w2.cell? ⟨w.heap.size, 0, none⟩ = some (.int .i64 V)) := cV
        have HCF : Hid (w2.cell? ⟨w.heap.size, 1, none⟩ = some (.slice ao cs.length cap)) := cF
        have HCK : Hid (w2.cell? ⟨b, o + i, none⟩ = some (.slice A c.length Cc)) := hck1
        clear hck hck1 cV cF
        go_loopw [7, 8] (fun va x wq => ∃ (k : Nat), k ≤ c.length ∧ x = .int .i64 k ∧ Hid (Own wq w2.heap.size 3 va (ints ((c.take k).map fun l => -l))) ∧ Hid ((c.take k).all (lit V) = true) ∧ Hid (Below w2.heap.size w2 wq)) (fun _ x _ => c.length - (intOf x).toNat)
        case atStart => exact ⟨0, Nat.zero_le _, rfl, Own.nil _ _ _, (by unfold Hid; simp), (Below.refl _ _)⟩
        case round =>
          obtain ⟨k, hk, rfl, HO, HAl, HBq⟩ := hrel
          have hck : wr.cell? ⟨b, o + i, none⟩ = some (.slice A c.length Cc) := (HBq.out.cell (p := ⟨b, o + i, none⟩) hbl).trans HCK.out
          have cV : wr.cell? ⟨w.heap.size, 0, none⟩ = some (.int .i64 V) := (HBq.out.cell (p := ⟨w.heap.size, 0, none⟩) hwl).trans HCV.out
          by_cases hlk : k < c.length
          · have hinq := HIn.out.below HBq.out (Nat.le_of_lt hwl)
            obtain ⟨b', o', rfl, hb', hcell'⟩ := hinq (by intro h; rw [h] at hlk; simp at hlk)
            have hcx := hcell' k hlk
            have hmem : c.getD k 0 ∈ c := by rw [getD_lt _ _ _ hlk]; exact List.getElem_mem hlk
            obtain ⟨hx0, hx1⟩ := HLn.out _ hmem
            have HNT : Hid _ := negs_take c k hlk
            have HAT : Hid _ := all_take_succ (lit V) c k hlk
            have HAF : Hid (lit V (c.getD k 0) = false → c.all (lit V) = false) := fun h => all_false_of (lit V) c k hlk h
            generalize c.getD k 0 = x at hcx hx0 hx1 HNT HAT HAF
            clear hcell' hinq hmem
            cases hlx : lit V x with
            | false =>
              have HF : Hid (clauseFault (V : Int) c = 6) := by unfold Hid; rw [H20.out, litsFault, HAF.out hlx]; rfl
              have cl := literal_any x V
              rw [hlx] at cl
              clear hlx
              go_wp2
              go_quiet ((go_at_call 50; exact Calls.quiet_of_same (cl _ hx0 hx1 (by omega) (by omega))))
              go_wp2
              go_ret2
              refine ⟨?_, HBr.out.trans ((HBq.out.mono HBr.out.size).trans ⟨rfl, rfl, rfl, Nat.le_refl _, fun _ _ => rfl⟩)⟩
              rw [HStep.out, if_pos (by rw [HF.out]; decide), HF.out]
              rfl
            | true =>
              have hxl := lit_of hlx
              obtain ⟨_, hxa, hxb⟩ := hxl
              have cl := literal_any x V
              rw [hlx] at cl
              have HA2 : Hid ((c.take (k + 1)).all (lit V) = true) := by unfold Hid; rw [HAT.out, HAl.out, hlx]; rfl
              clear hlx
              go_wp2
              go_quiet ((go_at_call 50; exact Calls.quiet_of_same (cl _ hx0 hx1 (by omega) (by omega))))
              have BD : Below w2.heap.size w2 (wr.drewN nq) := HBq.out.trans ⟨rfl, rfl, rfl, Nat.le_refl _, fun _ _ => rfl⟩
              have OD : Own (wr.drewN nq) w2.heap.size 3 _ _ := HO.out.chg (S := fun _ => False) ((Chg.refl _ _).drewN nq) (fun _ _ h => h)
              have hck3 : (wr.drewN nq).cell? ⟨b, o + i, none⟩ = some (.slice (some ⟨b', o', none⟩) c.length Cc) := hck
              have hcx3 : (wr.drewN nq).cell? ⟨b', o' + k, none⟩ = some (.int .i64 x) := hcx
              generalize wr.drewN nq = w3 at *
              have BA := alloc_below w3 (.cells #[.int .i64 (-x)] 3)
              have NA : Blk (w3.alloc (.cells #[.int .i64 (-x)] 3)) w3.heap.size 3 [.int .i64 (-x)] := blk_new w3 [.int .i64 (-x)] 3
              have OA := OD.alloc (.cells #[.int .i64 (-x)] 3)
              have hsz3 := BD.size
              clear hck hcx
              go_wp2_with (at_builtin; refine wpList_append_new (.tmp 46) (.tmp 55) 24 3 (.int .i64 0) 8 Tryd.underlying24 Tryd.info3 rfl w2.heap.size w3.heap.size _ _ [.int .i64 (-x)] 1 k (by simp; omega) rfl (by decide) (by rfl) (by rfl) OA NA (by intro u hu; simp at hu; rw [hu]; rfl) (by unfold maxLen; omega) (by omega) (by rw [alloc_size]; omega) ?_; intro g5 cap5 w5 hO5 hgr5 hat5 hlt5)
              go_roundw
              case rel =>
                refine ⟨k + 1, by omega, by go_num, ?_, HA2, ?_⟩
                · have e : ints ((c.take (k + 1)).map fun l => -l) = ints ((c.take k).map fun l => -l) ++ [.int .i64 (-x)] := by rw [HNT.out]; simp
                  rw [e]
                  exact hO5
                · refine BD.trans ((BA.mono hsz3).trans ⟨hgr5.os, hgr5.tape, hgr5.output, hgr5.size, fun j hj => hgr5.block j (by rw [alloc_size]; omega) (fun e => ?_)⟩)
                  have := (OA.lt e.symm).1
                  omega
              case measure => simp [intOf]; omega
          · obtain rfl : k = c.length := by omega
            have hall : c.all (lit V) = true := by
              have := HAl.out
              rwa [List.take_length] at this
            have HF0 : Hid (clauseFault (V : Int) c = 0) := by unfold Hid; rw [H20.out, litsFault, hall]; rfl
            have hlc : ∀ l ∈ c, IsLit V l := (clauseFault_ok HF0.out).2
            have hO2 := HO.out
            rw [List.take_length] at hO2
            obtain ⟨va, vc, hva, hIa⟩ := hO2.ints (Nat.le_refl _)
            rw [List.length_map] at hva
            subst hva
            have cF : wr.cell? ⟨w.heap.size, 1, none⟩ = some (.slice ao cs.length cap) := (HBq.out.cell (p := ⟨w.heap.size, 1, none⟩) hwl).trans HCF.out
            have hbq : Below w.heap.size w wr := HBr.out.trans (HBq.out.mono HBr.out.size)
            have hsq := hbq.size
            have HBQ : Hid (Below w.heap.size w wr) := hbq
            have hcr : ListsAt wr.drew wr.drew.heap.size ao cs := (hc.below hbq (Nat.le_refl _)).mono hsq
            have hpr : ListsAt wr.drew wr.drew.heap.size (some ⟨b, o, none⟩) (p.take i) := ((hp.below hbq (Nat.le_refl _)).mono hsq).take i
            have hIr : IntsAt wr.drew wr.drew.heap.size va (c.map fun l => -l) := hIa
            have hpt : (p.take i).length = i := by simp; omega
            have HRF := rfollow_any V hV ao (some ⟨b, o, none⟩) va cap pcap vc cs (p.take i) (c.map fun l => -l) wr.drew hcr hpr hIr hlit (fun d hd => (clauseFault_ok (HOK.out d hd)).2) (negs_lit hlc) (by omega) (by omega) (by simp; omega) heach (fun d hd => (clauseFault_ok (HOK.out d hd)).1)
            rw [hpt, List.length_map] at HRF
            have hip : (i : Int) ≤ (pcap : Int) := by omega
            have hi0 : (0 : Int) ≤ (i : Int) := by omega
            have HLC : Hid (∀ l ∈ c, IsLit V l) := hlc
            have hwq : w.heap.size < wr.heap.size := by have := HBq.out.size; omega
            have hbq2 : b < wr.heap.size := by have := HBq.out.size; omega
            clear hall hlc hO2 hIa hIr hpr hcr hbq HO HAl cV
            go_wp2
            go_region_held3 (fun w3 => w3.cell? ⟨w.heap.size, 1, none⟩ = some (.slice ao cs.length cap))
              (first | exact cF6 | exact cF | go_keep)
              (first | (go_at_call 51; refine HRF.mono ?_; rintro e w6 ⟨Hk, bs, rfl, hB6, hR6, hb6, hH6⟩; have cF6 : w6.cell? ⟨w.heap.size, 1, none⟩ = some (.slice ao cs.length cap) := (hb6.cell (p := ⟨w.heap.size, 1, none⟩) hwq).trans cF))
            have hb7 : Below wr.heap.size wr w6 := ⟨hb6.os, hb6.tape, hb6.output, hb6.size, hb6.block⟩
            have HB6 : Hid (Below w.heap.size w w6) := HBQ.out.trans (hb7.mono hsq)
            have HBB : Hid (Below w1.heap.size w1 w6) := HBe.out.trans ((HBq.out.mono HBe.out.size).trans (hb7.mono (by have := HBe.out.size; have := HBq.out.size; omega)))
            have hcr6 := hR6.crash_iff
            have hbs := hR6.come.len
            have c64 := hB6.cell (i := 64) (by simp; omega) undef
            rw [bvs_get (by omega)] at c64
            have hck6 : w6.cell? ⟨b, o + i, none⟩ = some (.slice A c.length Cc) := (hb6.cell (p := ⟨b, o + i, none⟩) hbq2).trans hck
            have hHk := hB6.lt
            clear HRF cF cF6 hB6 hR6 hb6 hb7 hck
            open Classical in
            by_cases hconf : Conf (cs ++ p.take i) (fun l => l ∈ c.map fun l => -l)
            · rw [decide_eq_true hconf] at hcr6
              have hcr6 : bs.getD 64 false = true := hcr6
              rw [hcr6] at c64
              have HCf : Hid (Conf (cs ++ p.take i) (fun l => l ∈ c.map fun l => -l)) := hconf
              clear hconf hcr6
              by_cases hz : c.length = 0
              · have HZ : Hid (c.length = 0) := hz
                have hz' : ((c.length : Int) == 0) = true := by simp [hz]
                clear hz
                go_wp2
                go_ret2
                refine ⟨?_, HB6.out⟩
                rw [HStep.out, if_neg (by rw [HF0.out]; simp), if_pos HCf.out, if_pos HZ.out]
                rfl
              · have HZ : Hid (¬ c.length = 0) := hz
                have hz' : ((c.length : Int) == 0) = false := by simp [hz]
                clear hz
                go_wp2
                go_roundw
                case rel =>
                  refine ⟨i + 1, by omega, by go_num, ?_, HBB, ?_⟩
                  · intro d hd
                    rw [HT.out] at hd
                    rcases List.mem_append.1 hd with h | h
                    · exact HOK.out d h
                    · rw [List.mem_singleton] at h; rw [h]; exact HF0.out
                  · refine HStep.out.trans ?_
                    rw [if_neg (by rw [HF0.out]; simp), if_pos HCf.out, if_neg HZ.out, HT.out, ← List.append_assoc]
                case measure => simp [intOf]; omega
            · rw [decide_eq_false hconf] at hcr6
              have hcr6 : bs.getD 64 false = false := hcr6
              rw [hcr6] at c64
              have HCf : Hid (¬ Conf (cs ++ p.take i) (fun l => l ∈ c.map fun l => -l)) := hconf
              clear hconf hcr6
              go_wp2
              go_ret2
              refine ⟨?_, HB6.out⟩
              rw [HStep.out, if_neg (by rw [HF0.out]; simp), if_neg HCf.out]
              rfl
    · obtain rfl : i = p.length := by omega
      have HE : Hid (checkOf V cs 0 p = ((p.length : Int), 8)) := by
        unfold Hid
        rw [HChk.out, List.drop_length, checkOf]
      go_wp2
      go_ret2
      exact ⟨by rw [HE.out]; rfl, hbr⟩
end Go.Proofs.YtlodenfdcckemaaDoor

/-
  Two lists of the same numbers: they are found the same.
-/

namespace Go.Proofs.YtlodenfdcckemaaDoor
open Go.RowKit

set_option maxHeartbeats 400000 in
theorem same_any (ao bo : Option Addr) (ca cb : Nat) (zs : List Int) (w : World) (ha : IntsAt w w.heap.size ao zs) (hb : IntsAt w w.heap.size bo zs) (hl : zs.length ≤ 1000) :
    Calls Tryd.prog 16 #[.slice ao zs.length ca, .slice bo zs.length cb] w fun e w' => e = .returned (.bool true) ∧ ∃ n, w' = w.drewN n := by
  have hne : ((zs.length : Int) != (zs.length : Int)) = false := by simp
  go_enter Tryd.func16, Tryd.ntmps16
  go_wp2
  go_loopw [5] (fun i wr => ∃ (k n : Nat), k ≤ zs.length ∧ i = .int .i64 k ∧ wr = w.drewN n) (fun i _ => zs.length - (intOf i).toNat)
  case atStart => exact ⟨0, 0, by omega, rfl, rfl⟩
  case round =>
    obtain ⟨k, n, hk, rfl, rfl⟩ := hrel
    by_cases hlt : k < zs.length
    · obtain ⟨b, o, rfl, hbl, hca⟩ := ha (by intro h; rw [h] at hlt; simp at hlt)
      obtain ⟨b', o', rfl, hbl', hcb⟩ := hb (by intro h; rw [h] at hlt; simp at hlt)
      have h1 := hca k hlt
      have h2 := hcb k hlt
      generalize zs.getD k 0 = x at *
      have hnx : (x != x) = false := by simp
      clear hca hcb
      go_wp2
      go_quiet (fail)
      go_wp2
      go_roundw
      case rel => exact ⟨k + 1, n + nq, by omega, by go_num, rfl⟩
      case measure => simp [intOf]; omega
    · go_wp2
      go_ret
      exact ⟨rfl, n, rfl⟩

end Go.Proofs.YtlodenfdcckemaaDoor
