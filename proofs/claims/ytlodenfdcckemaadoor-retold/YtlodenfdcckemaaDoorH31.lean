/-
  The walk of a proof's check.
-/
import Derived.Test.YtlodenfdcckemaaDoorH24
namespace Go.Proofs.YtlodenfdcckemaaDoor
open Go.RowKit

/-! A proof. -/

/-- What is told of a proof, from a step on. -/
noncomputable def checkOf (V : Nat) : List (List Int) → Nat → List (List Int) → Int × Int
  | _, i, [] => (i, 8)
  | C, i, s :: r => if clauseFault V s ≠ 0 then (i, clauseFault V s) else (open Classical in if Conf C (fun l => l ∈ s.map fun l => -l) then (if s.length = 0 then ((i + 1 : Nat), 0) else checkOf V (C ++ [s]) (i + 1) r) else (i, 7))

theorem clauseFault_ok {V : Nat} {c : List Int} (h : clauseFault V c = 0) : c.length ≤ 20 ∧ ∀ l ∈ c, IsLit V l := by
  unfold clauseFault at h
  split at h
  · cases h
  · split at h
    · rename_i h1 h2
      refine ⟨by omega, fun l hl => ?_⟩
      have := List.all_eq_true.1 h2 l hl
      unfold lit at this
      simp only [Bool.and_eq_true, Bool.not_eq_true', beq_eq_false_iff_ne, decide_eq_true_eq] at this
      exact ⟨this.1.1, this.1.2, this.2⟩
    · cases h

theorem checkOf_step (V : Nat) (C : List (List Int)) (i : Nat) (p : List (List Int)) (hi : i < p.length) :
    checkOf V C i (p.drop i) = if clauseFault V (p.getD i []) ≠ 0 then ((i : Int), clauseFault V (p.getD i [])) else (open Classical in if Conf C (fun l => l ∈ (p.getD i []).map fun l => -l) then (if (p.getD i []).length = 0 then (((i + 1 : Nat) : Int), 0) else checkOf V (C ++ [p.getD i []]) (i + 1) (p.drop (i + 1))) else ((i : Int), 7)) := by
  rw [List.drop_eq_getElem_cons hi, getD_lt _ _ _ hi, checkOf]

set_option maxRecDepth 100000 in
set_option maxHeartbeats 4000000 in
theorem pcheck_any (V : Nat) (hV : V ≤ 20) (ao po : Option Addr) (cap pcap : Nat) (cs p : List (List Int)) (w : World) (hc : ListsAt w w.heap.size ao cs) (hp : ListsAt w w.heap.size po p) (hlit : ∀ c ∈ cs, ∀ l ∈ c, IsLit V l) (hlen : cs.length ≤ 200) (heach : ∀ c ∈ cs, c.length ≤ 20) (hpl : p.length ≤ 6000000000000) :
    Calls Tryd.prog 61 #[.agg #[.int .i64 V, .slice ao cs.length cap], .slice po p.length pcap] w fun e w' => e = .returned (.tuple #[.int .i64 (checkOf V cs 0 p).1, .int .i64 (checkOf V cs 0 p).2]) ∧ Below w.heap.size w w' := by
  have b1 := alloc_below w (.cells #[.int .i64 V, .slice ao cs.length cap] 31)
  have B1 : Blk (w.alloc (.cells #[.int .i64 V, .slice ao cs.length cap] 31)) w.heap.size 31 [.int .i64 V, .slice ao cs.length cap] := blk_new w [.int .i64 V, .slice ao cs.length cap] 31
  have s1 := alloc_size w (.cells #[.int .i64 V, .slice ao cs.length cap] 31)
  go_enter Tryd.func61, Tryd.ntmps61
  go_wp2_with fail
  generalize w.alloc (.cells #[.int .i64 V, .slice ao cs.length cap] 31) = w1 at *
  refine (folOf_any V hV ao cap cs w1 ((hc.below b1 (Nat.le_refl _)).mono (by omega)) hlit hlen heach).mono ?_
  rintro e w2 ⟨H, v, K, rfl, hCl, hCo, hLe, hHb, hOw, hBe⟩
  have B2 := B1.below hBe (by omega)
  have hb2 : Below w.heap.size w w2 := b1.trans (hBe.mono (by omega))
  have hp2 := hp.below hb2 (Nat.le_refl _)
  go_wp2
  go_loopw [15] (fun x wr => ∃ (i : Nat) (v : Value) (K : List Nat), i ≤ p.length ∧ x = .int .i64 i ∧ Hid (Cls wr H v K) ∧ Hid (Cover V K (cs ++ p.take i)) ∧ Hid (K.length ≤ cs.length + i) ∧ Hid (∀ k, v.ownBlock = some k → w1.heap.size ≤ k) ∧ Hid (Below w1.heap.size w2 wr) ∧ Hid (checkOf V cs 0 p = checkOf V (cs ++ p.take i) i (p.drop i))) (fun x _ => p.length - (intOf x).toNat)
  case atStart => exact ⟨0, v, K, Nat.zero_le _, rfl, hCl, by rw [List.take_zero, List.append_nil]; exact hCo, hLe, hOw, (Below.refl _ _), by rw [List.take_zero, List.append_nil]; rfl⟩
  case round =>
    obtain ⟨i, v, K, hi, rfl, HCl, HCo, HLe, HOw, HBe, HChk⟩ := hrel
    have Br := B2.below HBe.out (by omega)
    have c0 : wr.cell? ⟨w.heap.size, 0, none⟩ = some (.int .i64 V) := Br.cell (i := 0) (by simp) undef
    have hbr : Below w.heap.size w wr := hb2.trans (HBe.out.mono (by omega))
    by_cases hlt : i < p.length
    · have hpr := hp2.below HBe.out (show w.heap.size ≤ w1.heap.size by omega)
      obtain ⟨b, o, rfl, hb, hcell⟩ := hpr (by intro h; rw [h] at hlt; simp at hlt)
      obtain ⟨A, Cc, hck, hin⟩ := hcell i hlt
      have HStep : Hid _ := HChk.out.trans (checkOf_step V (cs ++ p.take i) i p hlt)
      have HT : Hid (p.take (i + 1) = p.take i ++ [p.getD i []]) := take_succ_lists p i hlt
      generalize p.getD i [] = c at hck hin HStep HT
      have c1 := ofClause_any V A Cc c wr w.heap.size hin (by omega) (by omega)
      clear hcell hpr
      by_cases h5 : clauseFault V c = 0
      · obtain ⟨hcl, hlc⟩ := clauseFault_ok h5
        have h5' : (clauseFault (V : Int) c != 0) = false := by simp [h5]
        have H5 : Hid (clauseFault (V : Int) c = 0) := h5
        have hm64 := lt64 hV (maskOf_lt hlc)
        have c2 := litsOf_any V hV A Cc c wr w.heap.size hin hlc (by omega)
        have c3 := pfollows_any H v K V hV (cs ++ p.take i) HCo.out c hlc (by have := HLe.out; omega) wr HCl.out
        have HLc : Hid (∀ l ∈ c, IsLit V l) := hlc
        have HM : Hid (maskOf c < 18446744073709551616) := hm64
        clear h5 hlc hm64 hin
        open Classical in
        by_cases hconf : Conf (cs ++ p.take i) (fun l => l ∈ c.map fun l => -l)
        · rw [decide_eq_true hconf] at c3
          have HCf : Hid (Conf (cs ++ p.take i) (fun l => l ∈ c.map fun l => -l)) := hconf
          clear hconf
          by_cases hz : c.length = 0
          · have HZ : Hid (c.length = 0) := hz
            have hz' : ((c.length : Int) == 0) = true := by simp [hz]
            clear hz
            go_wp2_with (first | (go_at_call 66; refine c1.mono ?_; rintro e w' ⟨rfl, hw'⟩; obtain rfl := hw'.symm) | (go_at_call 44; refine c2.mono ?_; rintro e w' ⟨rfl, hw'⟩; obtain rfl := hw'.symm) | (go_at_call 89; refine c3.mono ?_; rintro e w3 ⟨rfl, hX, hb3⟩))
            go_ret2
            refine ⟨?_, hbr.trans (hb3.mono hbr.size)⟩
            rw [HStep.out, if_neg (by rw [H5.out]; simp), if_pos HCf.out, if_pos HZ.out]
            rfl
          · have HZ : Hid (¬ c.length = 0) := hz
            have hz' : ((c.length : Int) == 0) = false := by simp [hz]
            clear hz
            go_wp2_with (first | (go_at_call 66; refine c1.mono ?_; rintro e w' ⟨rfl, hw'⟩; obtain rfl := hw'.symm) | (go_at_call 44; refine c2.mono ?_; rintro e w' ⟨rfl, hw'⟩; obtain rfl := hw'.symm) | (go_at_call 89; refine c3.mono ?_; rintro e w3 ⟨rfl, hX, hb3⟩) | (go_at_call 68; refine (add_any H v K (maskOf c) _ hX (fun k hk => lt64 hV (HCo.out.small hk)) HM.out (by have := HLe.out; omega)).mono ?_; rintro e w4 ⟨rfl, v4, hC4, hO4, hChg⟩))
            go_roundw
            case rel =>
              have hs3 := hb3.size
              have hsr := HBe.out.size
              refine ⟨i + 1, v4, addTo K (maskOf c), by omega, by go_num, hC4, ?_, ?_, ?_, ?_, ?_⟩
              · rw [HT.out, ← List.append_assoc]
                exact HCo.out.add hV HLc.out
              · have := HLe.out
                exact Nat.le_trans (addTo_len K (maskOf c)) (by omega)
              · intro k e
                rcases hO4 k e with h | h
                · exact HOw.out k h
                · have := hBe.size; omega
              · refine HBe.out.trans ((hb3.mono (by have := hBe.size; omega)).trans (hChg.below (by have := hBe.size; omega) ?_))
                rintro k (h | h)
                · omega
                · exact HOw.out k h
              · refine HStep.out.trans ?_
                rw [if_neg (by rw [H5.out]; simp), if_pos HCf.out, if_neg HZ.out, HT.out, ← List.append_assoc]
            case measure => simp [intOf]; omega
        · rw [decide_eq_false hconf] at c3
          have HCf : Hid (¬ Conf (cs ++ p.take i) (fun l => l ∈ c.map fun l => -l)) := hconf
          clear hconf
          go_wp2_with (first | (go_at_call 66; refine c1.mono ?_; rintro e w' ⟨rfl, hw'⟩; obtain rfl := hw'.symm) | (go_at_call 44; refine c2.mono ?_; rintro e w' ⟨rfl, hw'⟩; obtain rfl := hw'.symm) | (go_at_call 89; refine c3.mono ?_; rintro e w3 ⟨rfl, hX, hb3⟩))
          go_ret2
          refine ⟨?_, hbr.trans (hb3.mono hbr.size)⟩
          rw [HStep.out, if_neg (by rw [H5.out]; simp), if_neg HCf.out]
          rfl
      · have h5' : (clauseFault (V : Int) c != 0) = true := by simp [h5]
        have H5 : Hid (¬ clauseFault (V : Int) c = 0) := h5
        clear h5 hin
        go_wp2_with (first | (go_at_call 66; refine c1.mono ?_; rintro e w' ⟨rfl, hw'⟩; obtain rfl := hw'.symm))
        go_ret2
        refine ⟨?_, hbr⟩
        rw [HStep.out, if_pos H5.out]
        rfl
    · obtain rfl : i = p.length := by omega
      have HE : Hid (checkOf V cs 0 p = ((p.length : Int), 8)) := by
        unfold Hid
        rw [HChk.out, List.drop_length, checkOf]
      go_wp2
      go_ret2
      exact ⟨by rw [HE.out]; rfl, hbr⟩
end Go.Proofs.YtlodenfdcckemaaDoor
