/-
  The walk of the law on proofs.
-/
import Derived.Test.YtlodenfdcckemaaCheckEntry
import Derived.Test.YtlodenfdcckemaaRefCheck
import Derived.Test.YtlodenfdcckemaaFaultsLaw
namespace Go.Proofs.Ytlodenfdcckemaa
open Go.RowKit

/-- What stays as it is, and the proof, and the one that is handed in. -/
structure InvP (w w' : World) (N hb g : Nat) (vars : Int) (ao : Option Addr) (cap : Nat) (cs : List (List Int)) (po : Option Addr) (gp : Nat) (p : List (List Int)) : Prop where
  inv : Inv w w' N hb g vars ao cap cs
  lists : ListsAt w' w'.heap.size po p
  hand : Handed w' w'.heap.size gp p

theorem InvP.step {w w' w'' : World} {N hb g : Nat} {vars : Int} {ao : Option Addr} {cap : Nat} {cs : List (List Int)} {po : Option Addr} {gp : Nat} {p : List (List Int)} (h : InvP w w' N hb g vars ao cap cs po gp p) (hb' : Below w'.heap.size w' w'') : InvP w w'' N hb g vars ao cap cs po gp p :=
  ⟨h.inv.step hb', (h.lists.below hb' (Nat.le_refl _)).mono hb'.size, (HandedTo.below h.hand hb' (Nat.le_refl _)).mono hb'.size⟩

set_option maxRecDepth 100000 in
set_option maxHeartbeats 4000000 in
theorem checks_any (vars : Int) (ao po : Option Addr) (cap pcap : Nat) (cs p : List (List Int)) (w : World) (hc : ListsAt w w.heap.size ao cs) (hp : ListsAt w w.heap.size po p) (hF : Fits cs) (hFp : Fits p) (hpcap : p.length ≤ pcap) :
    Calls Try.prog 4 #[fm vars ao cap cs, .slice po p.length pcap] w fun e w' => e = .returned (.bool true) ∧ Below w.heap.size w w' := by
  have hw1 : Below w.heap.size w (w.alloc (.cells #[.int .i64 vars, .slice ao cs.length cap] 24)) := (Below.refl _ _).alloc (Nat.le_refl _) _
  have hc1 : Hid (ListsAt (w.alloc (.cells #[.int .i64 vars, .slice ao cs.length cap] 24)) (w.alloc (.cells #[.int .i64 vars, .slice ao cs.length cap] 24)).heap.size ao cs) := (hc.below hw1 (Nat.le_refl _)).mono hw1.size
  have hlp := hFp.len
  unfold fm
  go_enter Try.func4, Try.ntmps4
  go_wp2_with fail
  refine (handed_any vars ao cap cs _ hc1.out hF.len hF.each).mono ?_
  rintro e w1 ⟨g, rfl, hg1, hH1, hb1⟩
  have I0 := Inv.start hc hH1 (by simpa using hb1)
  have hp0 := (hp.below I0.old (Nat.le_refl _)).mono I0.old.size
  clear hw1 hc1 hc hb1 hH1 hg1
  obtain ⟨n0, n1, m0, m1, hl⟩ := I0.cells
  go_wp2_with fail
  refine (lists_any po pcap p _ hp0 hFp.len hFp.each).mono ?_
  rintro e w2 ⟨rfl, hHp, hbn⟩
  have I : InvP w w2 _ _ _ vars ao cap cs po _ p := ⟨I0.step hbn, (hp0.below hbn (Nat.le_refl _)).mono hbn.size, hHp⟩
  clear n0 n1 m0 m1 hl I0 hp0 hHp hbn
  generalize (w1.alloc (.cells #[.int .i64 vars, .slice (some ⟨g, 0, none⟩) cs.length (cs.length + 4)] 24)).heap.size = gp at *
  obtain ⟨n0, n1, m0, m1, hl⟩ := I.inv.cells
  have hlp2 := Handed.lists I.hand
  by_cases hf : (fault vars cs).1 = 0
  · obtain ⟨n, rfl, hgd⟩ := good_of hf
    have HF : Hid ((fault n cs).1 = 0) := hf
    have hfe : ((fault n cs).1 != 0) = false := by simp [hf]
    clear hf
    go_wp2_with fail
    refine (check_good n (some ⟨g, 0, none⟩) (some ⟨gp, 0, none⟩) (cs.length + 4) (p.length + 4) cs p _ hl hlp2 hgd HF.out (by omega)).mono ?_
    rintro e w3 ⟨rfl, hbn⟩
    replace I := I.step hbn
    clear n0 n1 m0 m1 hl hlp2
    obtain ⟨n0, n1, m0, m1, hl⟩ := I.inv.cells
    have hlf := I.inv.lists
    go_wp2_with fail
    refine (refFault_any n ao cap cs _ hlf hF.nums).mono ?_
    rintro e w4 ⟨rfl, hbn⟩
    replace I := I.step hbn
    clear n0 n1 m0 m1 hl hlf
    obtain ⟨n0, n1, m0, m1, hl⟩ := I.inv.cells
    have hlf := I.inv.lists
    go_wp2_with fail
    refine (keptLists_any g ao cap cs _ I.inv.hand hlf hF.len hF.each).mono ?_
    rintro e w5 ⟨rfl, hbn⟩
    replace I := I.step hbn
    clear n0 n1 m0 m1 hl hlf
    obtain ⟨n0, n1, m0, m1, hl⟩ := I.inv.cells
    have hlf := I.lists
    go_wp2_with fail
    refine (keptLists_any gp po pcap p _ I.hand hlf hFp.len hFp.each).mono ?_
    rintro e w6 ⟨rfl, hbn⟩
    replace I := I.step hbn
    clear n0 n1 m0 m1 hl hlf
    obtain ⟨n0, n1, m0, m1, hl⟩ := I.inv.cells
    have hlf := I.inv.lists
    have hlf2 := I.lists
    go_wp2_with fail
    refine (rcheck_any n hgd.vars ao po cap pcap cs p _ hlf hlf2 (fun c hc l hl => hgd.lits c hc l hl) hgd.many hgd.long (by omega) hpcap hFp.nums (fun c hc => by have := hFp.each c hc; omega)).mono ?_
    rintro e w7 ⟨rfl, hbn⟩
    replace I := I.step hbn
    generalize checkOf n cs 0 p = r at *
    have e1 : (r.1 == r.1) = true := by simp
    have e2 : (r.2 == r.2) = true := by simp
    clear n0 n1 m0 m1 hl hlf hlf2
    go_wp2
    go_ret
    exact ⟨rfl, I.inv.old⟩
  · have hfe : ((fault vars cs).1 != 0) = true := by simp [hf]
    have hee : ((fault vars cs).1 == (fault vars cs).1) = true := by simp
    have HF : Hid (¬ (fault vars cs).1 = 0) := hf
    clear hf
    go_wp2_with fail
    refine (check_bad vars (some ⟨g, 0, none⟩) (cs.length + 4) cs _ _ hl HF.out).mono ?_
    rintro e w3 ⟨rfl, hbn⟩
    replace I := I.step hbn
    clear n0 n1 m0 m1 hl hlp2
    obtain ⟨n0, n1, m0, m1, hl⟩ := I.inv.cells
    have hlf := I.inv.lists
    go_wp2_with fail
    refine (refFault_any vars ao cap cs _ hlf hF.nums).mono ?_
    rintro e w4 ⟨rfl, hbn⟩
    replace I := I.step hbn
    clear n0 n1 m0 m1 hl hlf
    obtain ⟨n0, n1, m0, m1, hl⟩ := I.inv.cells
    have hlf := I.inv.lists
    go_wp2_with fail
    refine (keptLists_any g ao cap cs _ I.inv.hand hlf hF.len hF.each).mono ?_
    rintro e w5 ⟨rfl, hbn⟩
    replace I := I.step hbn
    clear n0 n1 m0 m1 hl hlf
    obtain ⟨n0, n1, m0, m1, hl⟩ := I.inv.cells
    have hlf := I.lists
    go_wp2_with fail
    refine (keptLists_any gp po pcap p _ I.hand hlf hFp.len hFp.each).mono ?_
    rintro e w6 ⟨rfl, hbn⟩
    replace I := I.step hbn
    clear n0 n1 m0 m1 hl hlf
    go_wp2
    go_ret
    exact ⟨rfl, I.inv.old⟩
end Go.Proofs.Ytlodenfdcckemaa
