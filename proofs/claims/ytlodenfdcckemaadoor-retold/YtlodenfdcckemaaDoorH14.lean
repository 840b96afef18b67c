/-
  Several texts, one behind the other.
-/
import Derived.Test.YtlodenfdcckemaaDoorH13
import Derived.Deep.LoopGhost
import Derived.Test.YtlodenfdcckemaaDoorH10
/-
  The walk of the document's answer to what follows.
-/

namespace Go.Proofs.YtlodenfdcckemaaDoor
open Go.RowKit

/-- What the document's table holds when all has been gone through. -/
structure RDone (V : Nat) (C : List (List Int)) (G : Int → Prop) (bs : List Bool) : Prop where
  come : RCome V C G bs
  shut : crash bs = false → Shut C G (fun l => IsLit V l ∧ there bs l = true)

theorem Tryd.zeroKnown (w : World) : (zeroValue 83).run Tryd.prog w = .ok (.agg (List.replicate 65 (Value.bool false)).toArray) w := by kernel_rfl

theorem known_new : bvs (List.replicate 65 false) = List.replicate 65 (Value.bool false) := by simp

set_option maxRecDepth 100000 in
set_option maxHeartbeats 4000000 in
theorem rfollow_any (V : Nat) (hV : V ≤ 20) (a1 a2 a3 : Option Addr) (c1 c2 c3 : Nat) (cs1 cs2 : List (List Int)) (g : List Int) (w : World) (h1 : ListsAt w w.heap.size a1 cs1) (h2 : ListsAt w w.heap.size a2 cs2) (h3 : IntsAt w w.heap.size a3 g)
    (hl1 : ∀ c ∈ cs1, ∀ l ∈ c, IsLit V l) (hl2 : ∀ c ∈ cs2, ∀ l ∈ c, IsLit V l) (hg : ∀ l ∈ g, IsLit V l) (hn1 : cs1.length ≤ 4611686018427387904) (hn2 : cs2.length ≤ 4611686018427387904) (hn3 : g.length ≤ 4611686018427387904) (he1 : ∀ c ∈ cs1, c.length ≤ 20) (he2 : ∀ c ∈ cs2, c.length ≤ 20) :
    Calls Tryd.prog 51 #[.slice a1 cs1.length c1, .slice a2 cs2.length c2, .slice a3 g.length c3] w fun e w' => ∃ (Hk : Nat) (bs : List Bool), e = .returned (.pointer (some ⟨Hk, 0, none⟩)) ∧ Blk w' Hk 83 (bvs bs) ∧ RDone V (cs1 ++ cs2) (fun l => l ∈ g) bs ∧ Below w.heap.size w w' ∧ w.heap.size ≤ Hk := by
  have hz := Tryd.zeroKnown
  generalize hcells : (List.replicate 65 (Value.bool false)).toArray = zs at hz
  have HZ : Hid _ := hcells
  clear hcells
  go_enter Tryd.func51, Tryd.ntmps51
  go_wp2
  have b1 : Below w.heap.size w (w.alloc (.cells zs 83)) := alloc_below w _
  have B1 : Blk (w.alloc (.cells zs 83)) w.heap.size 83 (bvs (List.replicate 65 false)) := by
    rw [known_new, ← HZ.out]; exact blk_new w (List.replicate 65 (Value.bool false)) 83
  generalize w.alloc (.cells zs 83) = w1 at *
  obtain ⟨Hk, HHk⟩ : ∃ Hk, Hid (Hk = w.heap.size) := ⟨_, rfl⟩
  rw [← HHk.out] at B1 ⊢
  have HB1 : Hid (Below w.heap.size w w1) := b1
  have hH1 := B1.lt
  clear b1 hz
  go_loopw [8] (fun x wr => ∃ (i : Nat) (bs : List Bool), i ≤ g.length ∧ x = .int .i64 i ∧ Hid (Blk wr Hk 83 (bvs bs)) ∧ Hid (RCome V (cs1 ++ cs2) (fun l => l ∈ g) bs) ∧ Hid (∀ l ∈ g.take i, there bs l = true) ∧ Hid (Chg (fun k => k = Hk) w1 wr)) (fun x _ => g.length - (intOf x).toNat)
  case atStart => exact ⟨0, List.replicate 65 false, Nat.zero_le _, rfl, B1, RCome.start _ _ _, (fun l hl => by simp at hl), Chg.refl _ _⟩
  case round =>
    obtain ⟨i, bs, hi, rfl, HB, HR, HG, HC⟩ := hrel
    have hbw : Below w.heap.size w wr := HB1.out.trans (HC.out.below HB1.out.size fun k e => by have := HHk.out; omega)
    by_cases hlt : i < g.length
    · have h3r := h3.below hbw (Nat.le_refl _)
      obtain ⟨b, o, rfl, hb, hcell⟩ := h3r (by intro h; rw [h] at hlt; simp at hlt)
      have hck := hcell i hlt
      have hmem : g.getD i 0 ∈ g := by rw [getD_lt _ _ _ hlt]; exact List.getElem_mem hlt
      have hx := hg _ hmem
      have HT : Hid (g.take (i + 1) = g.take i ++ [g.getD i 0]) := take_succ_getD g i hlt
      have HF : Hid (Fol (cs1 ++ cs2) (fun l => l ∈ g) (g.getD i 0)) := Fol.given hmem
      generalize g.getD i 0 = x at hck hx HT HF
      have c1 := radd_any V hV Hk bs x wr HB.out HR.out.len hx
      have HXl : Hid (IsLit V x) := hx
      clear hcell hmem h3r hx
      go_wp2_with (go_at_call 77; refine c1.mono ?_; rintro e w4 ⟨rfl, hB4, hC4⟩)
      go_roundw
      case rel =>
        refine ⟨i + 1, addL bs x, by omega, by go_num, hB4, HR.out.add hV HXl.out HF.out, ?_, HC.out.trans hC4⟩
        intro l hl
        rw [HT.out] at hl
        rcases List.mem_append.1 hl with h | h
        · have hlg : IsLit V l := hg l (List.mem_of_mem_take h)
          rw [addL_there hV HR.out.len HXl.out hlg, HG.out l h]; rfl
        · rw [List.mem_singleton] at h
          subst h
          rw [addL_there hV HR.out.len HXl.out HXl.out]; simp
      case measure => simp [intOf]; omega
    · obtain rfl : i = g.length := by omega
      have HG2 : Hid (∀ l ∈ g, there bs l = true) := by
        have := HG.out
        rwa [List.take_length] at this
      clear hbw HG
      go_wp2
      go_loopg [9] (2 * room bs + 1) (fun gg a wq => ∃ (again : Bool) (bt : List Bool), a = .bool again ∧ Hid (Blk wq Hk 83 (bvs bt)) ∧ Hid (RCome V (cs1 ++ cs2) (fun l => l ∈ g) bt) ∧ Hid (∀ l ∈ g, there bt l = true) ∧ Hid (Chg (fun k => k = Hk) w1 wq) ∧ Hid (again = true ∨ crash bt = true ∨ ∀ c ∈ cs1 ++ cs2, Dull bt c) ∧ Hid (2 * room bt + (if again then 1 else 0) ≤ gg))
      case atStart => exact ⟨true, bs, rfl, HB, HR, HG2, HC, Or.inl rfl, by simp [Hid]⟩
      case round =>
        obtain ⟨again, bt, rfl, HBt, HRt, HGt, HCt, HE, HM⟩ := hrel
        have hbw : Below w.heap.size w wr := HB1.out.trans (HCt.out.below HB1.out.size fun k e => by have := HHk.out; omega)
        have HBw : Hid (Below w.heap.size w wr) := hbw
        have hbl := HRt.out.len
        have hc64 := HBt.out.cell (i := 64) (by simp; omega) undef
        have hHl := HBt.out.lt
        rw [bvs_get (by omega)] at hc64
        clear hbw
        cases again with
        | false =>
          go_wp2
          go_ret
          refine ⟨Hk, bt, rfl, HBt.out, ⟨HRt.out, fun hx => ?_⟩, HBw.out, by have := HHk.out; omega⟩
          refine HRt.out.shut hx (fun c hc => ?_) (fun l hl => ⟨hg l hl, HGt.out l hl⟩) ?_
          · rcases List.mem_append.1 hc with h | h
            · exact hl1 c h
            · exact hl2 c h
          · rcases HE.out with h | h | h
            · cases h
            · rw [hx] at h; cases h
            · exact h
        | true =>
          cases hx : bt.getD 64 false with
          | true =>
            rw [hx] at hc64
            have HX : Hid (crash bt = true) := hx
            clear hx
            go_wp2
            go_ret
            exact ⟨Hk, rfl, bt, HBt.out, ⟨HRt.out, fun h => by rw [HX.out] at h; cases h⟩, HBw.out, by have := HHk.out; omega⟩
          | false =>
            rw [hx] at hc64
            have HX : Hid (crash bt = false) := hx
            clear hx
            have p1 := rpass_any V hV (cs1 ++ cs2) (fun l => l ∈ g) Hk bt a1 c1 cs1 wr HBt.out ((h1.below HBw.out (Nat.le_refl _)).mono (by have := HHk.out; omega)) (fun c hc => List.mem_append_left _ hc) hl1 hn1 he1 HRt.out
            go_wp2_with fail
            refine p1.mono ?_
            rintro e w5 ⟨ag1, b5, rfl, hB5, hP5, hC5⟩
            have hbw5 : Below w.heap.size w w5 := HBw.out.trans (hC5.below HBw.out.size fun k e => by have := HHk.out; omega)
            have p2 := rpass_any V hV (cs1 ++ cs2) (fun l => l ∈ g) Hk b5 a2 c2 cs2 w5 hB5 ((h2.below hbw5 (Nat.le_refl _)).mono (by have := HHk.out; omega)) (fun c hc => List.mem_append_right _ hc) hl2 hn2 he2 hP5.come
            clear p1
            go_wp2_with fail
            refine p2.mono ?_
            rintro e w6 ⟨ag2, b6, rfl, hB6, hP6, hC6⟩
            clear p2
            have HG6 : Hid (∀ l ∈ g, there b6 l = true) := fun l hl => hP6.more l (hg l hl) (hP5.more l (hg l hl) (HGt.out l hl))
            have HC6 : Hid (Chg (fun k => k = Hk) w1 w6) := (HCt.out.trans hC5).trans hC6
            have HE6 : Hid ((ag1 || ag2) = true ∨ crash b6 = true ∨ ∀ c ∈ cs1 ++ cs2, Dull b6 c) := by
              unfold Hid
              cases ha : (ag1 || ag2) with
              | true => exact Or.inl rfl
              | false =>
                rw [Bool.or_eq_false_iff] at ha
                cases hcr : crash b6 with
                | true => exact Or.inr (Or.inl rfl)
                | false =>
                  obtain ⟨e6, d6⟩ := hP6.calm ha.2 hcr
                  rw [e6] at hcr
                  obtain ⟨e5, d5⟩ := hP5.calm ha.1 hcr
                  refine Or.inr (Or.inr fun c hc => ?_)
                  rw [e6]
                  rcases List.mem_append.1 hc with h | h
                  · have := d5 c h; rw [e5]; exact this
                  · exact d6 c h
            have HM6 : Hid (2 * room b6 + (if (ag1 || ag2) then 1 else 0) < 2 * room bt + 1) := by
              unfold Hid
              have l5 := hP5.le
              have l6 := hP6.le
              cases ha : (ag1 || ag2) with
              | true =>
                rw [Bool.or_eq_true] at ha
                rcases ha with h | h
                · have := hP5.grown h; simp; omega
                · have := hP6.grown h; simp; omega
              | false => simp; omega
            have HR6 : Hid (RCome V (cs1 ++ cs2) (fun l => l ∈ g) b6) := hP6.come
            have HB6 : Hid (Blk w6 Hk 83 (bvs b6)) := hB6
            have HM0 := HM.out
            simp only [if_true] at HM0
            clear hP5 hP6 hC5 hC6 hB5 hB6 hc64
            cases ag1 with
            | true =>
              go_wp2
              go_roundg (2 * room b6 + 1)
              case measure => have := HM6.out; simp at this; omega
              case rel => exact ⟨true, b6, rfl, HB6, HR6, HG6, HC6, HE6, by simp [Hid]⟩
            | false =>
              go_wp2
              go_roundg (2 * room b6 + (if ag2 then 1 else 0))
              case measure => have := HM6.out; simp only [Bool.false_or] at this; omega
              case rel => exact ⟨ag2, b6, rfl, HB6, HR6, HG6, HC6, HE6, Nat.le_refl _⟩
end Go.Proofs.YtlodenfdcckemaaDoor

/-
  The walks of the document's functions that tell faults.
-/

namespace Go.Proofs.YtlodenfdcckemaaDoor
open Go.RowKit

/-- What the document calls the size of a number. -/
def sizeOf (l : Int) : Int := if 0 ≤ l then l else if l = -9223372036854775808 then -1 else -l

set_option maxHeartbeats 400000 in
theorem size_any (l : Int) (w : World) (h0 : -9223372036854775808 ≤ l) (h1 : l ≤ 9223372036854775807) :
    Calls Tryd.prog 76 #[.int .i64 l] w fun e w' => e = .returned (.int .i64 (sizeOf l)) ∧ w' = w := by
  by_cases h : 0 ≤ l
  · have hf : Hid (sizeOf l = l) := by unfold Hid; simp [sizeOf, h]
    go_enter Tryd.func76, Tryd.ntmps76
    go_wp2
    go_ret
    exact ⟨by rw [hf.out]; rfl, rfl⟩
  by_cases hm : l = -9223372036854775808
  · have hf : Hid (sizeOf l = -1) := by unfold Hid; simp [sizeOf, hm]
    have hw : wrap64 (-l) < 0 := by rw [hm]; decide +kernel
    clear hm
    go_enter Tryd.func76, Tryd.ntmps76
    go_wp2
    go_ret
    exact ⟨by rw [hf.out]; rfl, rfl⟩
  · have hf : Hid (sizeOf l = -l) := by unfold Hid; simp only [sizeOf, if_neg h, if_neg hm]
    have h0' : -9223372036854775807 ≤ l := by omega
    clear hm h0
    go_enter Tryd.func76, Tryd.ntmps76
    go_wp2
    go_ret
    exact ⟨by rw [hf.out]; rfl, rfl⟩

theorem lit_size {vars l : Int} (h0 : 0 ≤ vars) (h1 : vars ≤ 20) (hl : -9223372036854775808 ≤ l) : lit vars l = (decide (1 ≤ sizeOf l) && decide (sizeOf l ≤ vars)) := by
  by_cases h : 0 ≤ l
  · have e : sizeOf l = l := by simp [sizeOf, h]
    rw [e, Bool.eq_iff_iff]
    simp only [lit, Bool.and_eq_true, decide_eq_true_eq, Bool.not_eq_true', beq_eq_false_iff_ne]
    constructor <;> intro h <;> omega
  · by_cases hm : l = -9223372036854775808
    · have e : sizeOf l = -1 := by simp [sizeOf, hm]
      rw [e, lit_false (by omega)]; rfl
    · have e : sizeOf l = -l := by simp only [sizeOf, if_neg h, if_neg hm]
      rw [e, Bool.eq_iff_iff]
      simp only [lit, Bool.and_eq_true, decide_eq_true_eq, Bool.not_eq_true', beq_eq_false_iff_ne]
      constructor <;> intro h <;> omega

set_option maxHeartbeats 400000 in
theorem literal_any (l vars : Int) (w : World) (h0 : -9223372036854775808 ≤ l) (h1 : l ≤ 9223372036854775807) (hv0 : 0 ≤ vars) (hv1 : vars ≤ 20) :
    Calls Tryd.prog 50 #[.int .i64 l, .int .i64 vars] w fun e w' => e = .returned (.bool (lit vars l)) ∧ w' = w := by
  have hl := lit_size (l := l) hv0 hv1 h0
  have HL : Hid (lit vars l = (decide (1 ≤ sizeOf l) && decide (sizeOf l ≤ vars))) := hl
  clear hl
  go_enter Tryd.func50, Tryd.ntmps50
  go_wp2_with (go_at_call 76; refine (size_any _ _ h0 h1).mono ?_; rintro e w' ⟨rfl, rfl⟩)
  all_goals go_ret
  · have h : 1 ≤ sizeOf l := by assumption
    exact ⟨by rw [HL.out, decide_eq_true h]; rfl, rfl⟩
  · have h : ¬ 1 ≤ sizeOf l := by omega
    exact ⟨by rw [HL.out, decide_eq_false h]; rfl, rfl⟩

set_option maxHeartbeats 1000000 in
theorem refFault_any (vars : Int) (ao : Option Addr) (cap : Nat) (cs : List (List Int)) (w : World) (hc : ListsAt w w.heap.size ao cs) (hr : ∀ c ∈ cs, ∀ l ∈ c, -9223372036854775808 ≤ l ∧ l ≤ 9223372036854775807) :
    Calls Tryd.prog 14 #[.agg #[.int .i64 vars, .slice ao cs.length cap]] w fun e w' => e = .returned (.tuple #[.int .i64 (fault vars cs).1, .int .i64 (fault vars cs).2]) ∧ Below w.heap.size w w' := by
  have hw1 : Below w.heap.size w (w.alloc (.cells #[.int .i64 vars, .slice ao cs.length cap] 31)) := (Below.refl _ _).alloc (Nat.le_refl _) _
  by_cases hv0 : vars < 0
  · have hf : Hid (fault vars cs = (3, 0)) := fault_vars (Or.inl hv0)
    go_enter Tryd.func14, Tryd.ntmps14
    go_wp2
    go_ret2
    exact ⟨of_two hf.out, hw1⟩
  by_cases hv1 : 20 < vars
  · have hf : Hid (fault vars cs = (3, 0)) := fault_vars (Or.inr hv1)
    go_enter Tryd.func14, Tryd.ntmps14
    go_wp2
    go_ret2
    exact ⟨of_two hf.out, hw1⟩
  by_cases h2 : 200 < cs.length
  · have hf : Hid (fault vars cs = (4, 0)) := fault_many (by omega) (by omega) h2
    go_enter Tryd.func14, Tryd.ntmps14
    go_wp2
    go_ret2
    exact ⟨of_two hf.out, hw1⟩
  · have hf : Hid (fault vars cs = clausesFault vars 0 cs) := fault_rest (by omega) (by omega) h2
    have HR : Hid (∀ c ∈ cs, ∀ l ∈ c, -9223372036854775808 ≤ l ∧ l ≤ 9223372036854775807) := hr
    clear hr
    go_enter Tryd.func14, Tryd.ntmps14
    go_wp2
    go_loopw [4] (fun i wr => ∃ (k : Nat), k ≤ cs.length ∧ i = .int .i64 k ∧ Below w.heap.size w wr ∧ wr.cell? ⟨w.heap.size, 0, none⟩ = some (.int .i64 vars) ∧ wr.cell? ⟨w.heap.size, 1, none⟩ = some (.slice ao cs.length cap) ∧ Hid (clausesFault vars 0 cs = clausesFault vars k (cs.drop k))) (fun i _ => cs.length - (intOf i).toNat)
    case atStart => exact ⟨0, Nat.zero_le _, rfl, hw1, by simp, by simp, rfl⟩
    case round =>
      obtain ⟨k, hk, rfl, hbel, c0, c1, hall⟩ := hrel
      clear hw1
      by_cases hlt : k < cs.length
      · obtain ⟨b, o, rfl, hb, hcell⟩ := hc (by intro h; rw [h] at hlt; simp at hlt)
        obtain ⟨A, C, hck, hin⟩ := hcell k hlt
        replace hck := (hbel.cell (p := ⟨b, o + k, none⟩) hb).trans hck
        have hst := clausesFault_step vars k cs hlt
        have hmem : cs.getD k [] ∈ cs := by rw [getD_lt _ _ _ hlt]; exact List.getElem_mem hlt
        obtain ⟨c, hx⟩ : ∃ x, x = cs.getD k [] := ⟨_, rfl⟩
        rw [← hx] at hck hin hst hmem
        have Hst : Hid _ := hst
        have Hin : Hid _ := hin
        have HRc : Hid _ := HR.out c hmem
        clear hx hcell hc hst hin hmem
        by_cases h5 : 20 < c.length
        · have H5 : Hid (clauseFault vars c = 5) := by unfold Hid; simp [clauseFault, h5]
          go_wp2
          go_ret2
          exact ⟨of_two (hf.out.trans (hall.out.trans (Hst.out.trans (by rw [if_neg (by rw [H5.out]; decide), H5.out])))), hbel⟩
        · have H5 : Hid (¬ 20 < c.length) := h5
          go_wp2
          go_loopw [5] (fun i wr => ∃ (j : Nat), j ≤ c.length ∧ i = .int .i64 j ∧ Below w.heap.size w wr ∧ wr.cell? ⟨w.heap.size, 0, none⟩ = some (.int .i64 vars) ∧ wr.cell? ⟨w.heap.size, 1, none⟩ = some (.slice (some ⟨b, o, none⟩) cs.length cap) ∧ wr.cell? ⟨b, o + k, none⟩ = some (.slice A c.length C) ∧ Hid ((c.take j).all (lit vars) = true)) (fun i _ => c.length - (intOf i).toNat)
          case atStart => exact ⟨0, Nat.zero_le _, rfl, hbel, c0, c1, hck, by unfold Hid; simp⟩
          case round =>
            clear hbel c0 c1 hck
            obtain ⟨j, hj, rfl, hbel, c0, c1, hck, HA⟩ := hrel
            by_cases hjl : j < c.length
            · obtain ⟨b', o', rfl, hb', hcell'⟩ := Hin.out (by intro h; rw [h] at hjl; simp at hjl)
              have hcj := (hbel.cell (p := ⟨b', o' + j, none⟩) hb').trans (hcell' j hjl)
              have hbd : -9223372036854775808 ≤ c.getD j 0 ∧ c.getD j 0 ≤ 9223372036854775807 := HRc.out _ (by rw [getD_lt _ _ _ hjl]; exact List.getElem_mem hjl)
              obtain ⟨x, hx⟩ : ∃ x, x = c.getD j 0 := ⟨_, rfl⟩
              rw [← hx] at hcj hbd
              have HX : Hid (x = c.getD j 0) := hx
              obtain ⟨hx0, hx1⟩ := hbd
              clear hx hcell'
              cases hl : lit vars x
              · have H6 : Hid (clauseFault vars c = 6) := clauseFault_not H5.out (all_false_of _ _ j hjl (by rw [← HX.out]; exact hl))
                go_wp2
                go_quiet ((go_at_call 50; exact Calls.quiet_of_same (literal_any _ _ _ hx0 hx1 (by omega) (by omega))))
                go_wp2
                go_ret2
                exact ⟨of_two (hf.out.trans (hall.out.trans (Hst.out.trans (by rw [if_neg (by rw [H6.out]; decide), H6.out])))), below_drewN hbel _⟩
              · have HL : Hid (lit vars (c.getD j 0) = true) := by rw [← HX.out]; exact hl
                go_wp2
                go_quiet ((go_at_call 50; exact Calls.quiet_of_same (literal_any _ _ _ hx0 hx1 (by omega) (by omega))))
                go_wp2
                go_roundw
                case rel => exact ⟨j + 1, by omega, by go_num, below_drewN hbel _, by simpa using c0, by simpa using c1, by simpa using hck, by unfold Hid; rw [all_take_succ _ _ _ hjl, HA.out, HL.out]; rfl⟩
                case measure => simp [intOf]; omega
            · have H0 : Hid (clauseFault vars c = 0) := clauseFault_all H5.out (by have := HA.out; rwa [List.take_of_length_le (by omega)] at this)
              go_wp2
              go_roundw
              case rel => exact ⟨k + 1, by omega, by go_num, hbel, c0, c1, hall.out.trans (Hst.out.trans (if_pos H0.out))⟩
              case measure => simp [intOf]; omega
      · go_wp2
        go_ret2
        exact ⟨of_two (hf.out.trans (hall.out.trans (clausesFault_end _ _ _ (by omega)))), hbel⟩
end Go.Proofs.YtlodenfdcckemaaDoor
