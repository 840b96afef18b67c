/-
  The walk of the document's answer to what follows.
-/
import Derived.Test.YtlodenfdcckemaaDoorH17
import Derived.Deep.LoopGhost
namespace Go.Proofs.YtlodenfdcckemaaDoor
open Go.RowKit

/-- What the document's table holds when all has been gone through. -/
structure RDone (V : Nat) (C : List (List Int)) (G : Int → Prop) (bs : List Bool) : Prop where
  come : RCome V C G bs
  shut : crash bs = false → Shut C G (fun l => IsLit V l ∧ there bs l = true)

theorem Tryd.zeroKnown (w : World) : (zeroValue 83).run Tryd.prog w = .ok (.agg (List.replicate 65 (Value.bool false)).toArray) w := by kernel_rfl

theorem known_new : bvs (List.replicate 65 false) = List.replicate 65 (Value.bool false) := by simp

set_option maxRecDepth 100000 in
set_option maxHeartbeats 4000000 in
theorem rfollow_any (V : Nat) (hV : V ≤ 20) (a1 a2 a3 : Option Addr) (c1 c2 c3 : Nat) (cs1 cs2 : List (List Int)) (g : List Int) (w : World) (h1 : ListsAt w w.heap.size a1 cs1) (h2 : ListsAt w w.heap.size a2 cs2) (h3 : IntsAt w w.heap.size a3 g)
    (hl1 : ∀ c ∈ cs1, ∀ l ∈ c, IsLit V l) (hl2 : ∀ c ∈ cs2, ∀ l ∈ c, IsLit V l) (hg : ∀ l ∈ g, IsLit V l) (hn1 : cs1.length ≤ 4611686018427387904) (hn2 : cs2.length ≤ 4611686018427387904) (hn3 : g.length ≤ 4611686018427387904) (he1 : ∀ c ∈ cs1, c.length ≤ 20) (he2 : ∀ c ∈ cs2, c.length ≤ 20) :
    Calls Tryd.prog 51 #[.slice a1 cs1.length c1, .slice a2 cs2.length c2, .slice a3 g.length c3] w fun e w' => ∃ (Hk : Nat) (bs : List Bool), e = .returned (.pointer (some ⟨Hk, 0, none⟩)) ∧ Blk w' Hk 83 (bvs bs) ∧ RDone V (cs1 ++ cs2) (fun l => l ∈ g) bs ∧ Below w.heap.size w w' ∧ w.heap.size ≤ Hk := by
  have hz := Tryd.zeroKnown
  generalize hcells : (List.replicate 65 (Value.bool false)).toArray = zs at hz
  have HZ : Hid _ := hcells
  clear hcells
  go_enter Tryd.func51, Tryd.ntmps51
  go_wp2
  have b1 : Below w.heap.size w (w.alloc (.cells zs 83)) := alloc_below w _
  have B1 : Blk (w.alloc (.cells zs 83)) w.heap.size 83 (bvs (List.replicate 65 false)) := by
    rw [known_new, ← HZ.out]; exact blk_new w (List.replicate 65 (Value.bool false)) 83
  generalize w.alloc (.cells zs 83) = w1 at *
  obtain ⟨Hk, HHk⟩ : ∃ Hk, Hid (Hk = w.heap.size) := ⟨_, rfl⟩
  rw [← HHk.out] at B1 ⊢
  have HB1 : Hid (Below w.heap.size w w1) := b1
  have hH1 := B1.lt
  clear b1 hz
  go_loopw [8] (fun x wr => ∃ (i : Nat) (bs : List Bool), i ≤ g.length ∧ x = .int .i64 i ∧ Hid (Blk wr Hk 83 (bvs bs)) ∧ Hid (RCome V (cs1 ++ cs2) (fun l => l ∈ g) bs) ∧ Hid (∀ l ∈ g.take i, there bs l = true) ∧ Hid (Chg (fun k => k = Hk) w1 wr)) (fun x _ => g.length - (intOf x).toNat)
  case atStart => exact ⟨0, List.replicate 65 false, Nat.zero_le _, rfl, B1, RCome.start _ _ _, (fun l hl => by simp at hl), Chg.refl _ _⟩
  case round =>
    obtain ⟨i, bs, hi, rfl, HB, HR, HG, HC⟩ := hrel
    have hbw : Below w.heap.size w wr := HB1.out.trans (HC.out.below HB1.out.size fun k e => by have := HHk.out; omega)
    by_cases hlt : i < g.length
    · have h3r := h3.below hbw (Nat.le_refl _)
      obtain ⟨b, o, rfl, hb, hcell⟩ := h3r (by intro h; rw [h] at hlt; simp at hlt)
      have hck := hcell i hlt
      have hmem : g.getD i 0 ∈ g := by rw [getD_lt _ _ _ hlt]; exact List.getElem_mem hlt
      have hx := hg _ hmem
      have HT : Hid (g.take (i + 1) = g.take i ++ [g.getD i 0]) := take_succ_getD g i hlt
      have HF : Hid (Fol (cs1 ++ cs2) (fun l => l ∈ g) (g.getD i 0)) := Fol.given hmem
      generalize g.getD i 0 = x at hck hx HT HF
      have c1 := radd_any V hV Hk bs x wr HB.out HR.out.len hx
      have HXl : Hid (IsLit V x) := hx
      clear hcell hmem h3r hx
      go_wp2_with (go_at_call 77; refine c1.mono ?_; rintro e w4 ⟨rfl, hB4, hC4⟩)
      go_roundw
      case rel =>
        refine ⟨i + 1, addL bs x, by omega, by go_num, hB4, HR.out.add hV HXl.out HF.out, ?_, HC.out.trans hC4⟩
        intro l hl
        rw [HT.out] at hl
        rcases List.mem_append.1 hl with h | h
        · have hlg : IsLit V l := hg l (List.mem_of_mem_take h)
          rw [addL_there hV HR.out.len HXl.out hlg, HG.out l h]; rfl
        · rw [List.mem_singleton] at h
          subst h
          rw [addL_there hV HR.out.len HXl.out HXl.out]; simp
      case measure => simp [intOf]; omega
    · obtain rfl : i = g.length := by omega
      have HG2 : Hid (∀ l ∈ g, there bs l = true) := by
        have := HG.out
        rwa [List.take_length] at this
      clear hbw HG
      go_wp2
      go_loopg [9] (2 * room bs + 1) (fun gg a wq => ∃ (again : Bool) (bt : List Bool), a = .bool again ∧ Hid (Blk wq Hk 83 (bvs bt)) ∧ Hid (RCome V (cs1 ++ cs2) (fun l => l ∈ g) bt) ∧ Hid (∀ l ∈ g, there bt l = true) ∧ Hid (Chg (fun k => k = Hk) w1 wq) ∧ Hid (again = true ∨ crash bt = true ∨ ∀ c ∈ cs1 ++ cs2, Dull bt c) ∧ Hid (2 * room bt + (if again then 1 else 0) ≤ gg))
      case atStart => exact ⟨true, bs, rfl, HB, HR, HG2, HC, Or.inl rfl, by simp [Hid]⟩
      case round =>
        obtain ⟨again, bt, rfl, HBt, HRt, HGt, HCt, HE, HM⟩ := hrel
        have hbw : Below w.heap.size w wr := HB1.out.trans (HCt.out.below HB1.out.size fun k e => by have := HHk.out; omega)
        have HBw : Hid (Below w.heap.size w wr) := hbw
        have hbl := HRt.out.len
        have hc64 := HBt.out.cell (i := 64) (by simp; omega) undef
        have hHl := HBt.out.lt
        rw [bvs_get (by omega)] at hc64
        clear hbw
        cases again with
        | false =>
          go_wp2
          go_ret
          refine ⟨Hk, bt, rfl, HBt.out, ⟨HRt.out, fun hx => ?_⟩, HBw.out, by have := HHk.out; omega⟩
          refine HRt.out.shut hx (fun c hc => ?_) (fun l hl => ⟨hg l hl, HGt.out l hl⟩) ?_
          · rcases List.mem_append.1 hc with h | h
            · exact hl1 c h
            · exact hl2 c h
          · rcases HE.out with h | h | h
            · cases h
            · rw [hx] at h; cases h
            · exact h
        | true =>
          cases hx : bt.getD 64 false with
          | true =>
            rw [hx] at hc64
            have HX : Hid (crash bt = true) := hx
            clear hx
            go_wp2
            go_ret
            exact ⟨Hk, rfl, bt, HBt.out, ⟨HRt.out, fun h => by rw [HX.out] at h; cases h⟩, HBw.out, by have := HHk.out; omega⟩
          | false =>
            rw [hx] at hc64
            have HX : Hid (crash bt = false) := hx
            clear hx
            have p1 := rpass_any V hV (cs1 ++ cs2) (fun l => l ∈ g) Hk bt a1 c1 cs1 wr HBt.out ((h1.below HBw.out (Nat.le_refl _)).mono (by have := HHk.out; omega)) (fun c hc => List.mem_append_left _ hc) hl1 hn1 he1 HRt.out
            go_wp2_with fail
            refine p1.mono ?_
            rintro e w5 ⟨ag1, b5, rfl, hB5, hP5, hC5⟩
            have hbw5 : Below w.heap.size w w5 := HBw.out.trans (hC5.below HBw.out.size fun k e => by have := HHk.out; omega)
            have p2 := rpass_any V hV (cs1 ++ cs2) (fun l => l ∈ g) Hk b5 a2 c2 cs2 w5 hB5 ((h2.below hbw5 (Nat.le_refl _)).mono (by have := HHk.out; omega)) (fun c hc => List.mem_append_right _ hc) hl2 hn2 he2 hP5.come
            clear p1
            go_wp2_with fail
            refine p2.mono ?_
            rintro e w6 ⟨ag2, b6, rfl, hB6, hP6, hC6⟩
            clear p2
            have HG6 : Hid (∀ l ∈ g, there b6 l = true) := fun l hl => hP6.more l (hg l hl) (hP5.more l (hg l hl) (HGt.out l hl))
            have HC6 : Hid (Chg (fun k => k = Hk) w1 w6) := (HCt.out.trans hC5).trans hC6
            have HE6 : Hid ((ag1 || ag2) = true ∨ crash b6 = true ∨ ∀ c ∈ cs1 ++ cs2, Dull b6 c) := by
              unfold Hid
              cases ha : (ag1 || ag2) with
              | true => exact Or.inl rfl
              | false =>
                rw [Bool.or_eq_false_iff] at ha
                cases hcr : crash b6 with
                | true => exact Or.inr (Or.inl rfl)
                | false =>
                  obtain ⟨e6, d6⟩ := hP6.calm ha.2 hcr
                  rw [e6] at hcr
                  obtain ⟨e5, d5⟩ := hP5.calm ha.1 hcr
                  refine Or.inr (Or.inr fun c hc => ?_)
                  rw [e6]
                  rcases List.mem_append.1 hc with h | h
                  · have := d5 c h; rw [e5]; exact this
                  · exact d6 c h
            have HM6 : Hid (2 * room b6 + (if (ag1 || ag2) then 1 else 0) < 2 * room bt + 1) := by
              unfold Hid
              have l5 := hP5.le
              have l6 := hP6.le
              cases ha : (ag1 || ag2) with
              | true =>
                rw [Bool.or_eq_true] at ha
                rcases ha with h | h
                · have := hP5.grown h; simp; omega
                · have := hP6.grown h; simp; omega
              | false => simp; omega
            have HR6 : Hid (RCome V (cs1 ++ cs2) (fun l => l ∈ g) b6) := hP6.come
            have HB6 : Hid (Blk w6 Hk 83 (bvs b6)) := hB6
            have HM0 := HM.out
            simp only [if_true] at HM0
            clear hP5 hP6 hC5 hC6 hB5 hB6 hc64
            cases ag1 with
            | true =>
              go_wp2
              go_roundg (2 * room b6 + 1)
              case measure => have := HM6.out; simp at this; omega
              case rel => exact ⟨true, b6, rfl, HB6, HR6, HG6, HC6, HE6, by simp [Hid]⟩
            | false =>
              go_wp2
              go_roundg (2 * room b6 + (if ag2 then 1 else 0))
              case measure => have := HM6.out; simp only [Bool.false_or] at this; omega
              case rel => exact ⟨ag2, b6, rfl, HB6, HR6, HG6, HC6, HE6, Nat.le_refl _⟩
end Go.Proofs.YtlodenfdcckemaaDoor
