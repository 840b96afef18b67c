/-
  The books take a list of lists.
-/
import Derived.Test.YtlodenfdcckemaaDoorH6
namespace Go.Proofs.YtlodenfdcckemaaDoor
open Go.RowKit

theorem Tryd.info23 : (Tryd.prog.info? 23).map (fun i => (i.zero, i.size, i.bytes)) = some (some (.slice none 0 0), 1, 24) := by kernel_rfl

theorem Chg.trans' {S T : Nat → Prop} {a b c : World} (h : Chg S a b) (k : Chg T b c) (hs : ∀ i, i < a.heap.size → T i → S i) : Chg S a c :=
  ⟨k.os.trans h.os, k.tape.trans h.tape, k.output.trans h.output, Nat.le_trans h.size k.size, fun i hi hn => (k.block i (Nat.lt_of_lt_of_le hi h.size) (fun e => hn (hs i hi e))).trans (h.block i hi hn), fun i o hi ho => k.others i o (h.others i o hi ho) ho⟩

theorem nodup_at {vs : List Value} {i j k : Nat} (h : (vs.filterMap Value.ownBlock).Nodup) (hi : i < vs.length) (hj : j < i) (e : (vs.getD i undef).ownBlock = some k) (e' : (vs.getD j undef).ownBlock = some k) : False := by
  rw [getD_lt _ _ _ hi] at e
  rw [getD_lt _ _ _ (by omega)] at e'
  exact List.pairwise_iff_getElem.1 (List.pairwise_filterMap.1 h) j i (by omega) hi hj k e' k e rfl

/-- Behind the append to the list of lists of lists, and its store. -/
theorem bkO {w4 w5 : World} {O : Nat} {vl vm vo : Value} {E : List (Value × Int)} {D L : List Value} {o : Obj} {g5 c5 l5 : Nat} (hBk : Bk w4 O vl vm vo E D) (hL : ∀ q ∈ L, (∃ n, n ≤ 5000000000 ∧ Own w4 0 24 q (rep n nilV)) ∧ ∀ k, vl.ownBlock = some k → q.ownBlock ≠ some k)
    (hO5 : Own w5 0 23 (.slice (some ⟨g5, 0, none⟩) l5 c5) (D ++ L)) (hgr : (w4.alloc o).grownBy w5 vo.ownBlock) (hat : vo.ownBlock = some g5 ∨ g5 = (w4.alloc o).heap.size) :
    Blk w5 O 27 [vl, vm, vo] ∧ Bk (w5.setCell ⟨O, 2, none⟩ (.slice (some ⟨g5, 0, none⟩) l5 c5)) O vl vm (.slice (some ⟨g5, 0, none⟩) l5 c5) E (D ++ L) ∧ Chg (fun k => k = O ∨ vo.ownBlock = some k) w4 (w5.setCell ⟨O, 2, none⟩ (.slice (some ⟨g5, 0, none⟩) l5 c5)) ∧ (vo.ownBlock = some g5 ∨ w4.heap.size ≤ g5) := by
  have hC4 : Chg (fun k => k = O ∨ vo.ownBlock = some k) w4 w5 := (Chg.of_below (alloc_below w4 o)).trans (Chg.of_grown hgr (fun k e => Or.inr e) (fun k e o' ho => (hBk.oo.alloc o).cells e o' ho))
  have hB5 : Blk w5 O 27 [vl, vm, vo] := (hBk.head.alloc o).grown hgr (own_blk hBk.oo hBk.head (by decide))
  have hgO : g5 ≠ O := fun e => own_blk hO5 hB5 (by decide) (by rw [← e]; rfl)
  have hset : Chg (fun k => k = O) w5 (w5.setCell ⟨O, 2, none⟩ (.slice (some ⟨g5, 0, none⟩) l5 c5)) := (Chg.refl (fun k => k = O) w5).setB O 2 rfl _
  have hC5 : Chg (fun k => k = O ∨ vo.ownBlock = some k) w4 (w5.setCell ⟨O, 2, none⟩ (.slice (some ⟨g5, 0, none⟩) l5 c5)) := hC4.trans (hset.mono fun k _ h => Or.inl h)
  refine ⟨hB5, ⟨hB5.set 2 _, ?_, ?_, hO5.chg hset (fun k e h => hgO (by simp [Value.ownBlock] at e; rw [e, h])), ?_, ?_, ?_, hBk.dm⟩, hC5, hat.imp (fun h => h) (fun h => by rw [alloc_size] at h; omega)⟩
  · refine hBk.ol.chg hC5 ?_
    rintro k e (h | h)
    · exact own_blk hBk.ol hBk.head (by decide) (by rw [e, h])
    · exact own_ne hBk.ol hBk.oo (by decide) e h
  · refine hBk.om.chg hC5 ?_
    rintro k e (h | h)
    · exact own_blk hBk.om hBk.head (by decide) (by rw [e, h])
    · exact own_ne hBk.om hBk.oo (by decide) e h
  · intro e he
    obtain ⟨n, hn, h⟩ := hBk.ents e he
    refine ⟨n, hn, h.chg hC5 ?_⟩
    rintro k e (h' | h')
    · exact own_blk h hBk.head (by decide) (by rw [e, h'])
    · exact own_ne h hBk.oo (by decide) e h'
  · intro d hd
    have hx : ∃ n, n ≤ 5000000000 ∧ Own w4 0 24 d (rep n nilV) := by
      rcases List.mem_append.1 hd with hd | hd
      · exact hBk.outs d hd
      · exact (hL d hd).1
    obtain ⟨n, hn, h⟩ := hx
    refine ⟨n, hn, h.chg hC5 ?_⟩
    rintro k e (h' | h')
    · exact own_blk h hBk.head (by decide) (by rw [e, h'])
    · exact own_ne h hBk.oo (by decide) e h'
  · intro d hd
    rcases List.mem_append.1 hd with hd | hd
    · exact hBk.dl d hd
    · exact (hL d hd).2

set_option maxRecDepth 100000 in
set_option maxHeartbeats 4000000 in
theorem takeLists_any (O : Nat) (vl vm vo v : Value) (E : List (Value × Int)) (D vs : List Value) (cs : List (List Int)) (w : World) (hBk : Bk w O vl vm vo E D) (hE : E.length + 4 * cs.length ≤ 100000000000) (hD : D.length ≤ 90)
    (hL : Own w 0 24 v vs) (hlen : vs.length = cs.length) (hls : ∀ i, i < vs.length → Own w 0 3 (vs.getD i undef) (ints (cs.getD i []))) (hnd : (vs.filterMap Value.ownBlock).Nodup) (hcl : cs.length ≤ 4000000000) (hc : ∀ c ∈ cs, c.length ≤ 900)
    (hdis : ∀ k, (v.ownBlock = some k ∨ ∃ y ∈ vs, y.ownBlock = some k) → ¬ Foot O vl vm vo E D k) :
    Calls Tryd.prog 40 #[.pointer (some ⟨O, 0, none⟩), v] w fun e w' => e = .returned (.tuple #[]) ∧ ∃ vl' vm' vo' E' D', Bk w' O vl' vm' vo' E' D' ∧ E'.length = E.length + 4 * cs.length ∧ D'.length = D.length + 4 ∧
      (∀ k, Foot O vl' vm' vo' E' D' k → Foot O vl vm vo E D k ∨ (v.ownBlock = some k ∨ ∃ y ∈ vs, y.ownBlock = some k) ∨ w.heap.size ≤ k) ∧ Chg (fun k => Foot O vl vm vo E D k ∨ v.ownBlock = some k ∨ ∃ y ∈ vs, y.ownBlock = some k) w w' := by
  obtain ⟨ao, ac, hv⟩ := hL.shape
  rw [hlen] at hv
  subst hv
  obtain ⟨oo, oc, hvo⟩ := hBk.oo.shape
  subst hvo
  have nd : ∀ i j, i < vs.length → j < i → ∀ k, (vs.getD i undef).ownBlock = some k → (vs.getD j undef).ownBlock ≠ some k := by
    intro i j hi hj k e e'
    exact nodup_at hnd hi hj e e'
  clear hnd
  have mem : ∀ i, i < vs.length → ∀ k, (vs.getD i undef).ownBlock = some k → ∃ y ∈ vs, y.ownBlock = some k := fun i hi k e => ⟨vs.getD i undef, by rw [getD_lt _ _ _ hi]; exact List.getElem_mem hi, e⟩
  have HV : Hid (∀ k, (Value.slice ao cs.length ac).ownBlock = some k → k < w.heap.size ∧ ∀ i, i < vs.length → (vs.getD i undef).ownBlock ≠ some k) := fun k e => ⟨(hL.lt e).2, fun i hi e' => own_ne hL (hls i hi) (by decide) e e'⟩
  go_enter Tryd.func40, Tryd.ntmps40
  go_wp2
  go_loopw [4] (fun i wr => ∃ (k : Nat) (vl1 vm1 : Value) (E1 : List (Value × Int)), k ≤ cs.length ∧ i = .int .i64 k ∧ Bk wr O vl1 vm1 (.slice oo D.length oc) E1 D ∧ E1.length = E.length + 4 * k ∧ Own wr 0 24 (.slice ao cs.length ac) vs ∧
      (∀ j, k ≤ j → j < vs.length → Own wr 0 3 (vs.getD j undef) (ints (cs.getD j []))) ∧ (∀ q, Foot O vl1 vm1 (.slice oo D.length oc) E1 D q → Foot O vl vm (.slice oo D.length oc) E D q ∨ (∃ j, j < k ∧ (vs.getD j undef).ownBlock = some q) ∨ w.heap.size ≤ q) ∧
      Chg (fun q => Foot O vl vm (.slice oo D.length oc) E D q ∨ ∃ y ∈ vs, y.ownBlock = some q) w wr) (fun i _ => cs.length - (intOf i).toNat)
  case atStart => exact ⟨0, vl, vm, E, by omega, rfl, hBk, by omega, hL, fun j _ hj => hls j hj, fun q h => Or.inl h, Chg.refl _ _⟩
  case round =>
    obtain ⟨k, vl1, vm1, E1, hk, rfl, hBk1, hE1, hL1, hls1, hF1, hC1⟩ := hrel
    by_cases hlt : k < cs.length
    · obtain ⟨g, cap, hg, hgl, hcells⟩ := hL1.at (by omega)
      have hck := hcells k (by omega)
      simp only [Value.slice.injEq] at hg
      obtain ⟨rfl, -, rfl⟩ := hg
      have hov := hls1 k (by omega) (by omega)
      have hcb : (cs.getD k []).length ≤ 900 := by rw [getD_lt _ _ _ hlt]; exact hc _ (List.getElem_mem hlt)
      have hdk : ∀ q, (vs.getD k undef).ownBlock = some q → ¬ Foot O vl1 vm1 (.slice oo D.length oc) E1 D q := by
        intro q e hf
        rcases hF1 q hf with h | ⟨j, hj, h⟩ | h
        · exact hdis q (Or.inr (mem k (by omega) q e)) h
        · exact nd k j (by omega) hj q e h
        · have := ((hls k (by omega)).lt e).2
          omega
      have HX : Hid (∀ e w', (e = Ending.returned (.tuple #[]) ∧ ∃ vl' vm' E', Bk w' O vl' vm' (.slice oo D.length oc) E' D ∧ E'.length = E1.length + 4 ∧
          (∀ q, Foot O vl' vm' (.slice oo D.length oc) E' D q → Foot O vl1 vm1 (.slice oo D.length oc) E1 D q ∨ (vs.getD k undef).ownBlock = some q ∨ wr.heap.size ≤ q) ∧ Chg (fun q => Foot O vl1 vm1 (.slice oo D.length oc) E1 D q ∨ (vs.getD k undef).ownBlock = some q) wr w') →
          e = Ending.returned (.tuple #[]) ∧ ∃ (vl2 vm2 : Value) (E2 : List (Value × Int)), Bk w' O vl2 vm2 (.slice oo D.length oc) E2 D ∧ E2.length = E.length + 4 * (k + 1) ∧ Own w' 0 24 (.slice (some ⟨g, 0, none⟩) cs.length ac) vs ∧
      (∀ j, k + 1 ≤ j → j < vs.length → Own w' 0 3 (vs.getD j undef) (ints (cs.getD j []))) ∧ (∀ q, Foot O vl2 vm2 (.slice oo D.length oc) E2 D q → Foot O vl vm (.slice oo D.length oc) E D q ∨ (∃ j, j < k + 1 ∧ (vs.getD j undef).ownBlock = some q) ∨ w.heap.size ≤ q) ∧
      Chg (fun q => Foot O vl vm (.slice oo D.length oc) E D q ∨ ∃ y ∈ vs, y.ownBlock = some q) w w') := by
        rintro e w' ⟨rfl, vl2, vm2, E2, q1, q2, q3, q4⟩
        have hs1 := hC1.size
        refine ⟨rfl, vl2, vm2, E2, q1, by omega, hL1.chg q4 ?_, ?_, ?_, hC1.trans' q4 ?_⟩
        · rintro q e (h | h)
          · rcases hF1 q h with h | ⟨j, hj, h⟩ | h
            · exact hdis q (Or.inl e) h
            · exact (HV.out q e).2 j (by omega) h
            · have := (HV.out q e).1
              omega
          · exact (HV.out q e).2 k (by omega) h
        · intro j hj hjl
          refine (hls1 j (by omega) hjl).chg q4 ?_
          rintro q e (h | h)
          · rcases hF1 q h with h | ⟨i, hi, h⟩ | h
            · exact hdis q (Or.inr (mem j hjl q e)) h
            · exact nd j i hjl (by omega) q e h
            · have := ((hls j hjl).lt e).2
              omega
          · exact nd j k hjl (by omega) q e h
        · intro q h
          rcases q3 q h with h | h | h
          · rcases hF1 q h with h | ⟨i, hi, h⟩ | h
            · exact Or.inl h
            · exact Or.inr (Or.inl ⟨i, by omega, h⟩)
            · exact Or.inr (Or.inr h)
          · exact Or.inr (Or.inl ⟨k, by omega, h⟩)
          · exact Or.inr (Or.inr (by omega))
        · intro q hq h
          rcases h with h | h
          · rcases hF1 q h with h | ⟨i, hi, h⟩ | h
            · exact Or.inl h
            · exact Or.inr (mem i (by omega) q h)
            · omega
          · exact Or.inr (mem k (by omega) q h)
      generalize vs.getD k undef = vk at *
      clear hcells
      go_wp2_with (go_at_call 17; refine (take_any O vl1 vm1 (.slice oo D.length oc) vk E1 D (cs.getD k []) _ hBk1 (by omega) hov hcb hdk).mono ?_; intro e w' hq; obtain ⟨rfl, vl2, vm2, E2, q1, q2, q3, q4, q5, q6⟩ := HX.out e w' hq; clear hq)
      go_roundw
      case rel => exact ⟨k + 1, vl2, vm2, E2, by omega, by go_num, q1, q2, q3, q4, q5, q6⟩
      case measure => simp [intOf]; omega
    · obtain rfl : k = cs.length := by omega
      have hdV : ∀ q, (Value.slice ao cs.length ac).ownBlock = some q → ¬ Foot O vl1 vm1 (.slice oo D.length oc) E1 D q := by
        intro q e hf
        rcases hF1 q hf with h | ⟨j, hj, h⟩ | h
        · exact hdis q (Or.inl e) h
        · exact (HV.out q e).2 j (by omega) h
        · have := (HV.out q e).1
          omega
      have HF : Hid (∀ q, Foot O vl1 vm1 (.slice oo D.length oc) E1 D q → Foot O vl vm (.slice oo D.length oc) E D q ∨ (∃ y ∈ vs, y.ownBlock = some q) ∨ w.heap.size ≤ q) := by
        intro q hf
        rcases hF1 q hf with h | ⟨j, hj, h⟩ | h
        · exact Or.inl h
        · exact Or.inr (Or.inl (mem j (by omega) q h))
        · exact Or.inr (Or.inr h)
      have HC1 : Hid (Chg (fun q => Foot O vl vm (.slice oo D.length oc) E D q ∨ ∃ y ∈ vs, y.ownBlock = some q) w wr) := hC1
      clear hls1 hF1 hC1 hls nd hL hBk hdis mem HV
      go_wp2
      obtain ⟨w2, rfl⟩ : ∃ x, x = wr := ⟨wr, rfl⟩
      go_loopw [5] (fun i wr => ∃ (k : Nat), k ≤ cs.length ∧ i = .int .i64 k ∧ Own wr 0 24 (.slice ao cs.length ac) (over vs nilV k) ∧ Chg (fun q => (Value.slice ao cs.length ac).ownBlock = some q) w2 wr) (fun i _ => cs.length - (intOf i).toNat)
      case atStart => exact ⟨0, by omega, rfl, by rw [over_zero]; exact hL1, Chg.refl _ _⟩
      case round =>
        clear hk hlt
        obtain ⟨k, hk, rfl, hOv, hC2⟩ := hrel
        by_cases hlt : k < cs.length
        · have hlen2 : (over vs nilV k).length = cs.length := by rw [over_length _ _ _ (by omega)]; exact hlen
          obtain ⟨g, cap, hg, hgl, hcells⟩ := hOv.at (by omega)
          have hcell := hcells k (by omega)
          simp only [Value.slice.injEq] at hg
          obtain ⟨rfl, -, rfl⟩ := hg
          have hset := hOv.put (i := k) (by omega) nilV
          rw [over_set _ _ _ (by omega)] at hset
          have hfr : wr.frozen? ⟨g, k, none⟩ = false := by
            rcases hOv with ⟨h, _⟩ | ⟨g', cap', h, _, _, hr⟩
            · simp at h
            · simp only [Value.slice.injEq, Option.some.injEq, Addr.mk.injEq, and_true] at h
              obtain ⟨rfl, -, rfl⟩ := h
              exact hr.frozen k
          generalize (over vs nilV k).getD k undef = old at *
          clear hcells
          go_wp2
          go_roundw
          case rel => exact ⟨k + 1, by omega, by go_num, hset, hC2.setB g k rfl _⟩
          case measure => simp [intOf]; omega
        · obtain rfl : k = cs.length := by omega
          have hOv1 : Own wr 0 24 (.slice ao cs.length ac) (rep cs.length nilV) := by
            have := over_end vs nilV
            rw [hlen] at this
            rw [this] at hOv
            exact hOv
          clear hOv
          have hBk2 := hBk1.chg hC2 (fun k hk h => hdV k h hk)
          obtain ⟨n, hn⟩ : ∃ n, n = cs.length := ⟨_, rfl⟩
          rw [← hn] at hOv1 hcl hC2 hdV ⊢
          obtain ⟨w1, rfl⟩ : ∃ x, x = wr := ⟨wr, rfl⟩
          have HN : Hid (n = cs.length) := hn
          have hF2 : ∀ k, Foot O vl1 vm1 (.slice oo D.length oc) E1 D k → k < w2.heap.size := fun k hk => hBk1.foot_lt hk
          have hs2 := hC2.size
          have HC2 : Hid (Chg (fun k => (Value.slice ao n ac).ownBlock = some k) w2 w1) := hC2
          have hBl := hBk2.head.lt
          clear hn hC2 hBk1 hL1 hk hlt
          have b1 := alloc_below w1 (.cells #[.slice none 0 0] 24)
          have N1 : Blk (w1.alloc (.cells #[.slice none 0 0] 24)) w1.heap.size 24 (rep 1 nilV) := blk_new w1 [.slice none 0 0] 24
          have V1 := hOv1.alloc (.cells #[.slice none 0 0] 24)
          go_wp2_with (first
            | (at_builtin; refine wpList_append_mk (.tmp 30) (.tmp 31) 23 24 (.slice none 0 0) nilV 24 Tryd.underlying23 Tryd.info24 rfl (.slice ao n ac) n 1 w1.heap.size (by decide) (by rfl) (by rfl) V1 N1 rfl (by unfold maxLen; omega) (by omega) ?_; intro g2 cap2 w3 X2 C2 at2 keep2; have V2 := keep2 _ n (by omega) V1; have C12 : Chg (fun k => (Value.slice ao n ac).ownBlock = some k) w1 w3 := (Chg.of_below b1).trans C2; have V2a := V2.alloc (.cells #[.slice none 0 0, .slice none 0 0] 24); have X2a := X2.alloc (.cells #[.slice none 0 0, .slice none 0 0] 24); have b2 := alloc_below w3 (.cells #[.slice none 0 0, .slice none 0 0] 24); have N2 : Blk (w3.alloc (.cells #[.slice none 0 0, .slice none 0 0] 24)) w3.heap.size 24 (rep 2 nilV) := blk_new w3 [.slice none 0 0, .slice none 0 0] 24)
            | (at_builtin; refine wpList_append_mk (.tmp 33) (.tmp 34) 23 24 (.slice none 0 0) nilV 24 Tryd.underlying23 Tryd.info24 rfl (.slice ao n ac) n 2 w3.heap.size (by decide) (by rfl) (by rfl) V2a N2 rfl (by unfold maxLen; omega) (by omega) ?_; intro g3 cap3 w4 Y3 C3 at3 keep3; have V3 := keep3 _ n (by omega) V2a; have X3 := keep3 _ (n + 1) (by omega) X2a; have C13 : Chg (fun k => (Value.slice ao n ac).ownBlock = some k) w1 w4 := C12.trans ((Chg.of_below b2).trans C3); have V3a := V3.alloc (.cells #[.slice none 0 0, .slice none 0 0, .slice none 0 0] 24); have X3a := X3.alloc (.cells #[.slice none 0 0, .slice none 0 0, .slice none 0 0] 24); have Y3a := Y3.alloc (.cells #[.slice none 0 0, .slice none 0 0, .slice none 0 0] 24); have b3 := alloc_below w4 (.cells #[.slice none 0 0, .slice none 0 0, .slice none 0 0] 24); have N3 : Blk (w4.alloc (.cells #[.slice none 0 0, .slice none 0 0, .slice none 0 0] 24)) w4.heap.size 24 (rep 3 nilV) := blk_new w4 [.slice none 0 0, .slice none 0 0, .slice none 0 0] 24)
            | (at_builtin; refine wpList_append_mk (.tmp 36) (.tmp 37) 23 24 (.slice none 0 0) nilV 24 Tryd.underlying23 Tryd.info24 rfl (.slice ao n ac) n 3 w4.heap.size (by decide) (by rfl) (by rfl) V3a N3 rfl (by unfold maxLen; omega) (by omega) ?_; intro g4 cap4 w5 Z4 C4 at4 keep4; have V4 := keep4 _ n (by omega) V3a; have X4 := keep4 _ (n + 1) (by omega) X3a; have Y4 := keep4 _ (n + 2) (by omega) Y3a; have C14 : Chg (fun k => (Value.slice ao n ac).ownBlock = some k) w1 w5 := C13.trans ((Chg.of_below b3).trans C4); have hBk4 := hBk2.chg C14 (fun k hk h => hdV k h hk); have c0 : w5.cell? ⟨O, 2, none⟩ = some (.slice oo D.length oc) := hBk4.head.cell (i := 2) (by simp) undef; have N4 : Blk (w5.alloc (.cells #[.slice ao n ac, .slice (some ⟨g2, 0, none⟩) (n + 1) cap2, .slice (some ⟨g3, 0, none⟩) (n + 2) cap3, .slice (some ⟨g4, 0, none⟩) (n + 3) cap4] 23)) w5.heap.size 23 [.slice ao n ac, .slice (some ⟨g2, 0, none⟩) (n + 1) cap2, .slice (some ⟨g3, 0, none⟩) (n + 2) cap3, .slice (some ⟨g4, 0, none⟩) (n + 3) cap4] := blk_new w5 [.slice ao n ac, .slice (some ⟨g2, 0, none⟩) (n + 1) cap2, .slice (some ⟨g3, 0, none⟩) (n + 2) cap3, .slice (some ⟨g4, 0, none⟩) (n + 3) cap4] 23; have one4 := slices_one [.slice ao n ac, .slice (some ⟨g2, 0, none⟩) (n + 1) cap2, .slice (some ⟨g3, 0, none⟩) (n + 2) cap3, .slice (some ⟨g4, 0, none⟩) (n + 3) cap4] (by intro v hv; simp at hv; rcases hv with rfl | rfl | rfl | rfl <;> exact ⟨_, _, _, rfl⟩); have own4 := hBk4.oo.alloc (.cells #[.slice ao n ac, .slice (some ⟨g2, 0, none⟩) (n + 1) cap2, .slice (some ⟨g3, 0, none⟩) (n + 2) cap3, .slice (some ⟨g4, 0, none⟩) (n + 3) cap4] 23))
            | (at_builtin; refine wpList_append_new (.tmp 43) (.tmp 48) 25 23 (.slice none 0 0) 24 Tryd.underlying25 Tryd.info23 rfl 0 w5.heap.size _ _ [.slice ao n ac, .slice (some ⟨g2, 0, none⟩) (n + 1) cap2, .slice (some ⟨g3, 0, none⟩) (n + 2) cap3, .slice (some ⟨g4, 0, none⟩) (n + 3) cap4] 4 D.length rfl rfl (by decide) (by rfl) (by rfl) own4 N4 one4 (by unfold maxLen; omega) (by omega) (Nat.zero_le _) ?_; intro g5 cap5 w6 hO5 hgr5 hat5 hlt5; have B5 : Blk w6 O 27 _ := (hBk4.head.alloc _).grown hgr5 (own_blk hBk4.oo hBk4.head (by decide)); have d2 : w6.cell? ⟨O, 2, none⟩ = some (.slice oo D.length oc) := B5.cell (i := 2) (by simp) undef; have f2 := B5.frozen 2))
          go_end0
          refine ⟨rfl, ?_⟩
          rw [← HN.out]
          have s2 := C12.size
          have s3 := C13.size
          have s4 := C14.size
          have s1 := HC1.out.size
          have at2' : (Value.slice ao n ac).ownBlock = some g2 ∨ w1.heap.size ≤ g2 := at2.imp (fun h => h) (fun h => by rw [alloc_size] at h; omega)
          have at3' : (Value.slice ao n ac).ownBlock = some g3 ∨ w1.heap.size ≤ g3 := at3.imp (fun h => h) (fun h => by rw [alloc_size] at h; omega)
          have at4' : (Value.slice ao n ac).ownBlock = some g4 ∨ w1.heap.size ≤ g4 := at4.imp (fun h => h) (fun h => by rw [alloc_size] at h; omega)
          have qd : ∀ q ∈ ([.slice ao n ac, .slice (some ⟨g2, 0, none⟩) (n + 1) cap2, .slice (some ⟨g3, 0, none⟩) (n + 2) cap3, .slice (some ⟨g4, 0, none⟩) (n + 3) cap4] : List Value), ∀ k, q.ownBlock = some k → (Value.slice ao n ac).ownBlock = some k ∨ w1.heap.size ≤ k := by
            intro q hq k e
            simp only [List.mem_cons, List.not_mem_nil, or_false] at hq
            rcases hq with rfl | rfl | rfl | rfl
            · exact Or.inl e
            · simp [Value.ownBlock] at e; rw [← e]; exact at2'
            · simp [Value.ownBlock] at e; rw [← e]; exact at3'
            · simp [Value.ownBlock] at e; rw [← e]; exact at4'
          have qo : ∀ q ∈ ([.slice ao n ac, .slice (some ⟨g2, 0, none⟩) (n + 1) cap2, .slice (some ⟨g3, 0, none⟩) (n + 2) cap3, .slice (some ⟨g4, 0, none⟩) (n + 3) cap4] : List Value), ∃ n, n ≤ 5000000000 ∧ Own w5 0 24 q (rep n nilV) := by
            intro q hq
            simp only [List.mem_cons, List.not_mem_nil, or_false] at hq
            rcases hq with rfl | rfl | rfl | rfl
            · exact ⟨n, by omega, V4⟩
            · exact ⟨n + 1, by omega, X4⟩
            · exact ⟨n + 2, by omega, Y4⟩
            · exact ⟨n + 3, by omega, Z4⟩
          obtain ⟨-, R1, R2, R3⟩ := bkO hBk4 (L := [.slice ao n ac, .slice (some ⟨g2, 0, none⟩) (n + 1) cap2, .slice (some ⟨g3, 0, none⟩) (n + 2) cap3, .slice (some ⟨g4, 0, none⟩) (n + 3) cap4]) (fun q hq => ⟨qo q hq, fun k hk e => by
            rcases qd q hq k e with h | h
            · exact hdV k h (Or.inr (Or.inl hk))
            · have := hF2 k (Or.inr (Or.inl hk)); omega⟩) hO5 hgr5 hat5
          refine ⟨_, _, _, _, _, R1, by rw [HN.out]; exact hE1, by simp, ?_, ?_⟩
          · have up : ∀ q, Foot O vl1 vm1 (.slice oo D.length oc) E1 D q → Foot O vl vm (.slice oo D.length oc) E D q ∨ ((Value.slice ao n ac).ownBlock = some q ∨ ∃ y ∈ vs, y.ownBlock = some q) ∨ w.heap.size ≤ q := by
              intro q h
              rcases HF.out q h with h | h | h
              · exact Or.inl h
              · exact Or.inr (Or.inl (Or.inr h))
              · exact Or.inr (Or.inr h)
            rintro k (h | h | h | h | h | ⟨d, hd, h⟩)
            · exact up k (Or.inl h)
            · exact up k (Or.inr (Or.inl h))
            · exact up k (Or.inr (Or.inr (Or.inl h)))
            · simp [Value.ownBlock] at h
              subst h
              rcases R3 with h | h
              · exact up _ (Or.inr (Or.inr (Or.inr (Or.inl h))))
              · exact Or.inr (Or.inr (by omega))
            · exact up k (Or.inr (Or.inr (Or.inr (Or.inr (Or.inl h)))))
            · rcases List.mem_append.1 hd with hd | hd
              · exact up k (Or.inr (Or.inr (Or.inr (Or.inr (Or.inr ⟨d, hd, h⟩)))))
              · rcases qd d hd k h with h | h
                · exact Or.inr (Or.inl (Or.inl h))
                · exact Or.inr (Or.inr (by omega))
          · refine (HC1.out.mono fun k _ h => h.elim Or.inl (fun h => Or.inr (Or.inr h))).trans' ((HC2.out.trans C14).mono (T := fun k => (Value.slice ao n ac).ownBlock = some k ∨ (k = O ∨ (Value.slice oo D.length oc).ownBlock = some k)) (fun k _ h => Or.inl h) |>.trans (R2.mono fun k _ h => Or.inr h)) ?_
            rintro k hk (h | h | h)
            · exact Or.inr (Or.inl h)
            · exact Or.inl (Or.inl h)
            · exact Or.inl (Or.inr (Or.inr (Or.inr (Or.inl h))))
end Go.Proofs.YtlodenfdcckemaaDoor
