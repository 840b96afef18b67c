/-
  The walk of copied.
-/
import Derived.Test.YtomebpjjeldhdaaDoorSolS
namespace Go.Proofs.YtomebpjjeldhdaaDoor
open Go.RowKit

/-- 'append(s, x...)', x a list that lies in memory, none or some. -/
theorem wpList_append_any {P : Program} {w : World} {ops : Array Oper} {rest : List Oper} {a : Act} {Q : Exit → Act → World → Prop} {dst : Option Tmp} {type : TypeId} {pos : String} {after : Array Edge} (s x : Operand) (t e : TypeId) (z : Value) (bytes : Nat)
    (hu : P.underlying t = some (.slice e)) (hinfo : (P.info? e).map (fun i => (i.zero, i.size, i.bytes)) = some (some z, 1, bytes)) (hz1 : z.cells.size = 1) (base : Nat) (v : Value) (xs : List Value) (hs : a.eval s = v) (ho : Own w base e v xs)
    (b2 : Nat) (u : Value) (news : List Value) (hx : a.eval x = u) (hu2 : Own w b2 e u news) (h1 : ∀ y ∈ news, y.oneCell' = true) (h63 : xs.length + news.length ≤ maxLen) (hby : (xs.length + news.length) * bytes ≤ 140737488355328) (hbase : base ≤ w.heap.size)
    (hK : ∀ v' w', Own w' base e v' (xs ++ news) → w.grownBy w' v.ownBlock → wpList P ops Q rest (a.put dst v') w') :
    wpList P ops Q (⟨dst, .call { callee := .builtin .append, args := #[s, x], argTypes := #[t, t] }, type, pos, after, none⟩ :: rest) a w := by
  obtain ⟨i, hi, hzz⟩ := Option.map_eq_some_iff.1 hinfo
  simp only [Prod.mk.injEq] at hzz
  obtain ⟨hz, hsz, hb⟩ := hzz
  refine wpList_plain rfl fun K hK' => ?_
  rcases hu2 with ⟨rfl, hn⟩ | ⟨g, cap, rfl, _, _, hr⟩
  · subst hn
    have hrun := run_append_owned_none (P := P) (w := w) base t type e i 1 hu hi v xs.length xs ho.own
    unfold Oper.wp
    simp only [execOp, resolve, invoke, builtin, Sem.run_bind, Sem.run_pure, Result.andThen_ok, List.map_toArray, List.map_cons, List.map_nil, hs, hx, hrun]
    exact hK' _ _ (hK v w (by simpa using ho) ⟨rfl, rfl, rfl, Nat.le_refl _, fun _ _ _ => rfl⟩)
  · have hnews : ∀ j y, news[j]? = some y → w.cell? ((⟨g, 0, none⟩ : Addr).add j) = some y := fun j y hj => by
      have hadd : (⟨g, 0, none⟩ : Addr).add j = ⟨g, j, none⟩ := by unfold Addr.add; split <;> simp_all
      obtain ⟨hlt, hy⟩ := List.getElem?_eq_some_iff.1 hj
      rw [hadd, hr.cell hlt undef, getD_lt _ _ _ hlt, hy]
    obtain ⟨v', w', hrun, h2, h3, _, _⟩ := run_append_own_at (P := P) w base t type e i z 1 bytes hu hi hz hsz hb hz1 (by decide) v xs.length xs ho.own ⟨g, 0, none⟩ news.length cap news (by omega) hnews h1 h63 hby hbase
    unfold Oper.wp
    simp only [execOp, resolve, invoke, builtin, Sem.run_bind, Sem.run_pure, Result.andThen_ok, List.map_toArray, List.map_cons, List.map_nil, hs, hx, hrun]
    refine hK' _ _ (hK v' w' ?_ h3)
    have h2' := h2
    obtain ⟨hl, ⟨rfl, h0⟩ | ⟨g', cap', cur, rfl, _⟩⟩ := h2'
    · exact Or.inl ⟨rfl, List.eq_nil_of_length_eq_zero (by rw [hl, h0])⟩
    · exact own_of h2

theorem ints_oneCell (zs : List Int) : ∀ y ∈ ints zs, y.oneCell' = true := ints_one zs

/-- While the steps are copied. -/
structure CopI (w : World) (s : Bool) (zs : List Int) (ps : List (List Int)) (vm vp v1 : Value) (i : Nat) (wr : World) (v2 : Value) (vs2 : List Value) : Prop where
  b0 : Blk wr w.heap.size 50 [.bool s, vm, vp]
  b1 : Blk wr (w.heap.size + 1) 50 [.bool false, .slice none 0 0, .slice none 0 0]
  b2 : Blk wr (w.heap.size + 1 + 1) 50 [.bool s, v1, v2]
  model : Own wr w.heap.size 3 v1 (ints zs)
  proof : MadeS wr w.heap.size v2 vs2 (ps.take i)
  old : Below w.heap.size w wr

theorem CopI.more {w : World} {s : Bool} {zs : List Int} {ps : List (List Int)} {vm vp v1 : Value} {i : Nat} {wr w1 w2 w3 : World} {v2 x v3 : Value} {vs2 : List Value} {o : Obj} {c : List Int} (h : CopI w s zs ps vm vp v1 i wr v2 vs2) (hg1 : wr.grownBy w1 none) (hx : Own w1 wr.heap.size 3 x (ints c)) (hO : Own w2 w.heap.size 24 v3 (vs2 ++ [x])) (hg2 : (w1.alloc o).grownBy w2 v2.ownBlock)
    (hp : ps.take (i + 1) = ps.take i ++ [c]) (e3 : w3 = w2.setCell ⟨w.heap.size + 1 + 1, 2, none⟩ v3) (hne : ∃ g n cap, v3 = .slice (some ⟨g, 0, none⟩) n cap) : CopI w s zs ps vm vp v1 (i + 1) w3 v3 (vs2 ++ [x]) ∧ Blk w2 (w.heap.size + 1 + 1) 50 [.bool s, v1, v2] := by
  subst e3
  obtain ⟨g, n, cap, rfl⟩ := hne
  have hb1 : Below wr.heap.size wr w1 := ⟨hg1.os, hg1.tape, hg1.output, hg1.size, fun k hk => hg1.block k hk (by simp)⟩
  have hP1 := h.proof.below' hb1
  have hC : Chg (fun k => v2.ownBlock = some k) w1 w2 := (Chg.of_below (alloc_below w1 o)).trans (Chg.of_grown (S := fun k => v2.ownBlock = some k) hg2 (fun k e => e) (fun k e o' ho => (hP1.oe.alloc o).cells e o' ho))
  have hM := h.proof.more hb1 hx h.old.size hO hC
  have hCw : Chg (fun k => v2.ownBlock = some k) wr w2 := (Chg.of_below hb1).trans hC
  have nB : ∀ q L, Blk wr q 50 L → ¬ v2.ownBlock = some q := fun q L hq => own_blk h.proof.oe hq (by decide)
  have c0 := h.b0.chg hCw (nB _ _ h.b0)
  have c1 := h.b1.chg hCw (nB _ _ h.b1)
  have c2 := h.b2.chg hCw (nB _ _ h.b2)
  have ht : TChg (fun t => t = 50) w2 (w2.setCell ⟨w.heap.size + 1 + 1, 2, none⟩ (.slice (some ⟨g, 0, none⟩) n cap)) := ⟨fun k => k = w.heap.size + 1 + 1, (Chg.refl (fun k => k = w.heap.size + 1 + 1) w2).setB _ 2 rfl _, fun b e _ => by obtain rfl : b = w.heap.size + 1 + 1 := e; exact ⟨_, _, c2, rfl⟩⟩
  have tm : TChg (fun t => t = 24) wr w2 := ⟨_, hCw, fun b e _ => by obtain ⟨L, hL⟩ := h.proof.oe.blkOf e; exact ⟨_, L, hL, rfl⟩⟩
  refine ⟨⟨c0.setOther (a := ⟨w.heap.size + 1 + 1, 2, none⟩) (by simp; omega) _, c1.setOther (a := ⟨w.heap.size + 1 + 1, 2, none⟩) (by simp) _, c2.set 2 _, ht.own (tm.own h.model (by decide)) (by decide), by rw [hp]; exact hM.tchg ht (by decide) (by decide), ?_⟩, c2⟩
  have hb2 : Below w.heap.size w w2 := h.old.trans (hCw.below h.old.size fun k e => (h.proof.oe.lt e).1)
  exact hb2.setCell (p := ⟨w.heap.size + 1 + 1, 2, none⟩) (show w.heap.size ≤ w.heap.size + 1 + 1 by omega) _

set_option maxRecDepth 100000 in
set_option maxHeartbeats 2000000 in
theorem copied_any (s : Bool) (zs : List Int) (ps : List (List Int)) (b : Nat) (vm vp : Value) (vs : List Value) (w : World) (h : AnsAt w b zs ps vm vp vs) (hz : zs.length ≤ 1000) (hp : ps.length ≤ 4000000000) (hc : ∀ c ∈ ps, c.length ≤ 1000) :
    Calls Tryd.prog 30 #[.agg #[.bool s, vm, vp]] w fun e w' => ∃ v1 v2 vs2, e = .returned (.agg #[.bool s, v1, v2]) ∧ AnsAt w' w.heap.size zs ps v1 v2 vs2 ∧ Below w.heap.size w w' := by
  obtain ⟨pa, pc, hvp, hpl, -⟩ := h.proof.lists
  obtain ⟨ma, mc, hvm⟩ := h.model.shape
  rw [List.length_map] at hvm
  subst hvp
  subst hvm
  have hb3 : Below w.heap.size w (((w.alloc (.cells #[.bool s, .slice ma zs.length mc, .slice pa ps.length pc] 50)).alloc (.cells #[.bool false, .slice none 0 0, .slice none 0 0] 50)).alloc (.cells #[.bool s, .slice none 0 0, .slice none 0 0] 50)) := (((Below.refl _ _).alloc (Nat.le_refl _) _).alloc (by simp) _).alloc (by simp; omega) _
  have B0 := ((blk_new w [.bool s, .slice ma zs.length mc, .slice pa ps.length pc] 50).alloc (.cells #[.bool false, .slice none 0 0, .slice none 0 0] 50)).alloc (.cells #[.bool s, .slice none 0 0, .slice none 0 0] 50)
  have B1 := (blk_new (w.alloc (.cells #[.bool s, .slice ma zs.length mc, .slice pa ps.length pc] 50)) [.bool false, .slice none 0 0, .slice none 0 0] 50).alloc (.cells #[.bool s, .slice none 0 0, .slice none 0 0] 50)
  have B2 := blk_new ((w.alloc (.cells #[.bool s, .slice ma zs.length mc, .slice pa ps.length pc] 50)).alloc (.cells #[.bool false, .slice none 0 0, .slice none 0 0] 50)) [.bool s, .slice none 0 0, .slice none 0 0] 50
  rw [World.size_alloc] at B1
  rw [World.size_alloc, World.size_alloc] at B2
  dsimp only [List.toArray] at B0 B1 B2
  go_enter Tryd.func30, Tryd.ntmps30
  have hOm := ((h.model.alloc (.cells #[.bool s, .slice ma zs.length mc, .slice pa ps.length pc] 50)).alloc (.cells #[.bool false, .slice none 0 0, .slice none 0 0] 50)).alloc (.cells #[.bool s, .slice none 0 0, .slice none 0 0] 50)
  have hzl : ([] ++ ints zs : List Value) = ints zs := rfl
  have hil : (ints zs).length = zs.length := by simp
  go_wp2_with (at_builtin; refine wpList_append_any (.tmp 10) (.tmp 12) 24 3 (.int .i64 0) 8 Tryd.underlying24 Tryd.info3 rfl w.heap.size _ [] (by rfl) (Own.nil _ _ _) b _ (ints zs) (by rfl) hOm (ints_oneCell zs) (by unfold maxLen; simp only [List.length_nil, hil]; omega) (by simp only [List.length_nil, hil]; omega) (by simp; omega) ?_; intro v1 w1 hO1 hg1; rw [hzl] at hO1; obtain ⟨xa, xc, hxs⟩ := hO1.shape; rw [hil] at hxs; subst hxs; have C0 := B0.grown hg1 (by simp [Value.ownBlock]); have C1 := B1.grown hg1 (by simp [Value.ownBlock]); have C2 := B2.grown hg1 (by simp [Value.ownBlock]); have d1 : w1.cell? ⟨w.heap.size + 1 + 1, 1, none⟩ = some (.slice none 0 0) := C2.cell (i := 1) (by simp) undef; have d2 := C2.frozen 1)
  have hI0 : CopI w s zs ps (.slice ma zs.length mc) (.slice pa ps.length pc) (.slice xa zs.length xc) 0 (w1.setCell ⟨w.heap.size + 1 + 1, 1, none⟩ (.slice xa zs.length xc)) (.slice none 0 0) [] := by
    have ht : TChg (fun t => t = 50) w1 (w1.setCell ⟨w.heap.size + 1 + 1, 1, none⟩ (.slice xa zs.length xc)) := ⟨fun k => k = w.heap.size + 1 + 1, (Chg.refl (fun k => k = w.heap.size + 1 + 1) w1).setB _ 1 rfl _, fun b e _ => by obtain rfl : b = w.heap.size + 1 + 1 := e; exact ⟨_, _, C2, rfl⟩⟩
    have hbw : Below w.heap.size w w1 := hb3.trans ⟨hg1.os, hg1.tape, hg1.output, hg1.size, fun k hk => hg1.block k (by have := hb3.size; omega) (by simp [Value.ownBlock])⟩
    exact ⟨C0.setOther (a := ⟨w.heap.size + 1 + 1, 1, none⟩) (by simp; omega) _, C1.setOther (a := ⟨w.heap.size + 1 + 1, 1, none⟩) (by simp) _, C2.set 1 _, ht.own hO1 (by decide), by rw [List.take_zero]; exact MadeS.start _ _, hbw.setCell (p := ⟨w.heap.size + 1 + 1, 1, none⟩) (show w.heap.size ≤ w.heap.size + 1 + 1 by omega) _⟩
  have HI0 : Hid _ := hI0
  generalize w1.setCell ⟨w.heap.size + 1 + 1, 1, none⟩ (.slice xa zs.length xc) = W1 at *
  have HP : Hid (MadeS w b (.slice pa ps.length pc) vs ps) := h.proof
  clear hI0 hb3 B0 B1 B2 C0 C1 C2 d1 d2 hOm hO1 hg1 h
  go_loopw [4] (fun x wr => ∃ (i : Nat) (v2 : Value) (vs2 : List Value), i ≤ ps.length ∧ x = .int .i64 i ∧ Hid (CopI w s zs ps (.slice ma zs.length mc) (.slice pa ps.length pc) (.slice xa zs.length xc) i wr v2 vs2)) (fun x _ => ps.length - (intOf x).toNat)
  case atStart => exact ⟨0, _, _, Nat.zero_le _, rfl, HI0⟩
  case round =>
    obtain ⟨i, v2, vs2, hi, rfl, HI⟩ := hrel
    have q2 : wr.cell? ⟨w.heap.size, 2, none⟩ = some (.slice pa ps.length pc) := HI.out.b0.cell (i := 2) (by simp) undef
    by_cases hlt : i < ps.length
    · have hPr : MadeS w b (.slice pa ps.length pc) vs ps := HP.out
      have hvl : vs.length = ps.length := hPr.len
      obtain ⟨pg, pcap, hps, hpg, hcells⟩ := hPr.oe.at (by omega)
      simp only [Value.slice.injEq] at hps
      obtain ⟨rfl, -, rfl⟩ := hps
      have hck : wr.cell? ⟨pg, i, none⟩ = some (vs.getD i undef) := (HI.out.old.cell (p := ⟨pg, i, none⟩) hpg).trans (hcells i (by omega))
      have hin := (hPr.ls i (by omega)).below' (w' := wr) (by have := HI.out.old; exact this)
      obtain ⟨ya, yc, hys⟩ := hin.shape
      rw [List.length_map] at hys
      rw [hys] at hck hin
      have hcl : (ps.getD i []).length ≤ 1000 := by rw [getD_lt _ _ _ hlt]; exact hc _ (List.getElem_mem hlt)
      have HTk : Hid (ps.take (i + 1) = ps.take i ++ [ps.getD i []]) := take_succ_lists ps i hlt
      generalize ps.getD i [] = c at *
      have hcil : (ints c).length = c.length := by simp
      have hcn : ([] ++ ints c : List Value) = ints c := rfl
      have hv2l : vs2.length = i := by rw [HI.out.proof.len, List.length_take]; omega
      have hsz := HI.out.old.size
      have i0 : (0 : Int) ≤ (i : Int) := by omega
      have i1 : (i : Int) < (ps.length : Int) := by omega
      clear hcells hPr
      go_wp2_with (first
        | (at_builtin; refine wpList_append_any (.tmp 22) (.tmp 27) 24 3 (.int .i64 0) 8 Tryd.underlying24 Tryd.info3 rfl wr.heap.size _ [] (by rfl) (Own.nil _ _ _) b _ (ints c) (by rfl) hin (ints_oneCell c) (by unfold maxLen; simp only [List.length_nil, hcil]; omega) (by simp only [List.length_nil, hcil]; omega) (Nat.le_refl _) ?_; intro x w2 hx hg1; rw [hcn] at hx; obtain ⟨xa', xc', hxs⟩ := hx.shape; rw [hcil] at hxs; subst hxs; have hgb : Below wr.heap.size wr w2 := ⟨hg1.os, hg1.tape, hg1.output, hg1.size, fun k hk => hg1.block k hk (by simp [Value.ownBlock])⟩; have D2 := HI.out.b2.below' hgb; have e2 : w2.cell? ⟨w.heap.size + 1 + 1, 2, none⟩ = some v2 := D2.cell (i := 2) (by simp) undef; have P2 := HI.out.proof.below' hgb; have OA := P2.oe.alloc (.cells #[.slice xa' c.length xc'] 24); have NA : Blk (w2.alloc (.cells #[.slice xa' c.length xc'] 24)) w2.heap.size 24 [.slice xa' c.length xc'] := blk_new w2 [.slice xa' c.length xc'] 24; have hsz2 := hgb.size)
        | (at_builtin; refine wpList_append_new (.tmp 30) (.tmp 32) 23 24 (.slice none 0 0) 24 Tryd.underlying23 Tryd.infoInts rfl w.heap.size w2.heap.size v2 vs2 [.slice xa' c.length xc'] 1 i hv2l rfl (by decide) (by rfl) (by rfl) OA NA (by intro u hu; simp at hu; rw [hu]; rfl) (by unfold maxLen; omega) (by omega) (by rw [alloc_size]; omega) ?_; intro g5 cap5 w5 hO5 hgr5 hat5 hlt5; obtain ⟨hIn, F2⟩ := HI.out.more (w3 := w5.setCell ⟨w.heap.size + 1 + 1, 2, none⟩ (.slice (some ⟨g5, 0, none⟩) (i + 1) cap5)) hg1 hx hO5 hgr5 HTk.out rfl ⟨_, _, _, rfl⟩; have e5 : w5.cell? ⟨w.heap.size + 1 + 1, 2, none⟩ = some v2 := F2.cell (i := 2) (by simp) undef; have f5 := F2.frozen 2))
      exact ⟨⟨i + 1, _, _, by omega, by go_num, hIn⟩, by simp [intOf]; omega⟩
    · obtain rfl : i = ps.length := by omega
      obtain ⟨va, vc, hvs, -, -⟩ := HI.out.proof.lists
      rw [List.take_length] at hvs
      subst hvs
      have u0 : wr.cell? ⟨w.heap.size + 1 + 1, 0, none⟩ = some (.bool s) := HI.out.b2.cell (i := 0) (by simp) undef
      have u1 : wr.cell? ⟨w.heap.size + 1 + 1, 1, none⟩ = some (.slice xa zs.length xc) := HI.out.b2.cell (i := 1) (by simp) undef
      have u2 : wr.cell? ⟨w.heap.size + 1 + 1, 2, none⟩ = some (.slice va ps.length vc) := HI.out.b2.cell (i := 2) (by simp) undef
      have r0 : wr.cell? ⟨w.heap.size + 1, 0, none⟩ = some (.bool false) := HI.out.b1.cell (i := 0) (by simp) undef
      have r1 : wr.cell? ⟨w.heap.size + 1, 1, none⟩ = some (.slice none 0 0) := HI.out.b1.cell (i := 1) (by simp) undef
      have r2 : wr.cell? ⟨w.heap.size + 1, 2, none⟩ = some (.slice none 0 0) := HI.out.b1.cell (i := 2) (by simp) undef
      have f0 := HI.out.b1.frozen 0
      have f1 := HI.out.b1.frozen 1
      have f2 := HI.out.b1.frozen 2
      have HEd : Hid _ := fun W2 h => sol_end (W2 := W2) (a := .bool s) (b := .slice xa zs.length xc) (c := .slice va ps.length vc) HI.out.b1 (Nat.le_succ _) HI.out.old h
      go_wp2
      obtain ⟨bR, hbF, htF⟩ := HEd.out _ rfl
      have hpr := HI.out.proof
      rw [List.take_length] at hpr
      exact bodyPost_ret (v := .agg #[.bool s, .slice xa zs.length xc, .slice va ps.length vc]) (by simp [results, Tryd.results30, go_sem, r0, r1, r2]) rfl ⟨_, _, vs2, rfl, ⟨htF.own HI.out.model (by decide), hpr.tchg htF (by decide) (by decide)⟩, hbF⟩
end Go.Proofs.YtomebpjjeldhdaaDoor
