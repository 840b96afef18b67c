/-
  Several texts, one behind the other.
-/
import Derived.Test.YtlodenfdcckemaaDoorH29
import Derived.Test.YtlodenfdcckemaaDoorH23
import Derived.Test.YtlodenfdcckemaaDoorH22
import Derived.Laws.OwnMore
import Derived.Deep.AppendLies
import Derived.Deep.RegionHeld3
/-
  Answers in memory; the walks of the document's Right, of sameLists, alike and copied.
-/

namespace Go.Proofs.YtlodenfdcckemaaDoor
open Go.RowKit

theorem MadeS.lists {w : World} {base : Nat} {v : Value} {vs : List Value} {cs : List (List Int)} (h : MadeS w base v vs cs) : ∃ ao cap, v = .slice ao cs.length cap ∧ ListsAt w w.heap.size ao cs ∧ cs.length ≤ cap := by
  have hlen := h.len
  rcases h.oe with ⟨rfl, h0⟩ | ⟨g, cap, rfl, hb, h63, hr⟩
  · have : cs = [] := by rw [h0] at hlen; simpa using hlen.symm
    subst this
    exact ⟨none, 0, rfl, fun h => absurd rfl h, Nat.le_refl _⟩
  · refine ⟨some ⟨g, 0, none⟩, cap, by rw [hlen], fun hne => ⟨g, 0, rfl, hr.lt, fun i hi => ?_⟩, by rw [← hlen]; exact hr.le⟩
    have hi' : i < vs.length := by omega
    obtain ⟨A, C, h1, h2⟩ := (h.ls i hi').ints (Nat.le_refl _)
    exact ⟨A, C, by rw [Nat.zero_add, hr.cell hi' undef, h1], h2⟩

theorem own_intsAt {w : World} {base : Nat} {v : Value} {zs : List Int} (h : Own w base 3 v (ints zs)) : ∃ ao cap, v = .slice ao zs.length cap ∧ IntsAt w w.heap.size ao zs := h.ints (Nat.le_refl _)

/-- What an end answers. -/
def ansOf : End → Bool × List Int × List (List Int)
  | .sat S => (true, litsOf 64 S, [])
  | .unsat F => (false, [], F.map (litsOf 64))

/-- An answer in memory. -/
structure AnsAt (w : World) (b : Nat) (zs : List Int) (ps : List (List Int)) (vm vp : Value) (vs : List Value) : Prop where
  model : Own w b 3 vm (ints zs)
  proof : MadeS w b vp vs ps

theorem AnsAt.below' {w w' : World} {b : Nat} {zs : List Int} {ps : List (List Int)} {vm vp : Value} {vs : List Value} (h : AnsAt w b zs ps vm vp vs) (hb : Below w.heap.size w w') : AnsAt w' b zs ps vm vp vs := ⟨h.model.below' hb, h.proof.below' hb⟩

theorem solEnd_ans {b : Nat} {e : Ending} {w' : World} {en : End} (h : SolEnd b e w' en) : ∃ vm vp vs, e = .returned (.tuple #[.agg #[.bool (ansOf en).1, vm, vp], .int .i64 0]) ∧ AnsAt w' b (ansOf en).2.1 (ansOf en).2.2 vm vp vs := by
  cases en with
  | sat S =>
    obtain ⟨v, rfl, hv⟩ := h
    exact ⟨v, _, [], rfl, hv, MadeS.start _ _⟩
  | unsat F =>
    obtain ⟨v, vs, rfl, hv⟩ := h
    exact ⟨_, v, vs, rfl, Own.nil _ _ _, hv⟩

/-- How great an answer can be. -/
theorem ans_few {V : Nat} (hV : V ≤ 20) {cs : List (List Int)} {en : End} (h : EndOk V cs en) : (ansOf en).2.1.length ≤ 20 ∧ (ansOf en).2.2.length ≤ 3486784402 ∧ ∀ c ∈ (ansOf en).2.2, c.length ≤ 20 ∧ ∀ l ∈ c, IsLit V l := by
  cases en with
  | sat S =>
    refine ⟨?_, by simp [ansOf], by simp [ansOf]⟩
    show (litsOf 64 S).length ≤ 20
    rw [(endOk_model hV h).1, modelOf_len]
    exact hV
  | unsat F =>
    obtain ⟨-, h2, -, h4⟩ := endOk_check hV h
    exact ⟨by simp [ansOf], by simpa [ansOf] using h4, h2⟩

set_option maxRecDepth 100000 in
set_option maxHeartbeats 1000000 in
theorem rright_any (n : Nat) (ao : Option Addr) (cap : Nat) (cs : List (List Int)) (en : End) (vm vp : Value) (vs : List Value) (b : Nat) (w : World) (hc : ListsAt w w.heap.size ao cs) (hg : Good n cs) (hok : EndOk n cs en) (ha : AnsAt w b (ansOf en).2.1 (ansOf en).2.2 vm vp vs) :
    Calls Tryd.prog 56 #[.agg #[.int .i64 n, .slice ao cs.length cap], .agg #[.bool (ansOf en).1, vm, vp]] w fun e w' => e = .returned (.bool true) ∧ Below w.heap.size w w' := by
  have hlit : ∀ c ∈ cs, ∀ l ∈ c, IsLit n l := fun c hc l hl => hg.lits c hc l hl
  obtain ⟨ma, mc, rfl, hmi⟩ := own_intsAt ha.model
  obtain ⟨pa, pc, rfl, hpl, hpc⟩ := ha.proof.lists
  have hb1 := alloc_below w (.cells #[.int .i64 n, .slice ao cs.length cap] 31)
  cases en with
  | sat S =>
    obtain ⟨e1, e2⟩ := endOk_model hg.vars hok
    simp only [ansOf] at *
    rw [e1] at hmi ⊢
    rw [modelOf_len]
    simp only [List.length_nil]
    have hb2 : Below w.heap.size w ((w.alloc (.cells #[.int .i64 n, .slice ao cs.length cap] 31)).alloc (.cells #[.bool true, .slice ma n mc, .slice pa 0 pc] 45)) := hb1.alloc (by simp) _
    have B1 := (blk_new w [.int .i64 n, .slice ao cs.length cap] 31).alloc (.cells #[.bool true, .slice ma n mc, .slice pa 0 pc] 45)
    have B2 := blk_new (w.alloc (.cells #[.int .i64 n, .slice ao cs.length cap] 31)) [.bool true, .slice ma n mc, .slice pa 0 pc] 45
    rw [World.size_alloc] at B2
    dsimp only [List.toArray] at B1 B2
    go_enter Tryd.func56, Tryd.ntmps56
    go_wp2_with fail
    generalize (w.alloc (.cells #[.int .i64 n, .slice ao cs.length cap] 31)).alloc (.cells #[.bool true, .slice ma n mc, .slice pa 0 pc] 45) = W at *
    refine (true_any n S hg.vars ao ma cap mc cs W ((hc.below hb2 (Nat.le_refl _)).mono hb2.size) ((hmi.below hb2 (Nat.le_refl _)).mono hb2.size) hg.many hg.long hlit e2).mono ?_
    rintro e w1 ⟨rfl, hbw⟩
    have q2 : w1.cell? ⟨w.heap.size + 1, 2, none⟩ = some (.slice pa 0 pc) := (B2.below' hbw).cell (i := 2) (by simp) undef
    have HB : Hid (Below w.heap.size w w1) := hb2.trans (hbw.mono hb2.size)
    clear hbw hb2 B1 B2
    go_wp2
    go_ret
    exact ⟨rfl, HB.out⟩
  | unsat F =>
    obtain ⟨e1, e2, e3, e4⟩ := endOk_check hg.vars hok
    simp only [ansOf] at *
    simp only [List.length_nil]
    rw [List.length_map] at *
    have hb2 : Below w.heap.size w ((w.alloc (.cells #[.int .i64 n, .slice ao cs.length cap] 31)).alloc (.cells #[.bool false, .slice ma 0 mc, .slice pa F.length pc] 45)) := hb1.alloc (by simp) _
    have B1 := (blk_new w [.int .i64 n, .slice ao cs.length cap] 31).alloc (.cells #[.bool false, .slice ma 0 mc, .slice pa F.length pc] 45)
    have B2 := blk_new (w.alloc (.cells #[.int .i64 n, .slice ao cs.length cap] 31)) [.bool false, .slice ma 0 mc, .slice pa F.length pc] 45
    rw [World.size_alloc] at B2
    dsimp only [List.toArray] at B1 B2
    go_enter Tryd.func56, Tryd.ntmps56
    go_wp2_with fail
    generalize (w.alloc (.cells #[.int .i64 n, .slice ao cs.length cap] 31)).alloc (.cells #[.bool false, .slice ma 0 mc, .slice pa F.length pc] 45) = W at *
    have cR := rcheck_any n hg.vars ao pa cap pc cs (F.map (litsOf 64)) W ((hc.below hb2 (Nat.le_refl _)).mono hb2.size) ((hpl.below hb2 (Nat.le_refl _)).mono hb2.size) hlit hg.many hg.long (by rw [List.length_map]; omega) (by rw [List.length_map]; exact hpc) (fun c hc l hl => by have := (e2 c hc).2 l hl; have h20 := hg.vars; unfold IsLit at this; omega) (fun c hc => by have := (e2 c hc).1; omega)
    rw [e1, List.length_map] at cR
    refine cR.mono ?_
    rintro e w1 ⟨rfl, hbw⟩
    have q1 : w1.cell? ⟨w.heap.size + 1, 1, none⟩ = some (.slice ma 0 mc) := (B2.below' hbw).cell (i := 1) (by simp) undef
    have q2 : w1.cell? ⟨w.heap.size + 1, 2, none⟩ = some (.slice pa F.length pc) := (B2.below' hbw).cell (i := 2) (by simp) undef
    have HB : Hid (Below w.heap.size w w1) := hb2.trans (hbw.mono hb2.size)
    have hee : ((F.length : Int) == (F.length : Int)) = true := by simp
    clear hbw hb2 B1 B2 cR
    go_wp2
    go_ret
    exact ⟨rfl, HB.out⟩

/-! The law's own looks. -/

theorem ints_drewN {w : World} {ao : Option Addr} {zs : List Int} (h : IntsAt w w.heap.size ao zs) (n : Nat) : IntsAt (w.drewN n) (w.drewN n).heap.size ao zs := h

set_option maxHeartbeats 1000000 in
theorem slists_any (a1 a2 : Option Addr) (c1 c2 : Nat) (cs : List (List Int)) (w : World) (h1 : ListsAt w w.heap.size a1 cs) (h2 : ListsAt w w.heap.size a2 cs) (hl : cs.length ≤ 4611686018427387904) (hc : ∀ c ∈ cs, c.length ≤ 1000) :
    Calls Tryd.prog 39 #[.slice a1 cs.length c1, .slice a2 cs.length c2] w fun e w' => e = .returned (.bool true) ∧ ∃ n, w' = w.drewN n := by
  have hne : ((cs.length : Int) != (cs.length : Int)) = false := by simp
  go_enter Tryd.func39, Tryd.ntmps39
  go_wp2
  go_loopw [5] (fun i wr => ∃ (k n : Nat), k ≤ cs.length ∧ i = .int .i64 k ∧ wr = w.drewN n) (fun i _ => cs.length - (intOf i).toNat)
  case atStart => exact ⟨0, 0, by omega, rfl, rfl⟩
  case round =>
    obtain ⟨k, n, hk, rfl, rfl⟩ := hrel
    by_cases hlt : k < cs.length
    · obtain ⟨g1, o1, rfl, hg1, hc1⟩ := h1 (by intro e; rw [e] at hlt; simp at hlt)
      obtain ⟨g2, o2, rfl, hg2, hc2⟩ := h2 (by intro e; rw [e] at hlt; simp at hlt)
      obtain ⟨A1, C1, f1, i1⟩ := hc1 k hlt
      obtain ⟨A2, C2, f2, i2⟩ := hc2 k hlt
      have k1 : (w.drewN n).cell? ⟨g1, o1 + k, none⟩ = _ := f1
      have k2 : (w.drewN n).cell? ⟨g2, o2 + k, none⟩ = _ := f2
      have hcl : (cs.getD k []).length ≤ 1000 := by
        rw [getD_lt _ _ _ hlt]; exact hc _ (List.getElem_mem hlt)
      generalize cs.getD k [] = zs at *
      have i1' : IntsAt (w.drewN n) (w.drewN n).heap.size A1 zs := i1
      have i2' : IntsAt (w.drewN n) (w.drewN n).heap.size A2 zs := i2
      clear hc1 hc2 f1 f2 i1 i2
      generalize hw3 : w.drewN n = w3 at *
      have HW : Hid (w.drewN n = w3) := hw3
      clear hw3
      go_wp2
      go_quiet ((go_at_call 16; exact Calls.quiet_of (same_any A1 A2 C1 C2 zs _ (ints_drewN i1' _) (ints_drewN i2' _) hcl)))
      go_wp2
      go_roundw
      case rel => exact ⟨k + 1, n + nq, by omega, by go_num, by rw [← HW.out, World.drewN_drewN]⟩
      case measure => simp [intOf]; omega
    · go_wp2
      go_ret
      exact ⟨rfl, n, rfl⟩

set_option maxHeartbeats 1000000 in
theorem alike_any (s : Bool) (zs : List Int) (ps : List (List Int)) (b b' : Nat) (vm vp vm' vp' : Value) (vs vs' : List Value) (w : World) (h : AnsAt w b zs ps vm vp vs) (h' : AnsAt w b' zs ps vm' vp' vs') (hz : zs.length ≤ 1000) (hp : ps.length ≤ 4611686018427387904) (hc : ∀ c ∈ ps, c.length ≤ 1000) :
    Calls Tryd.prog 24 #[.agg #[.bool s, vm, vp], .agg #[.bool s, vm', vp']] w fun e w' => e = .returned (.bool true) ∧ Below w.heap.size w w' := by
  obtain ⟨ma, mc, rfl, hm⟩ := own_intsAt h.model
  obtain ⟨pa, pc, rfl, hpl, -⟩ := h.proof.lists
  obtain ⟨ma', mc', rfl, hm'⟩ := own_intsAt h'.model
  obtain ⟨pa', pc', rfl, hpl', -⟩ := h'.proof.lists
  have hb1 := alloc_below w (.cells #[.bool s, .slice ma zs.length mc, .slice pa ps.length pc] 45)
  have hb2 : Below w.heap.size w ((w.alloc (.cells #[.bool s, .slice ma zs.length mc, .slice pa ps.length pc] 45)).alloc (.cells #[.bool s, .slice ma' zs.length mc', .slice pa' ps.length pc'] 45)) := hb1.alloc (by simp) _
  have B1 := (blk_new w [.bool s, .slice ma zs.length mc, .slice pa ps.length pc] 45).alloc (.cells #[.bool s, .slice ma' zs.length mc', .slice pa' ps.length pc'] 45)
  have B2 := blk_new (w.alloc (.cells #[.bool s, .slice ma zs.length mc, .slice pa ps.length pc] 45)) [.bool s, .slice ma' zs.length mc', .slice pa' ps.length pc'] 45
  rw [World.size_alloc] at B2
  dsimp only [List.toArray] at B1 B2
  go_enter Tryd.func24, Tryd.ntmps24
  go_wp2_with fail
  generalize (w.alloc (.cells #[.bool s, .slice ma zs.length mc, .slice pa ps.length pc] 45)).alloc (.cells #[.bool s, .slice ma' zs.length mc', .slice pa' ps.length pc'] 45) = W at *
  refine (same_any ma ma' mc mc' zs W ((hm.below hb2 (Nat.le_refl _)).mono hb2.size) ((hm'.below hb2 (Nat.le_refl _)).mono hb2.size) hz).mono ?_
  rintro e w1 ⟨rfl, k1, hw1⟩
  have hb3 : Below W.heap.size W w1 := by rw [hw1]; exact ⟨rfl, rfl, rfl, Nat.le_refl _, fun _ _ => rfl⟩
  have B13 := B1.below' hb3
  have B23 := B2.below' hb3
  have q0 : w1.cell? ⟨w.heap.size, 0, none⟩ = some (.bool s) := B13.cell (i := 0) (by simp) undef
  have q2 : w1.cell? ⟨w.heap.size, 2, none⟩ = some (.slice pa ps.length pc) := B13.cell (i := 2) (by simp) undef
  have r2 : w1.cell? ⟨w.heap.size + 1, 2, none⟩ = some (.slice pa' ps.length pc') := B23.cell (i := 2) (by simp) undef
  have hbw1 : Below w.heap.size w w1 := hb2.trans (hb3.mono hb2.size)
  clear hw1
  go_wp2_with fail
  refine (slists_any pa pa' pc pc' ps w1 ((hpl.below hbw1 (Nat.le_refl _)).mono hbw1.size) ((hpl'.below hbw1 (Nat.le_refl _)).mono hbw1.size) hp hc).mono ?_
  rintro e w2 ⟨rfl, k2, hw2⟩
  have hb4 : Below w1.heap.size w1 w2 := by rw [hw2]; exact ⟨rfl, rfl, rfl, Nat.le_refl _, fun _ _ => rfl⟩
  have u0 : w2.cell? ⟨w.heap.size, 0, none⟩ = some (.bool s) := (B13.below' hb4).cell (i := 0) (by simp) undef
  have v0 : w2.cell? ⟨w.heap.size + 1, 0, none⟩ = some (.bool s) := (B23.below' hb4).cell (i := 0) (by simp) undef
  have HB : Hid (Below w.heap.size w w2) := hbw1.trans (hb4.mono hbw1.size)
  have hse : (s == s) = true := by simp
  clear hw2 B13 B23 B1 B2 q0 q2 r2
  go_wp2
  go_ret
  refine ⟨?_, HB.out⟩
  simp
end Go.Proofs.YtlodenfdcckemaaDoor

/-
  The walk of copied.
-/

namespace Go.Proofs.YtlodenfdcckemaaDoor
open Go.RowKit

/-- 'append(s, x...)', x a list that lies in memory, none or some. -/
theorem wpList_append_any {P : Program} {w : World} {ops : Array Oper} {rest : List Oper} {a : Act} {Q : Exit → Act → World → Prop} {dst : Option Tmp} {type : TypeId} {pos : String} {after : Array Edge} (s x : Operand) (t e : TypeId) (z : Value) (bytes : Nat)
    (hu : P.underlying t = some (.slice e)) (hinfo : (P.info? e).map (fun i => (i.zero, i.size, i.bytes)) = some (some z, 1, bytes)) (hz1 : z.cells.size = 1) (base : Nat) (v : Value) (xs : List Value) (hs : a.eval s = v) (ho : Own w base e v xs)
    (b2 : Nat) (u : Value) (news : List Value) (hx : a.eval x = u) (hu2 : Own w b2 e u news) (h1 : ∀ y ∈ news, y.oneCell' = true) (h63 : xs.length + news.length ≤ maxLen) (hby : (xs.length + news.length) * bytes ≤ 140737488355328) (hbase : base ≤ w.heap.size)
    (hK : ∀ v' w', Own w' base e v' (xs ++ news) → w.grownBy w' v.ownBlock → wpList P ops Q rest (a.put dst v') w') :
    wpList P ops Q (⟨dst, .call { callee := .builtin .append, args := #[s, x], argTypes := #[t, t] }, type, pos, after, none⟩ :: rest) a w := by
  obtain ⟨i, hi, hzz⟩ := Option.map_eq_some_iff.1 hinfo
  simp only [Prod.mk.injEq] at hzz
  obtain ⟨hz, hsz, hb⟩ := hzz
  refine wpList_plain rfl fun K hK' => ?_
  rcases hu2 with ⟨rfl, hn⟩ | ⟨g, cap, rfl, _, _, hr⟩
  · subst hn
    have hrun := run_append_owned_none (P := P) (w := w) base t type e i 1 hu hi v xs.length xs ho.own
    unfold Oper.wp
    simp only [execOp, resolve, invoke, builtin, Sem.run_bind, Sem.run_pure, Result.andThen_ok, List.map_toArray, List.map_cons, List.map_nil, hs, hx, hrun]
    exact hK' _ _ (hK v w (by simpa using ho) ⟨rfl, rfl, rfl, Nat.le_refl _, fun _ _ _ => rfl⟩)
  · have hnews : ∀ j y, news[j]? = some y → w.cell? ((⟨g, 0, none⟩ : Addr).add j) = some y := fun j y hj => by
      have hadd : (⟨g, 0, none⟩ : Addr).add j = ⟨g, j, none⟩ := by unfold Addr.add; split <;> simp_all
      obtain ⟨hlt, hy⟩ := List.getElem?_eq_some_iff.1 hj
      rw [hadd, hr.cell hlt undef, getD_lt _ _ _ hlt, hy]
    obtain ⟨v', w', hrun, h2, h3, _, _⟩ := run_append_own_at (P := P) w base t type e i z 1 bytes hu hi hz hsz hb hz1 (by decide) v xs.length xs ho.own ⟨g, 0, none⟩ news.length cap news (by omega) hnews h1 h63 hby hbase
    unfold Oper.wp
    simp only [execOp, resolve, invoke, builtin, Sem.run_bind, Sem.run_pure, Result.andThen_ok, List.map_toArray, List.map_cons, List.map_nil, hs, hx, hrun]
    refine hK' _ _ (hK v' w' ?_ h3)
    have h2' := h2
    obtain ⟨hl, ⟨rfl, h0⟩ | ⟨g', cap', cur, rfl, _⟩⟩ := h2'
    · exact Or.inl ⟨rfl, List.eq_nil_of_length_eq_zero (by rw [hl, h0])⟩
    · exact own_of h2

theorem ints_oneCell (zs : List Int) : ∀ y ∈ ints zs, y.oneCell' = true := ints_one zs

/-- While the steps are copied. -/
structure CopI (w : World) (s : Bool) (zs : List Int) (ps : List (List Int)) (vm vp v1 : Value) (i : Nat) (wr : World) (v2 : Value) (vs2 : List Value) : Prop where
  b0 : Blk wr w.heap.size 45 [.bool s, vm, vp]
  b1 : Blk wr (w.heap.size + 1) 45 [.bool false, .slice none 0 0, .slice none 0 0]
  b2 : Blk wr (w.heap.size + 1 + 1) 45 [.bool s, v1, v2]
  model : Own wr w.heap.size 3 v1 (ints zs)
  proof : MadeS wr w.heap.size v2 vs2 (ps.take i)
  old : Below w.heap.size w wr

theorem CopI.more {w : World} {s : Bool} {zs : List Int} {ps : List (List Int)} {vm vp v1 : Value} {i : Nat} {wr w1 w2 w3 : World} {v2 x v3 : Value} {vs2 : List Value} {o : Obj} {c : List Int} (h : CopI w s zs ps vm vp v1 i wr v2 vs2) (hg1 : wr.grownBy w1 none) (hx : Own w1 wr.heap.size 3 x (ints c)) (hO : Own w2 w.heap.size 24 v3 (vs2 ++ [x])) (hg2 : (w1.alloc o).grownBy w2 v2.ownBlock)
    (hp : ps.take (i + 1) = ps.take i ++ [c]) (e3 : w3 = w2.setCell ⟨w.heap.size + 1 + 1, 2, none⟩ v3) (hne : ∃ g n cap, v3 = .slice (some ⟨g, 0, none⟩) n cap) : CopI w s zs ps vm vp v1 (i + 1) w3 v3 (vs2 ++ [x]) ∧ Blk w2 (w.heap.size + 1 + 1) 45 [.bool s, v1, v2] := by
  subst e3
  obtain ⟨g, n, cap, rfl⟩ := hne
  have hb1 : Below wr.heap.size wr w1 := ⟨hg1.os, hg1.tape, hg1.output, hg1.size, fun k hk => hg1.block k hk (by simp)⟩
  have hP1 := h.proof.below' hb1
  have hC : Chg (fun k => v2.ownBlock = some k) w1 w2 := (Chg.of_below (alloc_below w1 o)).trans (Chg.of_grown (S := fun k => v2.ownBlock = some k) hg2 (fun k e => e) (fun k e o' ho => (hP1.oe.alloc o).cells e o' ho))
  have hM := h.proof.more hb1 hx h.old.size hO hC
  have hCw : Chg (fun k => v2.ownBlock = some k) wr w2 := (Chg.of_below hb1).trans hC
  have nB : ∀ q L, Blk wr q 45 L → ¬ v2.ownBlock = some q := fun q L hq => own_blk h.proof.oe hq (by decide)
  have c0 := h.b0.chg hCw (nB _ _ h.b0)
  have c1 := h.b1.chg hCw (nB _ _ h.b1)
  have c2 := h.b2.chg hCw (nB _ _ h.b2)
  have ht : TChg (fun t => t = 45) w2 (w2.setCell ⟨w.heap.size + 1 + 1, 2, none⟩ (.slice (some ⟨g, 0, none⟩) n cap)) := ⟨fun k => k = w.heap.size + 1 + 1, (Chg.refl (fun k => k = w.heap.size + 1 + 1) w2).setB _ 2 rfl _, fun b e _ => by obtain rfl : b = w.heap.size + 1 + 1 := e; exact ⟨_, _, c2, rfl⟩⟩
  have tm : TChg (fun t => t = 24) wr w2 := ⟨_, hCw, fun b e _ => by obtain ⟨L, hL⟩ := h.proof.oe.blkOf e; exact ⟨_, L, hL, rfl⟩⟩
  refine ⟨⟨c0.setOther (a := ⟨w.heap.size + 1 + 1, 2, none⟩) (by simp; omega) _, c1.setOther (a := ⟨w.heap.size + 1 + 1, 2, none⟩) (by simp) _, c2.set 2 _, ht.own (tm.own h.model (by decide)) (by decide), by rw [hp]; exact hM.tchg ht (by decide) (by decide), ?_⟩, c2⟩
  have hb2 : Below w.heap.size w w2 := h.old.trans (hCw.below h.old.size fun k e => (h.proof.oe.lt e).1)
  exact hb2.setCell (p := ⟨w.heap.size + 1 + 1, 2, none⟩) (show w.heap.size ≤ w.heap.size + 1 + 1 by omega) _

set_option maxRecDepth 100000 in
set_option maxHeartbeats 2000000 in
theorem copied_any (s : Bool) (zs : List Int) (ps : List (List Int)) (b : Nat) (vm vp : Value) (vs : List Value) (w : World) (h : AnsAt w b zs ps vm vp vs) (hz : zs.length ≤ 1000) (hp : ps.length ≤ 4000000000) (hc : ∀ c ∈ ps, c.length ≤ 1000) :
    Calls Tryd.prog 22 #[.agg #[.bool s, vm, vp]] w fun e w' => ∃ v1 v2 vs2, e = .returned (.agg #[.bool s, v1, v2]) ∧ AnsAt w' w.heap.size zs ps v1 v2 vs2 ∧ Below w.heap.size w w' := by
  obtain ⟨pa, pc, hvp, hpl, -⟩ := h.proof.lists
  obtain ⟨ma, mc, hvm⟩ := h.model.shape
  rw [List.length_map] at hvm
  subst hvp
  subst hvm
  have hb3 : Below w.heap.size w (((w.alloc (.cells #[.bool s, .slice ma zs.length mc, .slice pa ps.length pc] 45)).alloc (.cells #[.bool false, .slice none 0 0, .slice none 0 0] 45)).alloc (.cells #[.bool s, .slice none 0 0, .slice none 0 0] 45)) := (((Below.refl _ _).alloc (Nat.le_refl _) _).alloc (by simp) _).alloc (by simp; omega) _
  have B0 := ((blk_new w [.bool s, .slice ma zs.length mc, .slice pa ps.length pc] 45).alloc (.cells #[.bool false, .slice none 0 0, .slice none 0 0] 45)).alloc (.cells #[.bool s, .slice none 0 0, .slice none 0 0] 45)
  have B1 := (blk_new (w.alloc (.cells #[.bool s, .slice ma zs.length mc, .slice pa ps.length pc] 45)) [.bool false, .slice none 0 0, .slice none 0 0] 45).alloc (.cells #[.bool s, .slice none 0 0, .slice none 0 0] 45)
  have B2 := blk_new ((w.alloc (.cells #[.bool s, .slice ma zs.length mc, .slice pa ps.length pc] 45)).alloc (.cells #[.bool false, .slice none 0 0, .slice none 0 0] 45)) [.bool s, .slice none 0 0, .slice none 0 0] 45
  rw [World.size_alloc] at B1
  rw [World.size_alloc, World.size_alloc] at B2
  dsimp only [List.toArray] at B0 B1 B2
  go_enter Tryd.func22, Tryd.ntmps22
  have hOm := ((h.model.alloc (.cells #[.bool s, .slice ma zs.length mc, .slice pa ps.length pc] 45)).alloc (.cells #[.bool false, .slice none 0 0, .slice none 0 0] 45)).alloc (.cells #[.bool s, .slice none 0 0, .slice none 0 0] 45)
  have hzl : ([] ++ ints zs : List Value) = ints zs := rfl
  have hil : (ints zs).length = zs.length := by simp
  go_wp2_with (at_builtin; refine wpList_append_any (.tmp 10) (.tmp 12) 24 3 (.int .i64 0) 8 Tryd.underlying24 Tryd.info3 rfl w.heap.size _ [] (by rfl) (Own.nil _ _ _) b _ (ints zs) (by rfl) hOm (ints_oneCell zs) (by unfold maxLen; simp only [List.length_nil, hil]; omega) (by simp only [List.length_nil, hil]; omega) (by simp; omega) ?_; intro v1 w1 hO1 hg1; rw [hzl] at hO1; obtain ⟨xa, xc, hxs⟩ := hO1.shape; rw [hil] at hxs; subst hxs; have C0 := B0.grown hg1 (by simp [Value.ownBlock]); have C1 := B1.grown hg1 (by simp [Value.ownBlock]); have C2 := B2.grown hg1 (by simp [Value.ownBlock]); have d1 : w1.cell? ⟨w.heap.size + 1 + 1, 1, none⟩ = some (.slice none 0 0) := C2.cell (i := 1) (by simp) undef; have d2 := C2.frozen 1)
  have hI0 : CopI w s zs ps (.slice ma zs.length mc) (.slice pa ps.length pc) (.slice xa zs.length xc) 0 (w1.setCell ⟨w.heap.size + 1 + 1, 1, none⟩ (.slice xa zs.length xc)) (.slice none 0 0) [] := by
    have ht : TChg (fun t => t = 45) w1 (w1.setCell ⟨w.heap.size + 1 + 1, 1, none⟩ (.slice xa zs.length xc)) := ⟨fun k => k = w.heap.size + 1 + 1, (Chg.refl (fun k => k = w.heap.size + 1 + 1) w1).setB _ 1 rfl _, fun b e _ => by obtain rfl : b = w.heap.size + 1 + 1 := e; exact ⟨_, _, C2, rfl⟩⟩
    have hbw : Below w.heap.size w w1 := hb3.trans ⟨hg1.os, hg1.tape, hg1.output, hg1.size, fun k hk => hg1.block k (by have := hb3.size; omega) (by simp [Value.ownBlock])⟩
    exact ⟨C0.setOther (a := ⟨w.heap.size + 1 + 1, 1, none⟩) (by simp; omega) _, C1.setOther (a := ⟨w.heap.size + 1 + 1, 1, none⟩) (by simp) _, C2.set 1 _, ht.own hO1 (by decide), by rw [List.take_zero]; exact MadeS.start _ _, hbw.setCell (p := ⟨w.heap.size + 1 + 1, 1, none⟩) (show w.heap.size ≤ w.heap.size + 1 + 1 by omega) _⟩
  have HI0 : Hid _ := hI0
  generalize w1.setCell ⟨w.heap.size + 1 + 1, 1, none⟩ (.slice xa zs.length xc) = W1 at *
  have HP : Hid (MadeS w b (.slice pa ps.length pc) vs ps) := h.proof
  clear hI0 hb3 B0 B1 B2 C0 C1 C2 d1 d2 hOm hO1 hg1 h
  go_loopw [4] (fun x wr => ∃ (i : Nat) (v2 : Value) (vs2 : List Value), i ≤ ps.length ∧ x = .int .i64 i ∧ Hid (CopI w s zs ps (.slice ma zs.length mc) (.slice pa ps.length pc) (.slice xa zs.length xc) i wr v2 vs2)) (fun x _ => ps.length - (intOf x).toNat)
  case atStart => exact ⟨0, _, _, Nat.zero_le _, rfl, HI0⟩
  case round =>
    obtain ⟨i, v2, vs2, hi, rfl, HI⟩ := hrel
    have q2 : wr.cell? ⟨w.heap.size, 2, none⟩ = some (.slice pa ps.length pc) := HI.out.b0.cell (i := 2) (by simp) undef
    by_cases hlt : i < ps.length
    · have hPr : MadeS w b (.slice pa ps.length pc) vs ps := HP.out
      have hvl : vs.length = ps.length := hPr.len
      obtain ⟨pg, pcap, hps, hpg, hcells⟩ := hPr.oe.at (by omega)
      simp only [Value.slice.injEq] at hps
      obtain ⟨rfl, -, rfl⟩ := hps
      have hck : wr.cell? ⟨pg, i, none⟩ = some (vs.getD i undef) := (HI.out.old.cell (p := ⟨pg, i, none⟩) hpg).trans (hcells i (by omega))
      have hin := (hPr.ls i (by omega)).below' (w' := wr) (by have := HI.out.old; exact this)
      obtain ⟨ya, yc, hys⟩ := hin.shape
      rw [List.length_map] at hys
      rw [hys] at hck hin
      have hcl : (ps.getD i []).length ≤ 1000 := by rw [getD_lt _ _ _ hlt]; exact hc _ (List.getElem_mem hlt)
      have HTk : Hid (ps.take (i + 1) = ps.take i ++ [ps.getD i []]) := take_succ_lists ps i hlt
      generalize ps.getD i [] = c at *
      have hcil : (ints c).length = c.length := by simp
      have hcn : ([] ++ ints c : List Value) = ints c := rfl
      have hv2l : vs2.length = i := by rw [HI.out.proof.len, List.length_take]; omega
      have hsz := HI.out.old.size
      have i0 : (0 : Int) ≤ (i : Int) := by omega
      have i1 : (i : Int) < (ps.length : Int) := by omega
      clear hcells hPr
      go_wp2_with (first
        | (at_builtin; refine wpList_append_any (.tmp 22) (.tmp 27) 24 3 (.int .i64 0) 8 Tryd.underlying24 Tryd.info3 rfl wr.heap.size _ [] (by rfl) (Own.nil _ _ _) b _ (ints c) (by rfl) hin (ints_oneCell c) (by unfold maxLen; simp only [List.length_nil, hcil]; omega) (by simp only [List.length_nil, hcil]; omega) (Nat.le_refl _) ?_; intro x w2 hx hg1; rw [hcn] at hx; obtain ⟨xa', xc', hxs⟩ := hx.shape; rw [hcil] at hxs; subst hxs; have hgb : Below wr.heap.size wr w2 := ⟨hg1.os, hg1.tape, hg1.output, hg1.size, fun k hk => hg1.block k hk (by simp [Value.ownBlock])⟩; have D2 := HI.out.b2.below' hgb; have e2 : w2.cell? ⟨w.heap.size + 1 + 1, 2, none⟩ = some v2 := D2.cell (i := 2) (by simp) undef; have P2 := HI.out.proof.below' hgb; have OA := P2.oe.alloc (.cells #[.slice xa' c.length xc'] 24); have NA : Blk (w2.alloc (.cells #[.slice xa' c.length xc'] 24)) w2.heap.size 24 [.slice xa' c.length xc'] := blk_new w2 [.slice xa' c.length xc'] 24; have hsz2 := hgb.size)
        | (at_builtin; refine wpList_append_new (.tmp 30) (.tmp 32) 23 24 (.slice none 0 0) 24 Tryd.underlying23 Tryd.infoInts rfl w.heap.size w2.heap.size v2 vs2 [.slice xa' c.length xc'] 1 i hv2l rfl (by decide) (by rfl) (by rfl) OA NA (by intro u hu; simp at hu; rw [hu]; rfl) (by unfold maxLen; omega) (by omega) (by rw [alloc_size]; omega) ?_; intro g5 cap5 w5 hO5 hgr5 hat5 hlt5; obtain ⟨hIn, F2⟩ := HI.out.more (w3 := w5.setCell ⟨w.heap.size + 1 + 1, 2, none⟩ (.slice (some ⟨g5, 0, none⟩) (i + 1) cap5)) hg1 hx hO5 hgr5 HTk.out rfl ⟨_, _, _, rfl⟩; have e5 : w5.cell? ⟨w.heap.size + 1 + 1, 2, none⟩ = some v2 := F2.cell (i := 2) (by simp) undef; have f5 := F2.frozen 2))
      exact ⟨⟨i + 1, _, _, by omega, by go_num, hIn⟩, by simp [intOf]; omega⟩
    · obtain rfl : i = ps.length := by omega
      obtain ⟨va, vc, hvs, -, -⟩ := HI.out.proof.lists
      rw [List.take_length] at hvs
      subst hvs
      have u0 : wr.cell? ⟨w.heap.size + 1 + 1, 0, none⟩ = some (.bool s) := HI.out.b2.cell (i := 0) (by simp) undef
      have u1 : wr.cell? ⟨w.heap.size + 1 + 1, 1, none⟩ = some (.slice xa zs.length xc) := HI.out.b2.cell (i := 1) (by simp) undef
      have u2 : wr.cell? ⟨w.heap.size + 1 + 1, 2, none⟩ = some (.slice va ps.length vc) := HI.out.b2.cell (i := 2) (by simp) undef
      have r0 : wr.cell? ⟨w.heap.size + 1, 0, none⟩ = some (.bool false) := HI.out.b1.cell (i := 0) (by simp) undef
      have r1 : wr.cell? ⟨w.heap.size + 1, 1, none⟩ = some (.slice none 0 0) := HI.out.b1.cell (i := 1) (by simp) undef
      have r2 : wr.cell? ⟨w.heap.size + 1, 2, none⟩ = some (.slice none 0 0) := HI.out.b1.cell (i := 2) (by simp) undef
      have f0 := HI.out.b1.frozen 0
      have f1 := HI.out.b1.frozen 1
      have f2 := HI.out.b1.frozen 2
      have HEd : Hid _ := fun W2 h => sol_end (W2 := W2) (a := .bool s) (b := .slice xa zs.length xc) (c := .slice va ps.length vc) HI.out.b1 (Nat.le_succ _) HI.out.old h
      go_wp2
      obtain ⟨bR, hbF, htF⟩ := HEd.out _ rfl
      have hpr := HI.out.proof
      rw [List.take_length] at hpr
      exact bodyPost_ret (v := .agg #[.bool s, .slice xa zs.length xc, .slice va ps.length vc]) (by simp [results, Tryd.results22, go_sem, r0, r1, r2]) rfl ⟨_, _, vs2, rfl, ⟨htF.own HI.out.model (by decide), hpr.tchg htF (by decide) (by decide)⟩, hbF⟩
end Go.Proofs.YtlodenfdcckemaaDoor

/-
  The books' take.
-/

namespace Go.Proofs.YtlodenfdcckemaaDoor
open Go.RowKit

/-- Behind the append to the list of lists, and its store. -/
theorem bkL {w4 w5 : World} {O : Nat} {vl vm vo : Value} {E : List (Value × Int)} {D L : List Value} {o : Obj} {g5 c5 l5 : Nat} (hBk : Bk w4 O vl vm vo E D) (hO5 : Own w5 0 24 (.slice (some ⟨g5, 0, none⟩) l5 c5) (E.map (·.1) ++ L))
    (hgr : (w4.alloc o).grownBy w5 vl.ownBlock) (hat : vl.ownBlock = some g5 ∨ g5 = (w4.alloc o).heap.size) :
    Blk w5 O 27 [vl, vm, vo] ∧ Chg (fun k => k = O ∨ vl.ownBlock = some k) w4 (w5.setCell ⟨O, 0, none⟩ (.slice (some ⟨g5, 0, none⟩) l5 c5)) ∧ Blk (w5.setCell ⟨O, 0, none⟩ (.slice (some ⟨g5, 0, none⟩) l5 c5)) O 27 [.slice (some ⟨g5, 0, none⟩) l5 c5, vm, vo] ∧
      Own (w5.setCell ⟨O, 0, none⟩ (.slice (some ⟨g5, 0, none⟩) l5 c5)) 0 24 (.slice (some ⟨g5, 0, none⟩) l5 c5) (E.map (·.1) ++ L) ∧ Own (w5.setCell ⟨O, 0, none⟩ (.slice (some ⟨g5, 0, none⟩) l5 c5)) 0 3 vm (E.map fun e => .int .i64 e.2) ∧ (∀ d ∈ D, d.ownBlock ≠ some g5) := by
  have hC4 : Chg (fun k => k = O ∨ vl.ownBlock = some k) w4 w5 := (Chg.of_below (alloc_below w4 o)).trans (Chg.of_grown hgr (fun k e => Or.inr e) (fun k e o' ho => (hBk.ol.alloc o).cells e o' ho))
  have hB5 : Blk w5 O 27 [vl, vm, vo] := (hBk.head.alloc o).grown hgr (own_blk hBk.ol hBk.head (by decide))
  have hgO : g5 ≠ O := fun e => own_blk hO5 hB5 (by decide) (by rw [← e]; rfl)
  have hset : Chg (fun k => k = O) w5 (w5.setCell ⟨O, 0, none⟩ (.slice (some ⟨g5, 0, none⟩) l5 c5)) := (Chg.refl (fun k => k = O) w5).setB O 0 rfl _
  have hC5 : Chg (fun k => k = O ∨ vl.ownBlock = some k) w4 (w5.setCell ⟨O, 0, none⟩ (.slice (some ⟨g5, 0, none⟩) l5 c5)) := hC4.trans (hset.mono fun k _ h => Or.inl h)
  refine ⟨hB5, hC5, hB5.set 0 _, hO5.chg hset (fun k e h => hgO (by simp [Value.ownBlock] at e; rw [e, h])), hBk.om.chg hC5 ?_, ?_⟩
  · rintro k e (h | h)
    · exact own_blk hBk.om hBk.head (by decide) (by rw [e, h])
    · exact own_ne hBk.om hBk.ol (by decide) e h
  · intro d hd e
    rcases hat with h | h
    · exact hBk.dl d hd _ h e
    · obtain ⟨n, _, hn⟩ := hBk.outs d hd
      have := (hn.lt e).2
      rw [alloc_size] at h
      omega

theorem takeEnd {w4 w5 w6 : World} {O : Nat} {vl vm vo : Value} {E : List (Value × Int)} {D L : List Value} {m : Int} {o o' : Obj} {g5 c5 l5 g6 c6 l6 : Nat} (hBk : Bk w4 O vl vm vo E D) (hL : ∀ q ∈ L, (∃ n, n ≤ 1000 ∧ Own w4 0 3 q (rep n (mk m))) ∧ ∀ k, vm.ownBlock = some k → q.ownBlock ≠ some k)
    (hO5 : Own w5 0 24 (.slice (some ⟨g5, 0, none⟩) l5 c5) (E.map (·.1) ++ L)) (hgr : (w4.alloc o).grownBy w5 vl.ownBlock) (hat : vl.ownBlock = some g5 ∨ g5 = (w4.alloc o).heap.size)
    (hO6 : Own w6 0 3 (.slice (some ⟨g6, 0, none⟩) l6 c6) ((E.map fun e => .int .i64 e.2) ++ rep L.length (mk m))) (hgr6 : ((w5.setCell ⟨O, 0, none⟩ (.slice (some ⟨g5, 0, none⟩) l5 c5)).alloc o').grownBy w6 vm.ownBlock) (hat6 : vm.ownBlock = some g6 ∨ g6 = ((w5.setCell ⟨O, 0, none⟩ (.slice (some ⟨g5, 0, none⟩) l5 c5)).alloc o').heap.size) :
    Bk (w6.setCell ⟨O, 1, none⟩ (.slice (some ⟨g6, 0, none⟩) l6 c6)) O (.slice (some ⟨g5, 0, none⟩) l5 c5) (.slice (some ⟨g6, 0, none⟩) l6 c6) vo (E ++ L.map fun q => (q, m)) D ∧ Chg (fun k => k = O ∨ vl.ownBlock = some k ∨ vm.ownBlock = some k) w4 (w6.setCell ⟨O, 1, none⟩ (.slice (some ⟨g6, 0, none⟩) l6 c6)) ∧
      (vl.ownBlock = some g5 ∨ w4.heap.size ≤ g5) ∧ (vm.ownBlock = some g6 ∨ w4.heap.size ≤ g6) := by
  obtain ⟨-, C5, B5, L5, M5, D5⟩ := bkL hBk hO5 hgr hat
  generalize w5.setCell ⟨O, 0, none⟩ (.slice (some ⟨g5, 0, none⟩) l5 c5) = W5 at *
  have s5 := C5.size
  have C6 : Chg (fun k => k = O ∨ vm.ownBlock = some k) W5 w6 := (Chg.of_below (alloc_below W5 o')).trans (Chg.of_grown hgr6 (fun k e => Or.inr e) (fun k e o ho => (M5.alloc o').cells e o ho))
  have B6 : Blk w6 O 27 [.slice (some ⟨g5, 0, none⟩) l5 c5, vm, vo] := (B5.alloc o').grown hgr6 (own_blk M5 B5 (by decide))
  have hgO : g6 ≠ O := fun e => own_blk hO6 B6 (by decide) (by rw [← e]; rfl)
  have hset : Chg (fun k => k = O) w6 (w6.setCell ⟨O, 1, none⟩ (.slice (some ⟨g6, 0, none⟩) l6 c6)) := (Chg.refl (fun k => k = O) w6).setB O 1 rfl _
  have C7 : Chg (fun k => k = O ∨ vm.ownBlock = some k) W5 (w6.setCell ⟨O, 1, none⟩ (.slice (some ⟨g6, 0, none⟩) l6 c6)) := C6.trans (hset.mono fun k _ h => Or.inl h)
  have CC : Chg (fun k => k = O ∨ vl.ownBlock = some k ∨ vm.ownBlock = some k) w4 (w6.setCell ⟨O, 1, none⟩ (.slice (some ⟨g6, 0, none⟩) l6 c6)) :=
    (C5.mono fun k _ h => h.elim Or.inl (fun h => Or.inr (Or.inl h))).trans (C7.mono fun k _ h => h.elim Or.inl (fun h => Or.inr (Or.inr h)))
  have hgr6l : vm.ownBlock = some g6 ∨ w4.heap.size ≤ g6 := hat6.imp (fun h => h) (fun h => by rw [alloc_size] at h; omega)
  have O7 : Own (w6.setCell ⟨O, 1, none⟩ (.slice (some ⟨g6, 0, none⟩) l6 c6)) 0 3 (.slice (some ⟨g6, 0, none⟩) l6 c6) ((E.map fun e => .int .i64 e.2) ++ rep L.length (mk m)) := hO6.chg hset (fun k e h => hgO (by simp [Value.ownBlock] at e; rw [e, h]))
  have ent : ∀ (q : Value) (n : Nat) (i : Int), Own w4 0 3 q (rep n (mk i)) → (∀ k, vm.ownBlock = some k → q.ownBlock ≠ some k) → Own (w6.setCell ⟨O, 1, none⟩ (.slice (some ⟨g6, 0, none⟩) l6 c6)) 0 3 q (rep n (mk i)) := by
    intro q n i hq hd
    refine hq.chg CC ?_
    rintro k e (h | h | h)
    · exact own_blk hq hBk.head (by decide) (by rw [e, h])
    · exact own_ne hq hBk.ol (by decide) e h
    · exact hd k h e
  refine ⟨⟨B6.set 1 _, ?_, ?_, ?_, ?_, ?_, ?_, ?_⟩, CC, hat.imp (fun h => h) (fun h => by rw [alloc_size] at h; omega), hgr6l⟩
  · have : (E ++ L.map fun q => (q, m)).map (·.1) = E.map (·.1) ++ L := by simp [Function.comp_def]
    rw [this]
    refine L5.chg C7 ?_
    rintro k e (h | h)
    · exact own_blk L5 B5 (by decide) (by rw [e, h])
    · exact own_ne L5 M5 (by decide) e h
  · have : ((E ++ L.map fun q => (q, m)).map fun e => Value.int .i64 e.2) = (E.map fun e => Value.int .i64 e.2) ++ rep L.length (mk m) := by
      rw [List.map_append, List.map_map]
      congr 1
      show List.map (fun _ => mk m) L = _
      exact List.map_const' ..
    rw [this]
    exact O7
  · refine hBk.oo.chg CC ?_
    rintro k e (h | h | h)
    · exact own_blk hBk.oo hBk.head (by decide) (by rw [e, h])
    · exact own_ne hBk.oo hBk.ol (by decide) e h
    · exact own_ne hBk.oo hBk.om (by decide) e h
  · intro e he
    rcases List.mem_append.1 he with he | he
    · obtain ⟨n, hn, h⟩ := hBk.ents e he
      exact ⟨n, hn, ent _ _ _ h (hBk.dm e he)⟩
    · obtain ⟨q, hq, rfl⟩ := List.mem_map.1 he
      obtain ⟨⟨n, hn, h⟩, hd⟩ := hL q hq
      exact ⟨n, hn, ent _ _ _ h hd⟩
  · intro d hd
    obtain ⟨n, hn, h⟩ := hBk.outs d hd
    refine ⟨n, hn, h.chg CC ?_⟩
    rintro k e (h' | h' | h')
    · exact own_blk h hBk.head (by decide) (by rw [e, h'])
    · exact hBk.dl d hd k h' e
    · exact own_ne h hBk.om (by decide) e h'
  · intro d hd k e
    simp [Value.ownBlock] at e
    rw [← e]
    exact D5 d hd
  · intro e he k hk
    simp [Value.ownBlock] at hk
    subst hk
    rcases List.mem_append.1 he with he | he
    · rcases hgr6l with h | h
      · exact hBk.dm e he _ h
      · obtain ⟨n, _, h'⟩ := hBk.ents e he
        intro q
        have := (h'.lt q).2
        omega
    · obtain ⟨q, hq, rfl⟩ := List.mem_map.1 he
      obtain ⟨⟨n, hn, h'⟩, hd⟩ := hL q hq
      rcases hgr6l with h | h
      · exact hd _ h
      · intro q
        have := (h'.lt q).2
        omega
theorem blk_new_set (w : World) (O : Nat) (v : Value) (L : List Value) : Blk ((w.setCell ⟨O, 0, none⟩ v).alloc (.cells L.toArray 3)) w.heap.size 3 L := by
  have := blk_new (w.setCell ⟨O, 0, none⟩ v) L 3
  rwa [show (w.setCell ⟨O, 0, none⟩ v).heap.size = w.heap.size by simp [World.setCell]] at this

set_option maxRecDepth 100000 in
set_option maxHeartbeats 2000000 in
theorem take_any (O : Nat) (vl vm vo v : Value) (E : List (Value × Int)) (D : List Value) (zs : List Int) (w : World) (hBk : Bk w O vl vm vo E D) (hE : E.length ≤ 100000000000) (hV : Own w 0 3 v (ints zs)) (hz : zs.length ≤ 900) (hdis : ∀ k, v.ownBlock = some k → ¬ Foot O vl vm vo E D k) :
    Calls Tryd.prog 17 #[.pointer (some ⟨O, 0, none⟩), v] w fun e w' => e = .returned (.tuple #[]) ∧ ∃ vl' vm' E', Bk w' O vl' vm' vo E' D ∧ E'.length = E.length + 4 ∧
      (∀ k, Foot O vl' vm' vo E' D k → Foot O vl vm vo E D k ∨ v.ownBlock = some k ∨ w.heap.size ≤ k) ∧ Chg (fun k => Foot O vl vm vo E D k ∨ v.ownBlock = some k) w w' := by
  obtain ⟨lo, lc, hvl⟩ := hBk.ol.shape
  obtain ⟨mo, mc, hvm⟩ := hBk.om.shape
  obtain ⟨ao, ac, hv⟩ := hV.shape
  rw [List.length_map] at hvl hvm hv
  subst hvl
  subst hvm
  subst hv
  have c1 : w.cell? ⟨O, 1, none⟩ = some (.slice mo E.length mc) := hBk.head.cell (i := 1) (by simp) undef
  have hOl := hBk.head.lt
  go_enter Tryd.func17, Tryd.ntmps17
  go_wp2
  generalize (-1000 : Int) - (E.length : Int) = m
  go_loopw [5] (fun i wr => ∃ (k : Nat), k ≤ zs.length ∧ i = .int .i64 k ∧ Own wr 0 3 (.slice ao zs.length ac) (over (ints zs) (mk m) k) ∧ Chg (fun k => (Value.slice ao zs.length ac).ownBlock = some k) w wr) (fun i _ => zs.length - (intOf i).toNat)
  case atStart =>
    exact ⟨0, by omega, rfl, by rw [over_zero]; exact hV, Chg.refl _ _⟩
  case round =>
    obtain ⟨k, hk, rfl, hOv, hC⟩ := hrel
    by_cases hlt : k < zs.length
    · have hlen : (over (ints zs) (mk m) k).length = zs.length := by rw [over_length _ _ _ (by simpa using hk)]; simp
      obtain ⟨g, cap, hg, hgl, hcells⟩ := hOv.at (by omega)
      have hcell := hcells k (by omega)
      simp only [Value.slice.injEq] at hg
      obtain ⟨rfl, -, rfl⟩ := hg
      have hset := hOv.put (i := k) (by omega) (mk m)
      rw [over_set _ _ _ (by simpa using hlt)] at hset
      have hfr : wr.frozen? ⟨g, k, none⟩ = false := by
        rcases hOv with ⟨h, _⟩ | ⟨g', cap', h, _, _, hr⟩
        · simp at h
        · simp only [Value.slice.injEq, Option.some.injEq, Addr.mk.injEq, and_true] at h
          obtain ⟨rfl, -, rfl⟩ := h
          exact hr.frozen k
      generalize (over (ints zs) (mk m) k).getD k undef = old at *
      clear hcells
      go_wp2
      go_roundw
      case rel => exact ⟨k + 1, by omega, by go_num, hset, hC.setB g k rfl _⟩
      case measure => simp [intOf]; omega
    · obtain rfl : k = zs.length := by omega
      have hOv1 : Own wr 0 3 (.slice ao zs.length ac) (rep zs.length (mk m)) := by
        have := over_end (ints zs) (mk m)
        rw [List.length_map] at this
        rw [this] at hOv
        exact hOv
      clear hOv
      have hBk1 := hBk.chg hC (fun k hk h => hdis k h hk)
      obtain ⟨n, hn⟩ : ∃ n, n = zs.length := ⟨_, rfl⟩
      rw [← hn] at hOv1 hz hC ⊢
      obtain ⟨w1, rfl⟩ : ∃ x, x = wr := ⟨wr, rfl⟩
      have hsz0 := hC.size
      have hdis1 : ∀ k, (Value.slice ao n ac).ownBlock = some k → ¬ Foot O (.slice lo E.length lc) (.slice mo E.length mc) vo E D k := by rw [hn]; exact hdis
      have hF1 : ∀ k, Foot O (.slice lo E.length lc) (.slice mo E.length mc) vo E D k → k < w.heap.size := fun k hk => hBk.foot_lt hk
      clear hBk hV c1 hOl hk hlt hdis
      have HN : Hid (n = zs.length) := hn
      clear hn
      have HC : Hid (Chg (fun k => (Value.slice ao n ac).ownBlock = some k) w w1) := hC
      clear hC
      have b1 := alloc_below w1 (.cells #[.int .i64 m] 3)
      have N1 : Blk (w1.alloc (.cells #[.int .i64 m] 3)) w1.heap.size 3 (rep 1 (mk m)) := blk_new w1 [.int .i64 m] 3
      have V1 := hOv1.alloc (.cells #[.int .i64 m] 3)
      have hOl := hBk1.head.lt
      go_wp2_with (first
        | (at_builtin; refine wpList_append_mk (.tmp 25) (.tmp 27) 24 3 (.int .i64 0) (mk m) 8 Tryd.underlying24 Tryd.info3 rfl (.slice ao n ac) n 1 w1.heap.size (by decide) (by rfl) (by rfl) V1 N1 rfl (by unfold maxLen; omega) (by omega) ?_; intro g2 cap2 w2 X2 C2 at2 keep2; have V2 := keep2 _ n (by omega) V1; have C12 : Chg (fun k => (Value.slice ao n ac).ownBlock = some k) w1 w2 := (Chg.of_below b1).trans C2; have V2a := V2.alloc (.cells #[.int .i64 m, .int .i64 m] 3); have X2a := X2.alloc (.cells #[.int .i64 m, .int .i64 m] 3); have b2 := alloc_below w2 (.cells #[.int .i64 m, .int .i64 m] 3); have N2 : Blk (w2.alloc (.cells #[.int .i64 m, .int .i64 m] 3)) w2.heap.size 3 (rep 2 (mk m)) := blk_new w2 [.int .i64 m, .int .i64 m] 3)
        | (at_builtin; refine wpList_append_mk (.tmp 29) (.tmp 32) 24 3 (.int .i64 0) (mk m) 8 Tryd.underlying24 Tryd.info3 rfl (.slice ao n ac) n 2 w2.heap.size (by decide) (by rfl) (by rfl) V2a N2 rfl (by unfold maxLen; omega) (by omega) ?_; intro g3 cap3 w3 Y3 C3 at3 keep3; have V3 := keep3 _ n (by omega) V2a; have X3 := keep3 _ (n + 1) (by omega) X2a; have C13 : Chg (fun k => (Value.slice ao n ac).ownBlock = some k) w1 w3 := C12.trans ((Chg.of_below b2).trans C3); have V3a := V3.alloc (.cells #[.int .i64 m, .int .i64 m, .int .i64 m] 3); have X3a := X3.alloc (.cells #[.int .i64 m, .int .i64 m, .int .i64 m] 3); have Y3a := Y3.alloc (.cells #[.int .i64 m, .int .i64 m, .int .i64 m] 3); have b3 := alloc_below w3 (.cells #[.int .i64 m, .int .i64 m, .int .i64 m] 3); have N3 : Blk (w3.alloc (.cells #[.int .i64 m, .int .i64 m, .int .i64 m] 3)) w3.heap.size 3 (rep 3 (mk m)) := blk_new w3 [.int .i64 m, .int .i64 m, .int .i64 m] 3)
        | (at_builtin; refine wpList_append_mk (.tmp 34) (.tmp 38) 24 3 (.int .i64 0) (mk m) 8 Tryd.underlying24 Tryd.info3 rfl (.slice ao n ac) n 3 w3.heap.size (by decide) (by rfl) (by rfl) V3a N3 rfl (by unfold maxLen; omega) (by omega) ?_; intro g4 cap4 w4 Z4 C4 at4 keep4; have V4 := keep4 _ n (by omega) V3a; have X4 := keep4 _ (n + 1) (by omega) X3a; have Y4 := keep4 _ (n + 2) (by omega) Y3a; have C14 : Chg (fun k => (Value.slice ao n ac).ownBlock = some k) w1 w4 := C13.trans ((Chg.of_below b3).trans C4); have hBk4 := hBk1.chg C14 (fun k hk h => hdis1 k h hk); have c0 : w4.cell? ⟨O, 0, none⟩ = some (.slice lo E.length lc) := hBk4.head.cell (i := 0) (by simp) undef; have N4 : Blk (w4.alloc (.cells #[.slice ao n ac, .slice (some ⟨g2, 0, none⟩) (n + 1) cap2, .slice (some ⟨g3, 0, none⟩) (n + 2) cap3, .slice (some ⟨g4, 0, none⟩) (n + 3) cap4] 24)) w4.heap.size 24 [.slice ao n ac, .slice (some ⟨g2, 0, none⟩) (n + 1) cap2, .slice (some ⟨g3, 0, none⟩) (n + 2) cap3, .slice (some ⟨g4, 0, none⟩) (n + 3) cap4] := blk_new w4 [.slice ao n ac, .slice (some ⟨g2, 0, none⟩) (n + 1) cap2, .slice (some ⟨g3, 0, none⟩) (n + 2) cap3, .slice (some ⟨g4, 0, none⟩) (n + 3) cap4] 24; have one4 := slices_one [.slice ao n ac, .slice (some ⟨g2, 0, none⟩) (n + 1) cap2, .slice (some ⟨g3, 0, none⟩) (n + 2) cap3, .slice (some ⟨g4, 0, none⟩) (n + 3) cap4] (by intro v hv; simp at hv; rcases hv with rfl | rfl | rfl | rfl <;> exact ⟨_, _, _, rfl⟩); have own4 := hBk4.ol.alloc (.cells #[.slice ao n ac, .slice (some ⟨g2, 0, none⟩) (n + 1) cap2, .slice (some ⟨g3, 0, none⟩) (n + 2) cap3, .slice (some ⟨g4, 0, none⟩) (n + 3) cap4] 24))
        | (at_builtin; refine wpList_append_new (.tmp 44) (.tmp 49) 23 24 (.slice none 0 0) 24 Tryd.underlying23 Tryd.info24 rfl 0 w4.heap.size _ _ [.slice ao n ac, .slice (some ⟨g2, 0, none⟩) (n + 1) cap2, .slice (some ⟨g3, 0, none⟩) (n + 2) cap3, .slice (some ⟨g4, 0, none⟩) (n + 3) cap4] 4 E.length (by simp) rfl (by decide) (by rfl) (by rfl) own4 N4 one4 (by unfold maxLen; omega) (by omega) (Nat.zero_le _) ?_; intro g5 cap5 w5 hO5 hgr5 hat5 hlt5; obtain ⟨B5, C5, PB1, PB2, PB3, PB6⟩ := bkL hBk4 hO5 hgr5 hat5; have d0 : w5.cell? ⟨O, 0, none⟩ = some (.slice lo E.length lc) := B5.cell (i := 0) (by simp) undef; have f0 := B5.frozen 0; have e1 : (w5.setCell ⟨O, 0, none⟩ (.slice (some ⟨g5, 0, none⟩) (E.length + 4) cap5)).cell? ⟨O, 1, none⟩ = some (.slice mo E.length mc) := PB1.cell (i := 1) (by simp) undef; have own5 := PB3.alloc (.cells #[.int .i64 m, .int .i64 m, .int .i64 m, .int .i64 m] 3); have N5 : Blk ((w5.setCell ⟨O, 0, none⟩ (.slice (some ⟨g5, 0, none⟩) (E.length + 4) cap5)).alloc (.cells #[.int .i64 m, .int .i64 m, .int .i64 m, .int .i64 m] 3)) w5.heap.size 3 (rep 4 (mk m)) := blk_new_set w5 O (.slice (some ⟨g5, 0, none⟩) (E.length + 4) cap5) [.int .i64 m, .int .i64 m, .int .i64 m, .int .i64 m])
        | (at_builtin; refine wpList_append_new (.tmp 57) (.tmp 62) 24 3 (.int .i64 0) 8 Tryd.underlying24 Tryd.info3 rfl 0 w5.heap.size _ _ (rep 4 (mk m)) 4 E.length (by simp) (by simp) (by decide) (by rfl) (by rfl) own5 N5 (rep_one _ _ rfl) (by unfold maxLen; omega) (by omega) (Nat.zero_le _) ?_; intro g6 cap6 w6 hO6 hgr6 hat6 hlt6; have B6 := (PB1.alloc (.cells #[.int .i64 m, .int .i64 m, .int .i64 m, .int .i64 m] 3)).grown hgr6 (own_blk PB3 PB1 (by decide)); have d1 : w6.cell? ⟨O, 1, none⟩ = some (.slice mo E.length mc) := B6.cell (i := 1) (by simp) undef; have f1 := B6.frozen 1))
      go_end0
      refine ⟨rfl, ?_⟩
      rw [← HN.out]
      have s2 := C12.size
      have s3 := C13.size
      have s4 := C14.size
      have at2' : (Value.slice ao n ac).ownBlock = some g2 ∨ w1.heap.size ≤ g2 := at2.imp (fun h => h) (fun h => by rw [alloc_size] at h; omega)
      have at3' : (Value.slice ao n ac).ownBlock = some g3 ∨ w1.heap.size ≤ g3 := at3.imp (fun h => h) (fun h => by rw [alloc_size] at h; omega)
      have at4' : (Value.slice ao n ac).ownBlock = some g4 ∨ w1.heap.size ≤ g4 := at4.imp (fun h => h) (fun h => by rw [alloc_size] at h; omega)
      have qd : ∀ q ∈ ([.slice ao n ac, .slice (some ⟨g2, 0, none⟩) (n + 1) cap2, .slice (some ⟨g3, 0, none⟩) (n + 2) cap3, .slice (some ⟨g4, 0, none⟩) (n + 3) cap4] : List Value), ∀ k, q.ownBlock = some k → (Value.slice ao n ac).ownBlock = some k ∨ w1.heap.size ≤ k := by
        intro q hq k e
        simp only [List.mem_cons, List.not_mem_nil, or_false] at hq
        rcases hq with rfl | rfl | rfl | rfl
        · exact Or.inl e
        · simp [Value.ownBlock] at e; rw [← e]; exact at2'
        · simp [Value.ownBlock] at e; rw [← e]; exact at3'
        · simp [Value.ownBlock] at e; rw [← e]; exact at4'
      have qo : ∀ q ∈ ([.slice ao n ac, .slice (some ⟨g2, 0, none⟩) (n + 1) cap2, .slice (some ⟨g3, 0, none⟩) (n + 2) cap3, .slice (some ⟨g4, 0, none⟩) (n + 3) cap4] : List Value), ∃ n, n ≤ 1000 ∧ Own w4 0 3 q (rep n (mk m)) := by
        intro q hq
        simp only [List.mem_cons, List.not_mem_nil, or_false] at hq
        rcases hq with rfl | rfl | rfl | rfl
        · exact ⟨n, by omega, V4⟩
        · exact ⟨n + 1, by omega, X4⟩
        · exact ⟨n + 2, by omega, Y4⟩
        · exact ⟨n + 3, by omega, Z4⟩
      obtain ⟨R1, R2, R3, R4⟩ := takeEnd hBk4 (m := m) (L := [.slice ao n ac, .slice (some ⟨g2, 0, none⟩) (n + 1) cap2, .slice (some ⟨g3, 0, none⟩) (n + 2) cap3, .slice (some ⟨g4, 0, none⟩) (n + 3) cap4]) (fun q hq => ⟨qo q hq, fun k hk e => by
        rcases qd q hq k e with h | h
        · exact hdis1 k h (Or.inr (Or.inr (Or.inl hk)))
        · have := hF1 k (Or.inr (Or.inr (Or.inl hk))); omega⟩) hO5 hgr5 hat5 hO6 hgr6 hat6
      refine ⟨_, _, _, R1, by simp, ?_, ?_⟩
      · rintro k (h | h | h | h | ⟨e, he, h⟩ | h)
        · exact Or.inl (Or.inl h)
        · simp [Value.ownBlock] at h
          subst h
          rcases R3 with h | h
          · exact Or.inl (Or.inr (Or.inl h))
          · exact Or.inr (Or.inr (by omega))
        · simp [Value.ownBlock] at h
          subst h
          rcases R4 with h | h
          · exact Or.inl (Or.inr (Or.inr (Or.inl h)))
          · exact Or.inr (Or.inr (by omega))
        · exact Or.inl (Or.inr (Or.inr (Or.inr (Or.inl h))))
        · rcases List.mem_append.1 he with he | he
          · exact Or.inl (Or.inr (Or.inr (Or.inr (Or.inr (Or.inl ⟨e, he, h⟩)))))
          · obtain ⟨q, hq, rfl⟩ := List.mem_map.1 he
            rcases qd q hq k h with h | h
            · exact Or.inr (Or.inl h)
            · exact Or.inr (Or.inr (by omega))
        · exact Or.inl (Or.inr (Or.inr (Or.inr (Or.inr (Or.inr h)))))
      · refine ((HC.out.trans C14).mono fun k _ h => Or.inr h).trans (R2.mono fun k _ h => ?_)
        rcases h with h | h | h
        · exact Or.inl (Or.inl h)
        · exact Or.inl (Or.inr (Or.inl h))
        · exact Or.inl (Or.inr (Or.inr (Or.inl h)))
end Go.Proofs.YtlodenfdcckemaaDoor

/-
  The books take a list of lists.
-/

namespace Go.Proofs.YtlodenfdcckemaaDoor
open Go.RowKit

theorem Tryd.info23 : (Tryd.prog.info? 23).map (fun i => (i.zero, i.size, i.bytes)) = some (some (.slice none 0 0), 1, 24) := by kernel_rfl

theorem Chg.trans' {S T : Nat → Prop} {a b c : World} (h : Chg S a b) (k : Chg T b c) (hs : ∀ i, i < a.heap.size → T i → S i) : Chg S a c :=
  ⟨k.os.trans h.os, k.tape.trans h.tape, k.output.trans h.output, Nat.le_trans h.size k.size, fun i hi hn => (k.block i (Nat.lt_of_lt_of_le hi h.size) (fun e => hn (hs i hi e))).trans (h.block i hi hn), fun i o hi ho => k.others i o (h.others i o hi ho) ho⟩

theorem nodup_at {vs : List Value} {i j k : Nat} (h : (vs.filterMap Value.ownBlock).Nodup) (hi : i < vs.length) (hj : j < i) (e : (vs.getD i undef).ownBlock = some k) (e' : (vs.getD j undef).ownBlock = some k) : False := by
  rw [getD_lt _ _ _ hi] at e
  rw [getD_lt _ _ _ (by omega)] at e'
  exact List.pairwise_iff_getElem.1 (List.pairwise_filterMap.1 h) j i (by omega) hi hj k e' k e rfl

/-- Behind the append to the list of lists of lists, and its store. -/
theorem bkO {w4 w5 : World} {O : Nat} {vl vm vo : Value} {E : List (Value × Int)} {D L : List Value} {o : Obj} {g5 c5 l5 : Nat} (hBk : Bk w4 O vl vm vo E D) (hL : ∀ q ∈ L, (∃ n, n ≤ 5000000000 ∧ Own w4 0 24 q (rep n nilV)) ∧ ∀ k, vl.ownBlock = some k → q.ownBlock ≠ some k)
    (hO5 : Own w5 0 23 (.slice (some ⟨g5, 0, none⟩) l5 c5) (D ++ L)) (hgr : (w4.alloc o).grownBy w5 vo.ownBlock) (hat : vo.ownBlock = some g5 ∨ g5 = (w4.alloc o).heap.size) :
    Blk w5 O 27 [vl, vm, vo] ∧ Bk (w5.setCell ⟨O, 2, none⟩ (.slice (some ⟨g5, 0, none⟩) l5 c5)) O vl vm (.slice (some ⟨g5, 0, none⟩) l5 c5) E (D ++ L) ∧ Chg (fun k => k = O ∨ vo.ownBlock = some k) w4 (w5.setCell ⟨O, 2, none⟩ (.slice (some ⟨g5, 0, none⟩) l5 c5)) ∧ (vo.ownBlock = some g5 ∨ w4.heap.size ≤ g5) := by
  have hC4 : Chg (fun k => k = O ∨ vo.ownBlock = some k) w4 w5 := (Chg.of_below (alloc_below w4 o)).trans (Chg.of_grown hgr (fun k e => Or.inr e) (fun k e o' ho => (hBk.oo.alloc o).cells e o' ho))
  have hB5 : Blk w5 O 27 [vl, vm, vo] := (hBk.head.alloc o).grown hgr (own_blk hBk.oo hBk.head (by decide))
  have hgO : g5 ≠ O := fun e => own_blk hO5 hB5 (by decide) (by rw [← e]; rfl)
  have hset : Chg (fun k => k = O) w5 (w5.setCell ⟨O, 2, none⟩ (.slice (some ⟨g5, 0, none⟩) l5 c5)) := (Chg.refl (fun k => k = O) w5).setB O 2 rfl _
  have hC5 : Chg (fun k => k = O ∨ vo.ownBlock = some k) w4 (w5.setCell ⟨O, 2, none⟩ (.slice (some ⟨g5, 0, none⟩) l5 c5)) := hC4.trans (hset.mono fun k _ h => Or.inl h)
  refine ⟨hB5, ⟨hB5.set 2 _, ?_, ?_, hO5.chg hset (fun k e h => hgO (by simp [Value.ownBlock] at e; rw [e, h])), ?_, ?_, ?_, hBk.dm⟩, hC5, hat.imp (fun h => h) (fun h => by rw [alloc_size] at h; omega)⟩
  · refine hBk.ol.chg hC5 ?_
    rintro k e (h | h)
    · exact own_blk hBk.ol hBk.head (by decide) (by rw [e, h])
    · exact own_ne hBk.ol hBk.oo (by decide) e h
  · refine hBk.om.chg hC5 ?_
    rintro k e (h | h)
    · exact own_blk hBk.om hBk.head (by decide) (by rw [e, h])
    · exact own_ne hBk.om hBk.oo (by decide) e h
  · intro e he
    obtain ⟨n, hn, h⟩ := hBk.ents e he
    refine ⟨n, hn, h.chg hC5 ?_⟩
    rintro k e (h' | h')
    · exact own_blk h hBk.head (by decide) (by rw [e, h'])
    · exact own_ne h hBk.oo (by decide) e h'
  · intro d hd
    have hx : ∃ n, n ≤ 5000000000 ∧ Own w4 0 24 d (rep n nilV) := by
      rcases List.mem_append.1 hd with hd | hd
      · exact hBk.outs d hd
      · exact (hL d hd).1
    obtain ⟨n, hn, h⟩ := hx
    refine ⟨n, hn, h.chg hC5 ?_⟩
    rintro k e (h' | h')
    · exact own_blk h hBk.head (by decide) (by rw [e, h'])
    · exact own_ne h hBk.oo (by decide) e h'
  · intro d hd
    rcases List.mem_append.1 hd with hd | hd
    · exact hBk.dl d hd
    · exact (hL d hd).2

set_option maxRecDepth 100000 in
set_option maxHeartbeats 4000000 in
theorem takeLists_any (O : Nat) (vl vm vo v : Value) (E : List (Value × Int)) (D vs : List Value) (cs : List (List Int)) (w : World) (hBk : Bk w O vl vm vo E D) (hE : E.length + 4 * cs.length ≤ 100000000000) (hD : D.length ≤ 90)
    (hL : Own w 0 24 v vs) (hlen : vs.length = cs.length) (hls : ∀ i, i < vs.length → Own w 0 3 (vs.getD i undef) (ints (cs.getD i []))) (hnd : (vs.filterMap Value.ownBlock).Nodup) (hcl : cs.length ≤ 4000000000) (hc : ∀ c ∈ cs, c.length ≤ 900)
    (hdis : ∀ k, (v.ownBlock = some k ∨ ∃ y ∈ vs, y.ownBlock = some k) → ¬ Foot O vl vm vo E D k) :
    Calls Tryd.prog 40 #[.pointer (some ⟨O, 0, none⟩), v] w fun e w' => e = .returned (.tuple #[]) ∧ ∃ vl' vm' vo' E' D', Bk w' O vl' vm' vo' E' D' ∧ E'.length = E.length + 4 * cs.length ∧ D'.length = D.length + 4 ∧
      (∀ k, Foot O vl' vm' vo' E' D' k → Foot O vl vm vo E D k ∨ (v.ownBlock = some k ∨ ∃ y ∈ vs, y.ownBlock = some k) ∨ w.heap.size ≤ k) ∧ Chg (fun k => Foot O vl vm vo E D k ∨ v.ownBlock = some k ∨ ∃ y ∈ vs, y.ownBlock = some k) w w' := by
  obtain ⟨ao, ac, hv⟩ := hL.shape
  rw [hlen] at hv
  subst hv
  obtain ⟨oo, oc, hvo⟩ := hBk.oo.shape
  subst hvo
  have nd : ∀ i j, i < vs.length → j < i → ∀ k, (vs.getD i undef).ownBlock = some k → (vs.getD j undef).ownBlock ≠ some k := by
    intro i j hi hj k e e'
    exact nodup_at hnd hi hj e e'
  clear hnd
  have mem : ∀ i, i < vs.length → ∀ k, (vs.getD i undef).ownBlock = some k → ∃ y ∈ vs, y.ownBlock = some k := fun i hi k e => ⟨vs.getD i undef, by rw [getD_lt _ _ _ hi]; exact List.getElem_mem hi, e⟩
  have HV : Hid (∀ k, (Value.slice ao cs.length ac).ownBlock = some k → k < w.heap.size ∧ ∀ i, i < vs.length → (vs.getD i undef).ownBlock ≠ some k) := fun k e => ⟨(hL.lt e).2, fun i hi e' => own_ne hL (hls i hi) (by decide) e e'⟩
  go_enter Tryd.func40, Tryd.ntmps40
  go_wp2
  go_loopw [4] (fun i wr => ∃ (k : Nat) (vl1 vm1 : Value) (E1 : List (Value × Int)), k ≤ cs.length ∧ i = .int .i64 k ∧ Bk wr O vl1 vm1 (.slice oo D.length oc) E1 D ∧ E1.length = E.length + 4 * k ∧ Own wr 0 24 (.slice ao cs.length ac) vs ∧
      (∀ j, k ≤ j → j < vs.length → Own wr 0 3 (vs.getD j undef) (ints (cs.getD j []))) ∧ (∀ q, Foot O vl1 vm1 (.slice oo D.length oc) E1 D q → Foot O vl vm (.slice oo D.length oc) E D q ∨ (∃ j, j < k ∧ (vs.getD j undef).ownBlock = some q) ∨ w.heap.size ≤ q) ∧
      Chg (fun q => Foot O vl vm (.slice oo D.length oc) E D q ∨ ∃ y ∈ vs, y.ownBlock = some q) w wr) (fun i _ => cs.length - (intOf i).toNat)
  case atStart => exact ⟨0, vl, vm, E, by omega, rfl, hBk, by omega, hL, fun j _ hj => hls j hj, fun q h => Or.inl h, Chg.refl _ _⟩
  case round =>
    obtain ⟨k, vl1, vm1, E1, hk, rfl, hBk1, hE1, hL1, hls1, hF1, hC1⟩ := hrel
    by_cases hlt : k < cs.length
    · obtain ⟨g, cap, hg, hgl, hcells⟩ := hL1.at (by omega)
      have hck := hcells k (by omega)
      simp only [Value.slice.injEq] at hg
      obtain ⟨rfl, -, rfl⟩ := hg
      have hov := hls1 k (by omega) (by omega)
      have hcb : (cs.getD k []).length ≤ 900 := by rw [getD_lt _ _ _ hlt]; exact hc _ (List.getElem_mem hlt)
      have hdk : ∀ q, (vs.getD k undef).ownBlock = some q → ¬ Foot O vl1 vm1 (.slice oo D.length oc) E1 D q := by
        intro q e hf
        rcases hF1 q hf with h | ⟨j, hj, h⟩ | h
        · exact hdis q (Or.inr (mem k (by omega) q e)) h
        · exact nd k j (by omega) hj q e h
        · have := ((hls k (by omega)).lt e).2
          omega
      have HX : Hid (∀ e w', (e = Ending.returned (.tuple #[]) ∧ ∃ vl' vm' E', Bk w' O vl' vm' (.slice oo D.length oc) E' D ∧ E'.length = E1.length + 4 ∧
          (∀ q, Foot O vl' vm' (.slice oo D.length oc) E' D q → Foot O vl1 vm1 (.slice oo D.length oc) E1 D q ∨ (vs.getD k undef).ownBlock = some q ∨ wr.heap.size ≤ q) ∧ Chg (fun q => Foot O vl1 vm1 (.slice oo D.length oc) E1 D q ∨ (vs.getD k undef).ownBlock = some q) wr w') →
          e = Ending.returned (.tuple #[]) ∧ ∃ (vl2 vm2 : Value) (E2 : List (Value × Int)), Bk w' O vl2 vm2 (.slice oo D.length oc) E2 D ∧ E2.length = E.length + 4 * (k + 1) ∧ Own w' 0 24 (.slice (some ⟨g, 0, none⟩) cs.length ac) vs ∧
      (∀ j, k + 1 ≤ j → j < vs.length → Own w' 0 3 (vs.getD j undef) (ints (cs.getD j []))) ∧ (∀ q, Foot O vl2 vm2 (.slice oo D.length oc) E2 D q → Foot O vl vm (.slice oo D.length oc) E D q ∨ (∃ j, j < k + 1 ∧ (vs.getD j undef).ownBlock = some q) ∨ w.heap.size ≤ q) ∧
      Chg (fun q => Foot O vl vm (.slice oo D.length oc) E D q ∨ ∃ y ∈ vs, y.ownBlock = some q) w w') := by
        rintro e w' ⟨rfl, vl2, vm2, E2, q1, q2, q3, q4⟩
        have hs1 := hC1.size
        refine ⟨rfl, vl2, vm2, E2, q1, by omega, hL1.chg q4 ?_, ?_, ?_, hC1.trans' q4 ?_⟩
        · rintro q e (h | h)
          · rcases hF1 q h with h | ⟨j, hj, h⟩ | h
            · exact hdis q (Or.inl e) h
            · exact (HV.out q e).2 j (by omega) h
            · have := (HV.out q e).1
              omega
          · exact (HV.out q e).2 k (by omega) h
        · intro j hj hjl
          refine (hls1 j (by omega) hjl).chg q4 ?_
          rintro q e (h | h)
          · rcases hF1 q h with h | ⟨i, hi, h⟩ | h
            · exact hdis q (Or.inr (mem j hjl q e)) h
            · exact nd j i hjl (by omega) q e h
            · have := ((hls j hjl).lt e).2
              omega
          · exact nd j k hjl (by omega) q e h
        · intro q h
          rcases q3 q h with h | h | h
          · rcases hF1 q h with h | ⟨i, hi, h⟩ | h
            · exact Or.inl h
            · exact Or.inr (Or.inl ⟨i, by omega, h⟩)
            · exact Or.inr (Or.inr h)
          · exact Or.inr (Or.inl ⟨k, by omega, h⟩)
          · exact Or.inr (Or.inr (by omega))
        · intro q hq h
          rcases h with h | h
          · rcases hF1 q h with h | ⟨i, hi, h⟩ | h
            · exact Or.inl h
            · exact Or.inr (mem i (by omega) q h)
            · omega
          · exact Or.inr (mem k (by omega) q h)
      generalize vs.getD k undef = vk at *
      clear hcells
      go_wp2_with (go_at_call 17; refine (take_any O vl1 vm1 (.slice oo D.length oc) vk E1 D (cs.getD k []) _ hBk1 (by omega) hov hcb hdk).mono ?_; intro e w' hq; obtain ⟨rfl, vl2, vm2, E2, q1, q2, q3, q4, q5, q6⟩ := HX.out e w' hq; clear hq)
      go_roundw
      case rel => exact ⟨k + 1, vl2, vm2, E2, by omega, by go_num, q1, q2, q3, q4, q5, q6⟩
      case measure => simp [intOf]; omega
    · obtain rfl : k = cs.length := by omega
      have hdV : ∀ q, (Value.slice ao cs.length ac).ownBlock = some q → ¬ Foot O vl1 vm1 (.slice oo D.length oc) E1 D q := by
        intro q e hf
        rcases hF1 q hf with h | ⟨j, hj, h⟩ | h
        · exact hdis q (Or.inl e) h
        · exact (HV.out q e).2 j (by omega) h
        · have := (HV.out q e).1
          omega
      have HF : Hid (∀ q, Foot O vl1 vm1 (.slice oo D.length oc) E1 D q → Foot O vl vm (.slice oo D.length oc) E D q ∨ (∃ y ∈ vs, y.ownBlock = some q) ∨ w.heap.size ≤ q) := by
        intro q hf
        rcases hF1 q hf with h | ⟨j, hj, h⟩ | h
        · exact Or.inl h
        · exact Or.inr (Or.inl (mem j (by omega) q h))
        · exact Or.inr (Or.inr h)
      have HC1 : Hid (Chg (fun q => Foot O vl vm (.slice oo D.length oc) E D q ∨ ∃ y ∈ vs, y.ownBlock = some q) w wr) := hC1
      clear hls1 hF1 hC1 hls nd hL hBk hdis mem HV
      go_wp2
      obtain ⟨w2, rfl⟩ : ∃ x, x = wr := ⟨wr, rfl⟩
      go_loopw [5] (fun i wr => ∃ (k : Nat), k ≤ cs.length ∧ i = .int .i64 k ∧ Own wr 0 24 (.slice ao cs.length ac) (over vs nilV k) ∧ Chg (fun q => (Value.slice ao cs.length ac).ownBlock = some q) w2 wr) (fun i _ => cs.length - (intOf i).toNat)
      case atStart => exact ⟨0, by omega, rfl, by rw [over_zero]; exact hL1, Chg.refl _ _⟩
      case round =>
        clear hk hlt
        obtain ⟨k, hk, rfl, hOv, hC2⟩ := hrel
        by_cases hlt : k < cs.length
        · have hlen2 : (over vs nilV k).length = cs.length := by rw [over_length _ _ _ (by omega)]; exact hlen
          obtain ⟨g, cap, hg, hgl, hcells⟩ := hOv.at (by omega)
          have hcell := hcells k (by omega)
          simp only [Value.slice.injEq] at hg
          obtain ⟨rfl, -, rfl⟩ := hg
          have hset := hOv.put (i := k) (by omega) nilV
          rw [over_set _ _ _ (by omega)] at hset
          have hfr : wr.frozen? ⟨g, k, none⟩ = false := by
            rcases hOv with ⟨h, _⟩ | ⟨g', cap', h, _, _, hr⟩
            · simp at h
            · simp only [Value.slice.injEq, Option.some.injEq, Addr.mk.injEq, and_true] at h
              obtain ⟨rfl, -, rfl⟩ := h
              exact hr.frozen k
          generalize (over vs nilV k).getD k undef = old at *
          clear hcells
          go_wp2
          go_roundw
          case rel => exact ⟨k + 1, by omega, by go_num, hset, hC2.setB g k rfl _⟩
          case measure => simp [intOf]; omega
        · obtain rfl : k = cs.length := by omega
          have hOv1 : Own wr 0 24 (.slice ao cs.length ac) (rep cs.length nilV) := by
            have := over_end vs nilV
            rw [hlen] at this
            rw [this] at hOv
            exact hOv
          clear hOv
          have hBk2 := hBk1.chg hC2 (fun k hk h => hdV k h hk)
          obtain ⟨n, hn⟩ : ∃ n, n = cs.length := ⟨_, rfl⟩
          rw [← hn] at hOv1 hcl hC2 hdV ⊢
          obtain ⟨w1, rfl⟩ : ∃ x, x = wr := ⟨wr, rfl⟩
          have HN : Hid (n = cs.length) := hn
          have hF2 : ∀ k, Foot O vl1 vm1 (.slice oo D.length oc) E1 D k → k < w2.heap.size := fun k hk => hBk1.foot_lt hk
          have hs2 := hC2.size
          have HC2 : Hid (Chg (fun k => (Value.slice ao n ac).ownBlock = some k) w2 w1) := hC2
          have hBl := hBk2.head.lt
          clear hn hC2 hBk1 hL1 hk hlt
          have b1 := alloc_below w1 (.cells #[.slice none 0 0] 24)
          have N1 : Blk (w1.alloc (.cells #[.slice none 0 0] 24)) w1.heap.size 24 (rep 1 nilV) := blk_new w1 [.slice none 0 0] 24
          have V1 := hOv1.alloc (.cells #[.slice none 0 0] 24)
          go_wp2_with (first
            | (at_builtin; refine wpList_append_mk (.tmp 30) (.tmp 31) 23 24 (.slice none 0 0) nilV 24 Tryd.underlying23 Tryd.info24 rfl (.slice ao n ac) n 1 w1.heap.size (by decide) (by rfl) (by rfl) V1 N1 rfl (by unfold maxLen; omega) (by omega) ?_; intro g2 cap2 w3 X2 C2 at2 keep2; have V2 := keep2 _ n (by omega) V1; have C12 : Chg (fun k => (Value.slice ao n ac).ownBlock = some k) w1 w3 := (Chg.of_below b1).trans C2; have V2a := V2.alloc (.cells #[.slice none 0 0, .slice none 0 0] 24); have X2a := X2.alloc (.cells #[.slice none 0 0, .slice none 0 0] 24); have b2 := alloc_below w3 (.cells #[.slice none 0 0, .slice none 0 0] 24); have N2 : Blk (w3.alloc (.cells #[.slice none 0 0, .slice none 0 0] 24)) w3.heap.size 24 (rep 2 nilV) := blk_new w3 [.slice none 0 0, .slice none 0 0] 24)
            | (at_builtin; refine wpList_append_mk (.tmp 33) (.tmp 34) 23 24 (.slice none 0 0) nilV 24 Tryd.underlying23 Tryd.info24 rfl (.slice ao n ac) n 2 w3.heap.size (by decide) (by rfl) (by rfl) V2a N2 rfl (by unfold maxLen; omega) (by omega) ?_; intro g3 cap3 w4 Y3 C3 at3 keep3; have V3 := keep3 _ n (by omega) V2a; have X3 := keep3 _ (n + 1) (by omega) X2a; have C13 : Chg (fun k => (Value.slice ao n ac).ownBlock = some k) w1 w4 := C12.trans ((Chg.of_below b2).trans C3); have V3a := V3.alloc (.cells #[.slice none 0 0, .slice none 0 0, .slice none 0 0] 24); have X3a := X3.alloc (.cells #[.slice none 0 0, .slice none 0 0, .slice none 0 0] 24); have Y3a := Y3.alloc (.cells #[.slice none 0 0, .slice none 0 0, .slice none 0 0] 24); have b3 := alloc_below w4 (.cells #[.slice none 0 0, .slice none 0 0, .slice none 0 0] 24); have N3 : Blk (w4.alloc (.cells #[.slice none 0 0, .slice none 0 0, .slice none 0 0] 24)) w4.heap.size 24 (rep 3 nilV) := blk_new w4 [.slice none 0 0, .slice none 0 0, .slice none 0 0] 24)
            | (at_builtin; refine wpList_append_mk (.tmp 36) (.tmp 37) 23 24 (.slice none 0 0) nilV 24 Tryd.underlying23 Tryd.info24 rfl (.slice ao n ac) n 3 w4.heap.size (by decide) (by rfl) (by rfl) V3a N3 rfl (by unfold maxLen; omega) (by omega) ?_; intro g4 cap4 w5 Z4 C4 at4 keep4; have V4 := keep4 _ n (by omega) V3a; have X4 := keep4 _ (n + 1) (by omega) X3a; have Y4 := keep4 _ (n + 2) (by omega) Y3a; have C14 : Chg (fun k => (Value.slice ao n ac).ownBlock = some k) w1 w5 := C13.trans ((Chg.of_below b3).trans C4); have hBk4 := hBk2.chg C14 (fun k hk h => hdV k h hk); have c0 : w5.cell? ⟨O, 2, none⟩ = some (.slice oo D.length oc) := hBk4.head.cell (i := 2) (by simp) undef; have N4 : Blk (w5.alloc (.cells #[.slice ao n ac, .slice (some ⟨g2, 0, none⟩) (n + 1) cap2, .slice (some ⟨g3, 0, none⟩) (n + 2) cap3, .slice (some ⟨g4, 0, none⟩) (n + 3) cap4] 23)) w5.heap.size 23 [.slice ao n ac, .slice (some ⟨g2, 0, none⟩) (n + 1) cap2, .slice (some ⟨g3, 0, none⟩) (n + 2) cap3, .slice (some ⟨g4, 0, none⟩) (n + 3) cap4] := blk_new w5 [.slice ao n ac, .slice (some ⟨g2, 0, none⟩) (n + 1) cap2, .slice (some ⟨g3, 0, none⟩) (n + 2) cap3, .slice (some ⟨g4, 0, none⟩) (n + 3) cap4] 23; have one4 := slices_one [.slice ao n ac, .slice (some ⟨g2, 0, none⟩) (n + 1) cap2, .slice (some ⟨g3, 0, none⟩) (n + 2) cap3, .slice (some ⟨g4, 0, none⟩) (n + 3) cap4] (by intro v hv; simp at hv; rcases hv with rfl | rfl | rfl | rfl <;> exact ⟨_, _, _, rfl⟩); have own4 := hBk4.oo.alloc (.cells #[.slice ao n ac, .slice (some ⟨g2, 0, none⟩) (n + 1) cap2, .slice (some ⟨g3, 0, none⟩) (n + 2) cap3, .slice (some ⟨g4, 0, none⟩) (n + 3) cap4] 23))
            | (at_builtin; refine wpList_append_new (.tmp 43) (.tmp 48) 25 23 (.slice none 0 0) 24 Tryd.underlying25 Tryd.info23 rfl 0 w5.heap.size _ _ [.slice ao n ac, .slice (some ⟨g2, 0, none⟩) (n + 1) cap2, .slice (some ⟨g3, 0, none⟩) (n + 2) cap3, .slice (some ⟨g4, 0, none⟩) (n + 3) cap4] 4 D.length rfl rfl (by decide) (by rfl) (by rfl) own4 N4 one4 (by unfold maxLen; omega) (by omega) (Nat.zero_le _) ?_; intro g5 cap5 w6 hO5 hgr5 hat5 hlt5; have B5 : Blk w6 O 27 _ := (hBk4.head.alloc _).grown hgr5 (own_blk hBk4.oo hBk4.head (by decide)); have d2 : w6.cell? ⟨O, 2, none⟩ = some (.slice oo D.length oc) := B5.cell (i := 2) (by simp) undef; have f2 := B5.frozen 2))
          go_end0
          refine ⟨rfl, ?_⟩
          rw [← HN.out]
          have s2 := C12.size
          have s3 := C13.size
          have s4 := C14.size
          have s1 := HC1.out.size
          have at2' : (Value.slice ao n ac).ownBlock = some g2 ∨ w1.heap.size ≤ g2 := at2.imp (fun h => h) (fun h => by rw [alloc_size] at h; omega)
          have at3' : (Value.slice ao n ac).ownBlock = some g3 ∨ w1.heap.size ≤ g3 := at3.imp (fun h => h) (fun h => by rw [alloc_size] at h; omega)
          have at4' : (Value.slice ao n ac).ownBlock = some g4 ∨ w1.heap.size ≤ g4 := at4.imp (fun h => h) (fun h => by rw [alloc_size] at h; omega)
          have qd : ∀ q ∈ ([.slice ao n ac, .slice (some ⟨g2, 0, none⟩) (n + 1) cap2, .slice (some ⟨g3, 0, none⟩) (n + 2) cap3, .slice (some ⟨g4, 0, none⟩) (n + 3) cap4] : List Value), ∀ k, q.ownBlock = some k → (Value.slice ao n ac).ownBlock = some k ∨ w1.heap.size ≤ k := by
            intro q hq k e
            simp only [List.mem_cons, List.not_mem_nil, or_false] at hq
            rcases hq with rfl | rfl | rfl | rfl
            · exact Or.inl e
            · simp [Value.ownBlock] at e; rw [← e]; exact at2'
            · simp [Value.ownBlock] at e; rw [← e]; exact at3'
            · simp [Value.ownBlock] at e; rw [← e]; exact at4'
          have qo : ∀ q ∈ ([.slice ao n ac, .slice (some ⟨g2, 0, none⟩) (n + 1) cap2, .slice (some ⟨g3, 0, none⟩) (n + 2) cap3, .slice (some ⟨g4, 0, none⟩) (n + 3) cap4] : List Value), ∃ n, n ≤ 5000000000 ∧ Own w5 0 24 q (rep n nilV) := by
            intro q hq
            simp only [List.mem_cons, List.not_mem_nil, or_false] at hq
            rcases hq with rfl | rfl | rfl | rfl
            · exact ⟨n, by omega, V4⟩
            · exact ⟨n + 1, by omega, X4⟩
            · exact ⟨n + 2, by omega, Y4⟩
            · exact ⟨n + 3, by omega, Z4⟩
          obtain ⟨-, R1, R2, R3⟩ := bkO hBk4 (L := [.slice ao n ac, .slice (some ⟨g2, 0, none⟩) (n + 1) cap2, .slice (some ⟨g3, 0, none⟩) (n + 2) cap3, .slice (some ⟨g4, 0, none⟩) (n + 3) cap4]) (fun q hq => ⟨qo q hq, fun k hk e => by
            rcases qd q hq k e with h | h
            · exact hdV k h (Or.inr (Or.inl hk))
            · have := hF2 k (Or.inr (Or.inl hk)); omega⟩) hO5 hgr5 hat5
          refine ⟨_, _, _, _, _, R1, by rw [HN.out]; exact hE1, by simp, ?_, ?_⟩
          · have up : ∀ q, Foot O vl1 vm1 (.slice oo D.length oc) E1 D q → Foot O vl vm (.slice oo D.length oc) E D q ∨ ((Value.slice ao n ac).ownBlock = some q ∨ ∃ y ∈ vs, y.ownBlock = some q) ∨ w.heap.size ≤ q := by
              intro q h
              rcases HF.out q h with h | h | h
              · exact Or.inl h
              · exact Or.inr (Or.inl (Or.inr h))
              · exact Or.inr (Or.inr h)
            rintro k (h | h | h | h | h | ⟨d, hd, h⟩)
            · exact up k (Or.inl h)
            · exact up k (Or.inr (Or.inl h))
            · exact up k (Or.inr (Or.inr (Or.inl h)))
            · simp [Value.ownBlock] at h
              subst h
              rcases R3 with h | h
              · exact up _ (Or.inr (Or.inr (Or.inr (Or.inl h))))
              · exact Or.inr (Or.inr (by omega))
            · exact up k (Or.inr (Or.inr (Or.inr (Or.inr (Or.inl h)))))
            · rcases List.mem_append.1 hd with hd | hd
              · exact up k (Or.inr (Or.inr (Or.inr (Or.inr (Or.inr ⟨d, hd, h⟩)))))
              · rcases qd d hd k h with h | h
                · exact Or.inr (Or.inl (Or.inl h))
                · exact Or.inr (Or.inr (by omega))
          · refine (HC1.out.mono fun k _ h => h.elim Or.inl (fun h => Or.inr (Or.inr h))).trans' ((HC2.out.trans C14).mono (T := fun k => (Value.slice ao n ac).ownBlock = some k ∨ (k = O ∨ (Value.slice oo D.length oc).ownBlock = some k)) (fun k _ h => Or.inl h) |>.trans (R2.mono fun k _ h => Or.inr h)) ?_
            rintro k hk (h | h | h)
            · exact Or.inr (Or.inl h)
            · exact Or.inl (Or.inl h)
            · exact Or.inl (Or.inr (Or.inr (Or.inr (Or.inl h))))
end Go.Proofs.YtlodenfdcckemaaDoor

/-
  The books' look at what was kept.
-/

namespace Go.Proofs.YtlodenfdcckemaaDoor
open Go.RowKit

set_option maxHeartbeats 2000000 in
theorem booksKept_any (O : Nat) (vl vm vo : Value) (E : List (Value × Int)) (D : List Value) (w : World) (hBk : Bk w O vl vm vo E D) (hE : E.length ≤ 100000000000) (hD : D.length ≤ 100) :
    Calls Tryd.prog 20 #[.pointer (some ⟨O, 0, none⟩)] w fun e w' => e = .returned (.bool true) ∧ Below w.heap.size w w' := by
  obtain ⟨lo, lc, hvl⟩ := hBk.ol.shape
  obtain ⟨mo, mc, hvm⟩ := hBk.om.shape
  obtain ⟨oo, oc, hvo⟩ := hBk.oo.shape
  rw [List.length_map] at hvl hvm
  subst hvl
  subst hvm
  subst hvo
  have hOl := hBk.head.lt
  have hc0 : w.cell? ⟨O, 0, none⟩ = some (.slice lo E.length lc) := hBk.head.cell (i := 0) (by simp) undef
  have hc1 : w.cell? ⟨O, 1, none⟩ = some (.slice mo E.length mc) := hBk.head.cell (i := 1) (by simp) undef
  have hc2 : w.cell? ⟨O, 2, none⟩ = some (.slice oo D.length oc) := hBk.head.cell (i := 2) (by simp) undef
  go_enter Tryd.func20, Tryd.ntmps20
  go_wp2
  go_loopw [3] (fun i wr => ∃ (k : Nat), k ≤ E.length ∧ i = .int .i64 k ∧ Below w.heap.size w wr) (fun i _ => E.length - (intOf i).toNat)
  case atStart => exact ⟨0, by omega, rfl, Below.refl _ _⟩
  case round =>
    obtain ⟨k, hk, rfl, hb⟩ := hrel
    have d0 := (hb.cell (p := ⟨O, 0, none⟩) hOl).trans hc0
    by_cases hlt : k < E.length
    · obtain ⟨g, cap, hv, hgl, hcl⟩ := hBk.ol.at (by rw [List.length_map]; omega)
      obtain ⟨g', cap', hv', hgl', hcl'⟩ := hBk.om.at (by rw [List.length_map]; omega)
      have hck := hcl k (by rw [List.length_map]; exact hlt)
      have hck' := hcl' k (by rw [List.length_map]; exact hlt)
      rw [getD_lt _ _ _ (by rw [List.length_map]; exact hlt), List.getElem_map] at hck hck'
      obtain ⟨n, hn, hel⟩ := hBk.ents E[k] (List.getElem_mem hlt)
      obtain ⟨ao, c, e1⟩ := hel.shape
      rw [List.length_replicate] at e1
      have hat := hel.at
      rw [e1] at hck hat
      rw [List.length_replicate] at hat
      simp only [Value.slice.injEq] at hv hv'
      obtain ⟨rfl, -, rfl⟩ := hv
      obtain ⟨rfl, -, rfl⟩ := hv'
      generalize E[k].2 = mk at *
      clear hcl hcl' e1 hel
      have ek := (hb.cell (p := ⟨g, k, none⟩) hgl).trans hck
      go_wp2
      clear d0 ek
      obtain ⟨w3, rfl⟩ : ∃ x, x = wr := ⟨wr, rfl⟩
      go_loopw [4] (fun i wr => ∃ (j : Nat), j ≤ n ∧ i = .int .i64 j ∧ Below w.heap.size w wr) (fun i _ => n - (intOf i).toNat)
      case atStart => exact ⟨0, by omega, rfl, hb⟩
      case round =>
        clear hb
        obtain ⟨j, hj, rfl, hb⟩ := hrel
        have d0 := (hb.cell (p := ⟨O, 0, none⟩) hOl).trans hc0
        have d1 := (hb.cell (p := ⟨O, 1, none⟩) hOl).trans hc1
        have ek := (hb.cell (p := ⟨g, k, none⟩) hgl).trans hck
        have ek' := (hb.cell (p := ⟨g', k, none⟩) hgl').trans hck'
        by_cases hjl : j < n
        · obtain ⟨gg, cc, hgg, hgl3, hcells⟩ := hat (by omega)
          simp only [Value.slice.injEq] at hgg
          obtain ⟨rfl, -, rfl⟩ := hgg
          have hcj := hcells j hjl
          rw [rep_get _ _ _ hjl] at hcj
          have ej := (hb.cell (p := ⟨gg, j, none⟩) hgl3).trans hcj
          have hne : (mk != mk) = false := by simp
          clear hcells hat hcj
          go_wp2
          go_quiet (fail)
          go_wp2
          go_roundw
          case rel => exact ⟨j + 1, by omega, by go_num, below_drewN hb _⟩
          case measure => simp [intOf]; omega
        · go_wp2
          go_roundw
          case rel => exact ⟨k + 1, by omega, by go_num, hb⟩
          case measure => simp [intOf]; omega
    · go_wp2
      clear d0
      obtain ⟨w2, rfl⟩ : ∃ x, x = wr := ⟨wr, rfl⟩
      go_loopw [5] (fun i wr => ∃ (k : Nat), k ≤ D.length ∧ i = .int .i64 k ∧ Below w.heap.size w wr) (fun i _ => D.length - (intOf i).toNat)
      case atStart => exact ⟨0, by omega, rfl, hb⟩
      case round =>
        clear hb hk hlt
        obtain ⟨k, hk, rfl, hb⟩ := hrel
        have d2 := (hb.cell (p := ⟨O, 2, none⟩) hOl).trans hc2
        by_cases hlt : k < D.length
        · obtain ⟨g, cap, hv, hgl, hcl⟩ := hBk.oo.at (by omega)
          have hck := hcl k hlt
          rw [getD_lt _ _ _ hlt] at hck
          obtain ⟨n, hn, hel⟩ := hBk.outs D[k] (List.getElem_mem hlt)
          obtain ⟨ao, c, e1⟩ := hel.shape
          rw [List.length_replicate] at e1
          have hat := hel.at
          rw [e1] at hck hat
          rw [List.length_replicate] at hat
          simp only [Value.slice.injEq] at hv
          obtain ⟨rfl, -, rfl⟩ := hv
          clear hcl e1 hel
          have ek := (hb.cell (p := ⟨g, k, none⟩) hgl).trans hck
          go_wp2
          clear d2 ek
          obtain ⟨w4, rfl⟩ : ∃ x, x = wr := ⟨wr, rfl⟩
          go_loopw [6] (fun i wr => ∃ (j : Nat), j ≤ n ∧ i = .int .i64 j ∧ Below w.heap.size w wr) (fun i _ => n - (intOf i).toNat)
          case atStart => exact ⟨0, by omega, rfl, hb⟩
          case round =>
            clear hb
            obtain ⟨j, hj, rfl, hb⟩ := hrel
            have d2 := (hb.cell (p := ⟨O, 2, none⟩) hOl).trans hc2
            have ek := (hb.cell (p := ⟨g, k, none⟩) hgl).trans hck
            by_cases hjl : j < n
            · obtain ⟨gg, cc, hgg, hgl3, hcells⟩ := hat (by omega)
              simp only [Value.slice.injEq] at hgg
              obtain ⟨rfl, -, rfl⟩ := hgg
              have hcj := hcells j hjl
              rw [rep_get _ _ _ hjl] at hcj
              have ej := (hb.cell (p := ⟨gg, j, none⟩) hgl3).trans hcj
              clear hcells hat hcj
              go_wp2
              go_roundw
              case rel => exact ⟨j + 1, by omega, by go_num, hb⟩
              case measure => simp [intOf]; omega
            · go_wp2
              go_roundw
              case rel => exact ⟨k + 1, by omega, by go_num, hb⟩
              case measure => simp [intOf]; omega
        · go_wp2
          go_ret
          exact ⟨rfl, hb⟩
end Go.Proofs.YtlodenfdcckemaaDoor

/-
  The walk of the law's right.
-/

namespace Go.Proofs.YtlodenfdcckemaaDoor
open Go.RowKit

theorem blk_keeps {w w' : World} {S : Nat → Prop} {q B : Nat} {t : TypeId} {L : List Value} (h : Blk w q t L) (hc : Chg S w w') (hS : ∀ k, S k → k < B ∨ w.heap.size ≤ k) (hq : B ≤ q) : Blk w' q t L := h.chg hc (fun e => by have := h.lt; rcases hS q e with h1 | h1 <;> omega)

set_option maxRecDepth 100000 in
set_option maxHeartbeats 2000000 in
theorem lright_any (n : Nat) (ao : Option Addr) (cap : Nat) (cs : List (List Int)) (g N : Nat) (en : End) (vm vp : Value) (vs : List Value) (O : Nat) (vl vmm vo : Value) (E : List (Value × Int)) (D : List Value) (w : World) (hc : ListsAt w N ao cs) (hH : Handed w N g cs) (hF : Fits cs) (hg : Good n cs) (hN : N ≤ w.heap.size) (hok : EndOk n cs en) (ha : AnsAt w N (ansOf en).2.1 (ansOf en).2.2 vm vp vs)
    (hvv : ∀ y ∈ vs, ∀ k, vm.ownBlock = some k → y.ownBlock ≠ some k) (hBk : Bk w O vl vmm vo E D) (hft : ∀ k, Foot O vl vmm vo E D k → N ≤ k) (hdis : ∀ k, (vm.ownBlock = some k ∨ vp.ownBlock = some k ∨ ∃ y ∈ vs, y.ownBlock = some k) → ¬ Foot O vl vmm vo E D k) (hE : E.length ≤ 40000000000) (hD : D.length ≤ 80) :
    Calls Tryd.prog 23 #[fm n ao cap cs, .agg #[.int .i64 n, .slice (some ⟨g, 0, none⟩) cs.length (cs.length + 4)], .agg #[.bool (ansOf en).1, vm, vp], .pointer (some ⟨O, 0, none⟩)] w fun e w' => e = .returned (.bool true) ∧ ∃ vl' vm' vo' E' D', Bk w' O vl' vm' vo' E' D' ∧ E'.length ≤ E.length + 4 + 4 * (ansOf en).2.2.length ∧ D'.length = D.length + 4 ∧ (∀ k, Foot O vl' vm' vo' E' D' k → N ≤ k) ∧ Below N w w' ∧ Chg (fun k => Foot O vl vmm vo E D k ∨ vm.ownBlock = some k ∨ vp.ownBlock = some k ∨ ∃ y ∈ vs, y.ownBlock = some k) w w' := by
  obtain ⟨z1, z2, z3⟩ := ans_few hg.vars hok
  have cR := fun W hcW haW => rright_any n ao cap cs en vm vp vs N W hcW hg hok haW
  generalize (ansOf en).1 = s at *
  generalize (ansOf en).2.1 = zs at *
  generalize (ansOf en).2.2 = ps at *
  obtain ⟨pa, pc, hvp, -, -⟩ := ha.proof.lists
  obtain ⟨ma, mc, hvm⟩ := ha.model.shape
  rw [List.length_map] at hvm
  subst hvp
  subst hvm
  have hb3 : Below w.heap.size w (((w.alloc (.cells #[.int .i64 n, .slice ao cs.length cap] 31)).alloc (.cells #[.int .i64 n, .slice (some ⟨g, 0, none⟩) cs.length (cs.length + 4)] 31)).alloc (.cells #[.bool s, .slice ma zs.length mc, .slice pa ps.length pc] 45)) := (((Below.refl _ _).alloc (Nat.le_refl _) _).alloc (by simp) _).alloc (by simp; omega) _
  have B0 := ((blk_new w [.int .i64 n, .slice ao cs.length cap] 31).alloc (.cells #[.int .i64 n, .slice (some ⟨g, 0, none⟩) cs.length (cs.length + 4)] 31)).alloc (.cells #[.bool s, .slice ma zs.length mc, .slice pa ps.length pc] 45)
  have B1 := (blk_new (w.alloc (.cells #[.int .i64 n, .slice ao cs.length cap] 31)) [.int .i64 n, .slice (some ⟨g, 0, none⟩) cs.length (cs.length + 4)] 31).alloc (.cells #[.bool s, .slice ma zs.length mc, .slice pa ps.length pc] 45)
  have B2 := blk_new ((w.alloc (.cells #[.int .i64 n, .slice ao cs.length cap] 31)).alloc (.cells #[.int .i64 n, .slice (some ⟨g, 0, none⟩) cs.length (cs.length + 4)] 31)) [.bool s, .slice ma zs.length mc, .slice pa ps.length pc] 45
  rw [World.size_alloc] at B1
  rw [World.size_alloc, World.size_alloc] at B2
  dsimp only [List.toArray] at B0 B1 B2
  unfold fm
  go_enter Tryd.func23, Tryd.ntmps23
  go_wp2_with fail
  generalize ((w.alloc (.cells #[.int .i64 n, .slice ao cs.length cap] 31)).alloc (.cells #[.int .i64 n, .slice (some ⟨g, 0, none⟩) cs.length (cs.length + 4)] 31)).alloc (.cells #[.bool s, .slice ma zs.length mc, .slice pa ps.length pc] 45) = W0 at *
  have hB20 := B2.lt
  refine (cR W0 ((hc.below (hb3.mono hN) (Nat.le_refl _)).mono (Nat.le_trans hN hb3.size)) (ha.below' hb3)).mono ?_
  rintro e w1 ⟨rfl, hb1⟩
  have s0 := hb3.size
  have s1 := hb1.size
  have k1 : Below w.heap.size w w1 := hb3.trans (hb1.mono s0)
  replace B0 := B0.below' hb1
  replace B1 := B1.below' hb1
  replace B2 := B2.below' hb1
  have p0 : w1.cell? ⟨w.heap.size, 1, none⟩ = some (.slice ao cs.length cap) := B0.cell (i := 1) (by simp) undef
  have p1 : w1.cell? ⟨w.heap.size + 1, 1, none⟩ = some (.slice (some ⟨g, 0, none⟩) cs.length (cs.length + 4)) := B1.cell (i := 1) (by simp) undef
  go_wp2_with fail
  refine (keptLists_any g ao cap cs w1 ((HandedTo.below hH (k1.mono hN) (Nat.le_refl _)).mono (Nat.le_trans hN k1.size)) ((hc.below (k1.mono hN) (Nat.le_refl _)).mono (Nat.le_trans hN k1.size)) hF.len hF.each).mono ?_
  rintro e w2 ⟨rfl, hb2⟩
  have s2 := hb2.size
  have k2 : Below w.heap.size w w2 := k1.trans (hb2.mono k1.size)
  replace B0 := B0.below' hb2
  replace B1 := B1.below' hb2
  replace B2 := B2.below' hb2
  clear p0 p1
  have q1 : w2.cell? ⟨w.heap.size + 1 + 1, 1, none⟩ = some (.slice ma zs.length mc) := B2.cell (i := 1) (by simp) undef
  have hBk2 := hBk.below' k2
  have ha2 := ha.below' k2
  go_wp2_with fail
  refine (take_any O vl vmm vo (.slice ma zs.length mc) E D zs w2 hBk2 (by omega) (ha2.model.lower (Nat.zero_le _)) (by omega) (fun k e => hdis k (Or.inl e))).mono ?_
  rintro e w3 ⟨rfl, vl3, vm3, E3, hBk3, hE3, hF3, hC3⟩
  have hfl : ∀ k, Foot O vl vmm vo E D k → k < w.heap.size := fun k e => hBk.foot_lt e
  have hml : ∀ k, (Value.slice ma zs.length mc).ownBlock = some k → N ≤ k ∧ k < w.heap.size := fun k e => ha.model.lt e
  have s3 := hC3.size
  have hs2 := k2.size
  have hS3 : ∀ k, (Foot O vl vmm vo E D k ∨ (Value.slice ma zs.length mc).ownBlock = some k) → k < w.heap.size ∨ w2.heap.size ≤ k := fun k e => by
    rcases e with e | e
    · exact Or.inl (hfl k e)
    · exact Or.inl (hml k e).2
  replace B0 := blk_keeps B0 hC3 hS3 (Nat.le_refl _)
  replace B1 := blk_keeps B1 hC3 hS3 (by omega)
  replace B2 := blk_keeps B2 hC3 hS3 (by omega)
  have hb3N : Below N w2 w3 := hC3.below (Nat.le_trans hN k2.size) (fun k e => by
    rcases e with e | e
    · exact hft k e
    · exact (hml k e).1)
  have k3 : Below N w w3 := (k2.mono hN).trans hb3N
  have hP3 : MadeS w3 N (.slice pa ps.length pc) vs ps := by
    have hp2 := ha2.proof
    refine ⟨hp2.oe.chg hC3 (fun k e e' => ?_), hp2.len, fun i hi => (hp2.ls i hi).chg hC3 (fun k e e' => ?_), hp2.nd⟩
    · rcases e' with e' | e'
      · exact hdis k (Or.inr (Or.inl e)) e'
      · exact own_ne hp2.oe ha2.model (by decide) e e'
    · have hmem : vs.getD i undef ∈ vs := by rw [getD_lt _ _ _ hi]; exact List.getElem_mem hi
      rcases e' with e' | e'
      · exact hdis k (Or.inr (Or.inr ⟨_, hmem, e⟩)) e'
      · exact hvv _ hmem k e' e
  clear q1
  have q2 : w3.cell? ⟨w.heap.size + 1 + 1, 2, none⟩ = some (.slice pa ps.length pc) := B2.cell (i := 2) (by simp) undef
  have hdis3 : ∀ k, ((Value.slice pa ps.length pc).ownBlock = some k ∨ ∃ y ∈ vs, y.ownBlock = some k) → ¬ Foot O vl3 vm3 vo E3 D k := fun k e e' => by
    have hlt : k < w.heap.size := by
      rcases e with e | ⟨y, hy, e⟩
      · exact (ha.proof.oe.lt e).2
      · exact (ha.proof.lt (List.mem_filterMap.2 ⟨y, hy, e⟩)).2
    rcases hF3 k e' with h1 | h1 | h1
    · exact hdis k (Or.inr e) h1
    · rcases e with e | ⟨y, hy, e⟩
      · exact own_ne ha.proof.oe ha.model (by decide) e h1
      · exact hvv y hy k h1 e
    · omega
  go_wp2_with fail
  refine (takeLists_any O vl3 vm3 vo (.slice pa ps.length pc) E3 D vs ps w3 hBk3 (by omega) (by omega) (hP3.oe.lower (Nat.zero_le _)) hP3.len (fun i hi => (hP3.ls i hi).lower (Nat.zero_le _)) hP3.nd (by omega) (fun c hc => by have := (z3 c hc).1; omega) hdis3).mono ?_
  rintro e w4 ⟨rfl, vl4, vm4, vo4, E4, D4, hBk4, hE4, hD4, hF4, hC4⟩
  have hf3N : ∀ k, Foot O vl3 vm3 vo E3 D k → N ≤ k := fun k e => by
    rcases hF3 k e with h1 | h1 | h1
    · exact hft k h1
    · exact (hml k h1).1
    · omega
  have hf3w : ∀ k, Foot O vl3 vm3 vo E3 D k → k < w.heap.size ∨ w2.heap.size ≤ k := fun k e => by
    rcases hF3 k e with h1 | h1 | h1
    · exact Or.inl (hfl k h1)
    · exact Or.inl (hml k h1).2
    · exact Or.inr h1
  have hpl : ∀ k, ((Value.slice pa ps.length pc).ownBlock = some k ∨ ∃ y ∈ vs, y.ownBlock = some k) → N ≤ k ∧ k < w.heap.size := fun k e => by
    rcases e with e | ⟨y, hy, e⟩
    · exact ha.proof.oe.lt e
    · exact ha.proof.lt (List.mem_filterMap.2 ⟨y, hy, e⟩)
  have nb : ∀ q, w.heap.size ≤ q → q < w2.heap.size → ¬ (Foot O vl3 vm3 vo E3 D q ∨ (Value.slice pa ps.length pc).ownBlock = some q ∨ ∃ y ∈ vs, y.ownBlock = some q) := fun q h1 h2 e => by
    rcases e with e | e
    · rcases hf3w q e with h3 | h3 <;> omega
    · have := (hpl q e).2; omega
  have hw2l : w.heap.size + 1 + 1 < w2.heap.size := by omega
  replace B0 := B0.chg hC4 (nb _ (Nat.le_refl _) (by omega))
  replace B1 := B1.chg hC4 (nb _ (by omega) (by omega))
  have hb4N : Below N w3 w4 := hC4.below (Nat.le_trans hN k3.size) (fun k e => by
    rcases e with e | e
    · exact hf3N k e
    · exact (hpl k e).1)
  have k4 : Below N w w4 := k3.trans hb4N
  clear q2
  have p0 : w4.cell? ⟨w.heap.size, 1, none⟩ = some (.slice ao cs.length cap) := B0.cell (i := 1) (by simp) undef
  have p1 : w4.cell? ⟨w.heap.size + 1, 1, none⟩ = some (.slice (some ⟨g, 0, none⟩) cs.length (cs.length + 4)) := B1.cell (i := 1) (by simp) undef
  go_wp2_with fail
  refine (keptLists_any g ao cap cs w4 ((HandedTo.below hH k4 (Nat.le_refl _)).mono (Nat.le_trans hN k4.size)) ((hc.below k4 (Nat.le_refl _)).mono (Nat.le_trans hN k4.size)) hF.len hF.each).mono ?_
  rintro e w5 ⟨rfl, hb5⟩
  have hBk5 := hBk4.below' hb5
  have k5 : Below N w w5 := k4.trans (hb5.mono (Nat.le_trans hN k4.size))
  clear p0 p1
  go_wp2_with fail
  refine (booksKept_any O vl4 vm4 vo4 E4 D4 w5 hBk5 (by omega) (by omega)).mono ?_
  rintro e w6 ⟨rfl, hb6⟩
  have HB : Hid (Below N w w6) := k5.trans (hb6.mono (Nat.le_trans hN k5.size))
  have HK : Hid (Bk w6 O vl4 vm4 vo4 E4 D4) := hBk5.below' hb6
  have HC : Hid (Chg (fun k => Foot O vl vmm vo E D k ∨ (Value.slice ma zs.length mc).ownBlock = some k ∨ (Value.slice pa ps.length pc).ownBlock = some k ∨ ∃ y ∈ vs, y.ownBlock = some k) w w6) := by
    have c2 : Chg (fun k => Foot O vl vmm vo E D k ∨ (Value.slice ma zs.length mc).ownBlock = some k ∨ (Value.slice pa ps.length pc).ownBlock = some k ∨ ∃ y ∈ vs, y.ownBlock = some k) w w2 := Chg.of_below k2
    have c3 := c2.trans' hC3 (fun i _ e => by
      rcases e with e | e
      · exact Or.inl e
      · exact Or.inr (Or.inl e))
    have c4 := c3.trans' hC4 (fun i hi e => by
      rcases e with e | e
      · rcases hF3 i e with h1 | h1 | h1
        · exact Or.inl h1
        · exact Or.inr (Or.inl h1)
        · omega
      · exact Or.inr (Or.inr e))
    exact (c4.trans (Chg.of_below hb5)).trans (Chg.of_below hb6)
  have HFt : Hid (∀ k, Foot O vl4 vm4 vo4 E4 D4 k → N ≤ k) := fun k e => by
    rcases hF4 k e with h1 | h1 | h1
    · exact hf3N k h1
    · exact (hpl k h1).1
    · have := k3.size; omega
  go_wp2
  go_ret
  exact ⟨rfl, vl4, vm4, vo4, E4, D4, HK.out, by omega, hD4, HFt.out, HB.out, HC.out⟩
end Go.Proofs.YtlodenfdcckemaaDoor

/-
  The walks of told, answered and count.
-/

namespace Go.Proofs.YtlodenfdcckemaaDoor
open Go.RowKit

theorem shl_wide {j : Nat} (h : j ≤ 20) : wrap64 ((2 : Int) ^ j) = ((2 ^ j : Nat) : Int) := by
  have hp : (2 : Nat) ^ j ≤ 2 ^ 20 := Nat.pow_le_pow_right (by decide) h
  have e20 : (2 : Nat) ^ 20 = 1048576 := by decide
  have e : ((2 : Int) ^ j) = ((2 ^ j : Nat) : Int) := by simp
  rw [e]
  generalize (2 : Nat) ^ j = q at *
  unfold wrap64
  first | omega | (rw [Int.emod_eq_of_lt] <;> omega) | simp <;> omega

set_option maxHeartbeats 1000000 in
theorem told_any (V S : Nat) (hV : V ≤ 20) (ao : Option Addr) (cap : Nat) (w : World) (hc : IntsAt w w.heap.size ao (modelOf V S)) :
    Calls Tryd.prog 60 #[.slice ao V cap, .int .i64 V] w fun e w' => e = .returned (.tuple #[.int .i64 (toldOf S V), .bool true]) ∧ w' = w := by
  have hne : ((V : Int) == (V : Int)) = true := by simp
  have hml := modelOf_len V S
  have HAt : Hid (∀ v, v < V → (modelOf V S).getD v 0 = if S.testBit (2 * v) then ((v + 1 : Nat) : Int) else -((v + 1 : Nat) : Int)) := fun v hv => by
    unfold modelOf
    rw [List.getD_eq_getElem?_getD, List.getElem?_map, List.getElem?_range hv]
    rfl
  generalize modelOf V S = zs at *
  go_enter Tryd.func60, Tryd.ntmps60
  go_wp2
  go_loop [6, 7] (fun b x => ∃ j : Nat, j ≤ V ∧ x = .int .i64 j ∧ b = .int .i64 (toldOf S j)) (fun _ x => V - (intOf x).toNat)
  case atStart => exact ⟨0, Nat.zero_le _, rfl, rfl⟩
  case round =>
    obtain ⟨j, hj, rfl, rfl⟩ := hrel
    by_cases hlt : j < V
    · obtain ⟨b0, o0, rfl, hb0, hcell⟩ := hc (by intro h; rw [h] at hml; simp at hml; omega)
      have hcx := hcell j (by omega)
      rw [HAt.out j hlt] at hcx
      have HO : Hid _ := i64_or (toldOf S j) j (toldOf_lt S j) (by omega)
      have HS : Hid _ := shl_wide (j := j) (by omega)
      have i0 : (0 : Int) ≤ (j : Int) := by omega
      have i1 : (j : Int) < (V : Int) := by omega
      have HN : Hid (toldOf S (j + 1) = if S.testBit (2 * j) then toldOf S j + 2 ^ j else toldOf S j) := rfl
      clear hcell
      cases hbit : S.testBit (2 * j) with
      | true =>
        rw [hbit] at hcx
        simp only [if_true] at hcx
        have HN' : Hid (toldOf S (j + 1) = toldOf S j + 2 ^ j) := by have := HN.out; rw [hbit] at this; exact this
        clear hbit HN
        have hq : (((j + 1 : Nat) : Int) == (j : Int) + 1) = true := by simp
        go_wp2
        go_round
        case rel =>
          refine ⟨j + 1, by omega, by go_num, ?_⟩
          rw [HN'.out, ← HO.out, ← HS.out]
        case measure => simp [intOf]; omega
      | false =>
        rw [hbit] at hcx
        simp only [Bool.false_eq_true, if_false] at hcx
        have HN' : Hid (toldOf S (j + 1) = toldOf S j) := by have := HN.out; rw [hbit] at this; exact this
        clear hbit HN
        go_wp2
        go_round
        case rel => exact ⟨j + 1, by omega, by go_num, by rw [HN'.out]⟩
        case measure => simp [intOf]; omega
    · obtain rfl : j = V := by omega
      go_wp2
      go_ret2
      exact ⟨rfl, rfl⟩

set_option maxRecDepth 100000 in
set_option maxHeartbeats 1000000 in
theorem answered_any (n : Nat) (ao : Option Addr) (cap : Nat) (cs : List (List Int)) (en : End) (vm vp : Value) (vs : List Value) (b : Nat) (w : World) (hc : ListsAt w w.heap.size ao cs) (hg : Good n cs) (hok : EndOk n cs en) (ha : AnsAt w b (ansOf en).2.1 (ansOf en).2.2 vm vp vs) :
    Calls Tryd.prog 35 #[.agg #[.int .i64 n, .slice ao cs.length cap], .agg #[.bool (ansOf en).1, vm, vp]] w fun e w' => e = .returned (.bool true) ∧ Below w.heap.size w w' := by
  have hlit : ∀ c ∈ cs, ∀ l ∈ c, IsLit n l := fun c hc l hl => hg.lits c hc l hl
  obtain ⟨ma, mc, rfl, hmi⟩ := own_intsAt ha.model
  obtain ⟨pa, pc, rfl, hpl, hpc⟩ := ha.proof.lists
  have hb1 := alloc_below w (.cells #[.int .i64 n, .slice ao cs.length cap] 31)
  cases en with
  | sat S =>
    obtain ⟨e1, e2⟩ := endOk_model hg.vars hok
    have hmk : makesB (toldOf S n) cs = true := told_makes hok.2.1 hok.2.2
    have hsm : toldOf S n < 9223372036854775808 := Nat.lt_of_lt_of_le (toldOf_lt S n) (Nat.le_trans (Nat.pow_le_pow_right (by decide) hg.vars) (by decide))
    simp only [ansOf] at *
    rw [e1] at hmi ⊢
    rw [modelOf_len]
    simp only [List.length_nil]
    have hb2 : Below w.heap.size w ((w.alloc (.cells #[.int .i64 n, .slice ao cs.length cap] 31)).alloc (.cells #[.bool true, .slice ma n mc, .slice pa 0 pc] 45)) := hb1.alloc (by simp) _
    have B1 := (blk_new w [.int .i64 n, .slice ao cs.length cap] 31).alloc (.cells #[.bool true, .slice ma n mc, .slice pa 0 pc] 45)
    have B2 := blk_new (w.alloc (.cells #[.int .i64 n, .slice ao cs.length cap] 31)) [.bool true, .slice ma n mc, .slice pa 0 pc] 45
    rw [World.size_alloc] at B2
    dsimp only [List.toArray] at B1 B2
    go_enter Tryd.func35, Tryd.ntmps35
    go_wp2_with fail
    generalize (w.alloc (.cells #[.int .i64 n, .slice ao cs.length cap] 31)).alloc (.cells #[.bool true, .slice ma n mc, .slice pa 0 pc] 45) = W at *
    refine (told_any n S hg.vars ma mc W ((hmi.below hb2 (Nat.le_refl _)).mono hb2.size)).mono ?_
    rintro e w' ⟨rfl, hw'⟩
    obtain rfl := hw'.symm
    have p1 : W.cell? ⟨w.heap.size, 1, none⟩ = some (.slice ao cs.length cap) := B1.cell (i := 1) (by simp) undef
    have cm := makes_any n hg.vars (toldOf S n) hsm ao cap cs W ((hc.below hb2 (Nat.le_refl _)).mono hb2.size) hlit (by have := hg.many; omega) (fun c hc => by have := hg.long c hc; omega)
    rw [hmk] at cm
    clear hsm hmk
    generalize toldOf S n = bb at *
    go_wp2_with fail
    refine cm.mono ?_
    rintro e w' ⟨rfl, hw'⟩
    obtain rfl := hw'.symm
    have q2 : W.cell? ⟨w.heap.size + 1, 2, none⟩ = some (.slice pa 0 pc) := B2.cell (i := 2) (by simp) undef
    have HB : Hid (Below w.heap.size w W) := hb2
    clear hb2 B1 B2 p1
    go_wp2
    go_ret
    exact ⟨rfl, HB.out⟩
  | unsat F =>
    obtain ⟨e1, e2, e3, e4⟩ := endOk_check hg.vars hok
    simp only [ansOf] at *
    simp only [List.length_nil]
    rw [List.length_map] at *
    have hb2 : Below w.heap.size w ((w.alloc (.cells #[.int .i64 n, .slice ao cs.length cap] 31)).alloc (.cells #[.bool false, .slice ma 0 mc, .slice pa F.length pc] 45)) := hb1.alloc (by simp) _
    have B1 := (blk_new w [.int .i64 n, .slice ao cs.length cap] 31).alloc (.cells #[.bool false, .slice ma 0 mc, .slice pa F.length pc] 45)
    have B2 := blk_new (w.alloc (.cells #[.int .i64 n, .slice ao cs.length cap] 31)) [.bool false, .slice ma 0 mc, .slice pa F.length pc] 45
    rw [World.size_alloc] at B2
    dsimp only [List.toArray] at B1 B2
    go_enter Tryd.func35, Tryd.ntmps35
    go_wp2_with fail
    generalize (w.alloc (.cells #[.int .i64 n, .slice ao cs.length cap] 31)).alloc (.cells #[.bool false, .slice ma 0 mc, .slice pa F.length pc] 45) = W at *
    have cR := check_good n ao pa cap pc cs (F.map (litsOf 64)) W ((hc.below hb2 (Nat.le_refl _)).mono hb2.size) ((hpl.below hb2 (Nat.le_refl _)).mono hb2.size) hg (fault_good hg) (by rw [List.length_map]; omega)
    rw [e1, List.length_map] at cR
    refine cR.mono ?_
    rintro e w1 ⟨rfl, hbw⟩
    have q1 : w1.cell? ⟨w.heap.size + 1, 1, none⟩ = some (.slice ma 0 mc) := (B2.below' hbw).cell (i := 1) (by simp) undef
    have q2 : w1.cell? ⟨w.heap.size + 1, 2, none⟩ = some (.slice pa F.length pc) := (B2.below' hbw).cell (i := 2) (by simp) undef
    have HB : Hid (Below w.heap.size w w1) := hb2.trans (hbw.mono hb2.size)
    have hee : ((F.length : Int) == (F.length : Int)) = true := by simp
    clear hbw hb2 B1 B2 cR
    go_wp2
    go_ret
    exact ⟨rfl, HB.out⟩
end Go.Proofs.YtlodenfdcckemaaDoor

/-
  append of a list that a call owns, none or some, onto one, at a step of a region that draws.
-/

namespace Go.Proofs.YtlodenfdcckemaaDoor
open Go.RowKit

theorem step_append_any {P : Program} {w : World} {ops : Array Oper} {o : Oper} {a : Act} {K : Act → World → Prop} {Q : Exit → Act → World → Prop} {E : Prop} (hgd : o.guard = none) (s x : Operand) (t : TypeId)
    (ho : o.op = .call { callee := .builtin .append, args := #[s, x], argTypes := #[t, t] })
    (base : Nat) (e : TypeId) (i : TypeInfo) (z : Value) (bytes : Nat) (ht : P.underlying t = some (.slice e)) (hi : P.info? e = some i) (hz : i.zero = some z) (hsize : i.size = 1) (hby : i.bytes = bytes) (hzs : z.cells.size = 1)
    (v : Value) (n : Nat) (xs : List Value) (hs : a.eval s = v) (hown : w.ownsRow base e 1 v n xs) (b2 : Nat) (u : Value) (m : Nat) (news : List Value) (hx : a.eval x = u) (hu : Own w b2 e u news) (hm : news.length = m) (h1 : ∀ u ∈ news, u.oneCell' = true)
    (h63 : n + m ≤ maxLen) (hbytes : (n + m) * bytes ≤ 140737488355328) (hbase : base ≤ w.heap.size)
    (h : ∀ v' w', w'.ownsRow base e 1 v' (n + m) (xs ++ news) → w.grownBy w' v.ownBlock → K (a.put o.dst v') w') :
    if Region.wanted o (yielded ops a.tmps) = true then Oper.wp P o a w K Q else E := by
  have hw : Region.wanted o (yielded ops a.tmps) = true := by simp [Region.wanted, hgd]
  rw [if_pos hw]
  subst hm
  rcases hu with ⟨hu, hn⟩ | ⟨g, cap, hu, _, _, hr⟩
  · subst hn
    have hrun := run_append_owned_none (P := P) (w := w) base t o.type e i 1 ht hi v n xs hown
    unfold Oper.wp
    simp only [execOp, ho, resolve, invoke, builtin, Sem.run_bind, Sem.run_pure, Result.andThen_ok, List.map_toArray, List.map_cons, List.map_nil, hs, hx, hu, hrun]
    exact h v w (by simpa using hown) ⟨rfl, rfl, rfl, Nat.le_refl _, fun _ _ _ => rfl⟩
  · have hnews : ∀ j y, news[j]? = some y → w.cell? ((⟨g, 0, none⟩ : Addr).add j) = some y := fun j y hj => by
      have hadd : (⟨g, 0, none⟩ : Addr).add j = ⟨g, j, none⟩ := by unfold Addr.add; split <;> simp_all
      obtain ⟨hlt, hy⟩ := List.getElem?_eq_some_iff.1 hj
      rw [hadd, hr.cell hlt undef, getD_lt _ _ _ hlt, hy]
    obtain ⟨v', w', hrun, h2, h3, _, _⟩ := run_append_own_at (P := P) w base t o.type e i z 1 bytes ht hi hz hsize hby hzs (by decide) v n xs hown ⟨g, 0, none⟩ news.length cap news (by omega) hnews h1 h63 hbytes hbase
    unfold Oper.wp
    simp only [execOp, ho, resolve, invoke, builtin, Sem.run_bind, Sem.run_pure, Result.andThen_ok, List.map_toArray, List.map_cons, List.map_nil, hs, hx, hu, hrun]
    exact h v' w' h2 h3

theorem own_any {w : World} {base n : Nat} {t : TypeId} {v : Value} {xs : List Value} (h : w.ownsRow base t 1 v n xs) : Own w base t v xs := by
  have h' := h
  obtain ⟨hl, ⟨rfl, h0⟩ | ⟨g, cap, cur, rfl, _⟩⟩ := h'
  · exact Or.inl ⟨rfl, List.eq_nil_of_length_eq_zero (by rw [hl, h0])⟩
  · exact own_of h

theorem grown_new {u w' : World} {o : Obj} {v : Value} (hv : v.ownBlock = some u.heap.size) (h : (u.alloc o).drew.grownBy w' v.ownBlock) : Below u.heap.size u w' := by
  have hb := alloc_below u o
  have hs : (u.alloc o).drew.heap.size = u.heap.size + 1 := alloc_size u o
  have h2 := h.size
  refine ⟨h.os, h.tape, h.output, by omega, fun q hq => (h.block q (by omega) (fun e => ?_)).trans (hb.block q hq)⟩
  rw [hv] at e
  cases e
  omega

theorem grown_more {u w w' : World} {o : Obj} {v : Value} (hv : ∀ q, v.ownBlock = some q → u.heap.size ≤ q) (hb : Below u.heap.size u w) (h : (w.alloc o).grownBy w' v.ownBlock) : Below u.heap.size u w' := by
  have hs : (w.alloc o).heap.size = w.heap.size + 1 := alloc_size w o
  have hb2 := hb.size
  have h2 := h.size
  refine hb.trans ⟨h.os, h.tape, h.output, by omega, fun q hq => (h.block q (by omega) (fun e => ?_)).trans ((alloc_below w o).block q (by omega))⟩
  have := hv q e.symm
  omega
end Go.Proofs.YtlodenfdcckemaaDoor

/-
  Elements of a list of lists, in memory, wherever the list itself lies.
-/

namespace Go.Proofs.YtlodenfdcckemaaDoor
open Go.RowKit

structure Els (w : World) (N : Nat) (vs : List Value) (cs : List (List Int)) : Prop where
  len : vs.length = cs.length
  els : ∀ i, i < cs.length → ∃ A C, vs.getD i undef = .slice A (cs.getD i []).length C ∧ IntsAt w N A (cs.getD i [])

theorem Els.nil (w : World) (N : Nat) : Els w N [] [] := ⟨rfl, fun i hi => by simp at hi⟩

theorem Els.below {w w' : World} {N : Nat} {vs : List Value} {cs : List (List Int)} (h : Els w N vs cs) (hb : Below N w w') : Els w' N vs cs :=
  ⟨h.len, fun i hi => by obtain ⟨A, C, h1, h2⟩ := h.els i hi; exact ⟨A, C, h1, h2.below hb (Nat.le_refl _)⟩⟩

theorem Els.mono {w : World} {N N' : Nat} {vs : List Value} {cs : List (List Int)} (h : Els w N vs cs) (hb : N ≤ N') : Els w N' vs cs :=
  ⟨h.len, fun i hi => by obtain ⟨A, C, h1, h2⟩ := h.els i hi; exact ⟨A, C, h1, h2.mono hb⟩⟩

theorem Els.append {w : World} {N : Nat} {vs vs' : List Value} {cs cs' : List (List Int)} (h : Els w N vs cs) (h' : Els w N vs' cs') : Els w N (vs ++ vs') (cs ++ cs') := by
  have hl := h.len
  have hl' := h'.len
  refine ⟨by simp [hl, hl'], fun i hi => ?_⟩
  rw [List.length_append] at hi
  by_cases hlt : i < cs.length
  · have := h.els i hlt
    rw [getD_lt _ _ _ (by rw [List.length_append]; omega), List.getElem_append_left (by omega), getD_lt _ _ _ (by rw [List.length_append]; omega), List.getElem_append_left hlt]
    rw [getD_lt _ _ _ (by omega), getD_lt _ _ _ hlt] at this
    exact this
  · have := h'.els (i - cs.length) (by omega)
    rw [getD_lt _ _ _ (by rw [List.length_append]; omega), List.getElem_append_right (by omega), getD_lt _ _ _ (by rw [List.length_append]; omega), List.getElem_append_right (by omega)]
    rw [getD_lt _ _ _ (by omega), getD_lt _ _ _ (by omega)] at this
    simp only [hl]
    exact this

theorem Els.take {w : World} {N : Nat} {vs : List Value} {cs : List (List Int)} (h : Els w N vs cs) (k : Nat) : Els w N (vs.take k) (cs.take k) := by
  have hl := h.len
  refine ⟨by simp [hl], fun i hi => ?_⟩
  rw [List.length_take] at hi
  have := h.els i (by omega)
  rw [getD_lt _ _ _ (by rw [List.length_take]; omega), List.getElem_take, getD_lt _ _ _ (by rw [List.length_take]; omega), List.getElem_take]
  rw [getD_lt _ _ _ (by omega), getD_lt _ _ _ (by omega)] at this
  exact this

theorem Els.one {w : World} {N : Nat} {vs : List Value} {cs : List (List Int)} (h : Els w N vs cs) : ∀ y ∈ vs, y.oneCell' = true := by
  intro y hy
  obtain ⟨i, hi, rfl⟩ := List.getElem_of_mem hy
  obtain ⟨A, C, h1, -⟩ := h.els i (by rw [← h.len]; exact hi)
  rw [getD_lt _ _ _ hi] at h1
  rw [h1]
  rfl

theorem Els.lists {w : World} {N base : Nat} {v : Value} {vs : List Value} {cs : List (List Int)} (h : Els w N vs cs) (hN : N ≤ w.heap.size) (ho : Own w base 24 v vs) : ∃ ao cap, v = .slice ao cs.length cap ∧ ListsAt w w.heap.size ao cs := by
  have hlen := h.len
  rcases ho with ⟨rfl, h0⟩ | ⟨g, cap, rfl, hb, h63, hr⟩
  · have : cs = [] := by rw [h0] at hlen; simpa using hlen.symm
    subst this
    exact ⟨none, 0, rfl, fun h => absurd rfl h⟩
  · refine ⟨some ⟨g, 0, none⟩, cap, by rw [hlen], fun hne => ⟨g, 0, rfl, hr.lt, fun i hi => ?_⟩⟩
    obtain ⟨A, C, h1, h2⟩ := h.els i hi
    exact ⟨A, C, by rw [Nat.zero_add, hr.cell (by omega) undef, h1], h2.mono hN⟩

theorem MadeL.els {w : World} {base : Nat} {v : Value} {vs : List Value} {cs : List (List Int)} (h : MadeL w base v vs cs) : Els w w.heap.size vs cs :=
  ⟨h.len, fun i hi => by obtain ⟨A, C, h1, h2⟩ := (h.ls i (by rw [h.len]; exact hi)).ints (Nat.le_refl _); exact ⟨A, C, h1, h2⟩⟩

theorem MadeS.els {w : World} {base : Nat} {v : Value} {vs : List Value} {cs : List (List Int)} (h : MadeS w base v vs cs) : Els w w.heap.size vs cs :=
  ⟨h.len, fun i hi => by obtain ⟨A, C, h1, h2⟩ := (h.ls i (by rw [h.len]; exact hi)).ints (Nat.le_refl _); exact ⟨A, C, h1, h2⟩⟩

theorem rawC_len (V : Int) (raw : List (List Int)) : (rawC V raw).length ≤ 60 := by unfold rawC; simp; omega

theorem good_append {V : Nat} {a b : List (List Int)} (ha : Good V a) (hb : Good V b) (h1 : a.length ≤ 60) (h2 : b.length ≤ 60) : Good V (a ++ b) := by
  refine ⟨ha.vars, by rw [List.length_append]; omega, fun c hc => ?_, fun c hc => ?_⟩
  · rcases List.mem_append.1 hc with h | h
    · exact ha.long c h
    · exact hb.long c h
  · rcases List.mem_append.1 hc with h | h
    · exact ha.lits c h
    · exact hb.lits c h

theorem dbl_take (p : List (List Int)) (i : Nat) (h : i < p.length) : dbl (p.take (i + 1)) = dbl (p.take i) ++ [p.getD i [], p.getD i []] := by
  rw [take_succ_lists p i h]
  unfold dbl
  rw [List.flatMap_append]
  simp

theorem rawC_steps {V : Nat} (h1 : 1 ≤ V) (h2 : V ≤ 20) (raw : List (List Int)) : ∀ s ∈ rawC V raw, clauseFault V s = 0 ∧ ∀ l ∈ s, l ≠ 0 := fun s hs => by
  have hg := rawC_good h1 h2 raw
  exact ⟨fault_of_lits (hg.long s hs) (hg.lits s hs), fun l hl => (hg.lits s hs l hl).1⟩

theorem proof_three {V : Nat} {C ms ps : List (List Int)} (hp : ∃ p0, ps = p0 ++ [[]]) (h : checkOf V C 0 ps = ((ps.length : Int), 0)) : checkOf V (ms ++ C) 0 ps = ((ps.length : Int), 0) ∧ checkOf V C 0 (ps.take (ps.length - 1)) = (((ps.length - 1 : Nat) : Int), 8) ∧ checkOf V C 0 (dbl ps) = (((2 * ps.length - 1 : Nat) : Int), 0) ∧ 1 ≤ ps.length := by
  obtain ⟨p0, rfl⟩ := hp
  have hl : (p0 ++ [[]]).length = p0.length + 1 := by simp
  have h' : checkOf V C 0 (p0 ++ [[]]) = (((0 + p0.length + 1 : Nat) : Int), 0) := by rw [h, hl, Nat.zero_add]
  refine ⟨?_, ?_, ?_, by omega⟩
  · rw [check_more _ C _ 0 (fun c hc => List.mem_append_right _ hc) (by rw [h]), h]
  · rw [hl, Nat.add_sub_cancel, List.take_left, check_cut p0 C 0 h', Nat.zero_add]
  · rw [check_dbl p0 C C 0 0 (fun c hc => hc) h', hl]
    congr 2
    omega

def dblV (vs : List Value) : List Value := vs.flatMap fun v => [v, v]

theorem dblV_take (vs : List Value) (i : Nat) (h : i < vs.length) : dblV (vs.take (i + 1)) = dblV (vs.take i) ++ [vs.getD i undef, vs.getD i undef] := by
  have : vs.take (i + 1) = vs.take i ++ [vs.getD i undef] := by rw [getD_lt _ _ _ h, List.take_add_one, List.getElem?_eq_getElem h]; rfl
  rw [this]
  unfold dblV
  rw [List.flatMap_append]
  simp

theorem dblV_len (vs : List Value) : (dblV vs).length = 2 * vs.length := by
  induction vs with
  | nil => rfl
  | cons s r ih => simp only [dblV, List.flatMap_cons, List.length_append, List.length_cons, List.length_nil] at ih ⊢; omega

theorem Els.dbl {w : World} {N : Nat} {vs : List Value} {cs : List (List Int)} (h : Els w N vs cs) : Els w N (dblV vs) (dbl cs) := by
  have hl := h.len
  have key : ∀ k, k ≤ cs.length → Els w N (dblV (vs.take k)) (Go.Proofs.YtlodenfdcckemaaDoor.dbl (cs.take k)) := by
    intro k
    induction k with
    | zero => intro _; exact Els.nil _ _
    | succ k ih =>
      intro hk
      rw [dblV_take vs k (by omega), dbl_take cs k (by omega)]
      refine (ih (by omega)).append ⟨rfl, fun i hi => ?_⟩
      have := h.els k (by omega)
      match i, hi with
      | 0, _ => exact this
      | 1, _ => exact this
      | n + 2, h => exact absurd h (by simp)
  have := key cs.length (Nat.le_refl _)
  rw [List.take_length] at this
  rw [← hl, List.take_length] at this
  exact this

/-- A list in a formula's box that is appended to. -/
theorem app_put {W8 w10 w11 : World} {Gb : Nat} {V v9 v11 : Value} {xs ys : List Value} (hG : Blk w10 Gb 31 [V, v9]) (hC : Chg (fun k => k = Gb) W8 w10) (hO9 : Own w10 W8.heap.size 24 v9 xs) (hO : Own w11 W8.heap.size 24 v11 ys) (hg : w10.grownBy w11 v9.ownBlock) :
    Blk w11 Gb 31 [V, v9] ∧ Chg (fun k => k = Gb) W8 w11 ∧ Blk (w11.setCell ⟨Gb, 1, none⟩ v11) Gb 31 [V, v11] ∧ Own (w11.setCell ⟨Gb, 1, none⟩ v11) W8.heap.size 24 v11 ys ∧ Chg (fun k => k = Gb) W8 (w11.setCell ⟨Gb, 1, none⟩ v11) := by
  have c : Chg (fun k => v9.ownBlock = some k) w10 w11 := Chg.of_grown hg (fun k e => e) (fun k e o ho => hO9.cells e o ho)
  have G11 := hG.chg c (own_blk hO9 hG (by decide))
  have ht : TChg (fun t => t = 31) w11 (w11.setCell ⟨Gb, 1, none⟩ v11) := ⟨fun k => k = Gb, (Chg.refl (fun k => k = Gb) w11).setB Gb 1 rfl _, fun b e _ => by obtain rfl : b = Gb := e; exact ⟨_, _, G11, rfl⟩⟩
  have h11 : Chg (fun k => k = Gb) W8 w11 := hC.trans2 c (fun i hi e => by have := (hO9.lt e).1; omega)
  exact ⟨G11, h11, G11.set 1 v11, ht.own hO (by decide), h11.setB Gb 1 rfl _⟩
end Go.Proofs.YtlodenfdcckemaaDoor

/-
  The walk of Proved.
-/

namespace Go.Proofs.YtlodenfdcckemaaDoor
open Go.RowKit

set_option maxRecDepth 100000 in
set_option maxHeartbeats 8000000 in
theorem proved_any (vars : Int) (ao mo so : Option Addr) (cap mcap scap : Nat) (raw more steps : List (List Int)) (w : World) (hc : ListsAt w w.heap.size ao raw) (hF : Fits raw) (hmc : ListsAt w w.heap.size mo more) (hmF : Fits more) (hsc : ListsAt w w.heap.size so steps) (hsF : Fits steps) (hv0 : -9223372036854775808 ≤ vars) (hv1 : vars ≤ 9223372036854775807) (hT : Tab w) (hw0 : 0 < w.heap.size) :
    Calls Tryd.prog 8 #[.int .i64 vars, .slice ao raw.length cap, .slice mo more.length mcap, .slice so steps.length scap] w fun e w' => e = .returned (.bool true) ∧ Below w.heap.size w w' := by
  have hr := pickOf_range vars (show (0 : Int) < ((8 : Nat) : Int) by omega)
  obtain ⟨V, hV⟩ : ∃ V : Nat, rawV vars ((8 : Nat) : Int) = V := ⟨(rawV vars ((8 : Nat) : Int)).toNat, by unfold rawV; omega⟩
  have hV1 : 1 ≤ V := by unfold rawV at hV; omega
  have hV2 : V ≤ 8 := by unfold rawV at hV; omega
  clear hr
  have HGood : Hid (Good V (rawC V raw)) := rawC_good hV1 (by omega) raw
  obtain ⟨i0, hi, hz0, hz1, hz2⟩ := info_parts Tryd.infoInts
  go_enter Tryd.func8, Tryd.ntmps8
  go_wp2_with fail
  refine (known_any w hT hw0).mono ?_
  rintro e w1 ⟨rfl, hb1⟩
  have hs1 := hb1.size
  have cf := kformula_any vars 8 ao cap raw w1 ((hc.below hb1 (Nat.le_refl _)).mono hs1) hF hv0 hv1 (by omega) (by omega)
  rw [hV] at cf
  go_wp2_with fail
  refine cf.mono ?_
  rintro e w2 ⟨v, fvs, rfl, hM, hb2⟩
  obtain ⟨ve, vcap, rfl, hL2⟩ := hM.lists
  clear cf
  have hs2 := hb2.size
  have b3 := alloc_below w2 (.cells #[.int .i64 V, .slice ve (rawC V raw).length vcap] 31)
  have B3 : Blk (w2.alloc (.cells #[.int .i64 V, .slice ve (rawC V raw).length vcap] 31)) w2.heap.size 31 [.int .i64 V, .slice ve (rawC V raw).length vcap] := blk_new w2 [.int .i64 V, .slice ve (rawC V raw).length vcap] 31
  have s3 := alloc_size w2 (.cells #[.int .i64 V, .slice ve (rawC V raw).length vcap] 31)
  go_wp2_with fail
  generalize w2.alloc (.cells #[.int .i64 V, .slice ve (rawC V raw).length vcap] 31) = w3 at *
  have k3 : Below w.heap.size w w3 := hb1.trans ((hb2.mono hs1).trans (b3.mono (by omega)))
  have hM3 := hM.below' b3
  have hL3 : ListsAt w3 w3.heap.size ve (rawC V raw) := (hL2.below b3 (Nat.le_refl _)).mono b3.size
  have hTp := hT.below k3 hw0
  refine (solve_good V ve vcap (rawC V raw) w3 hL3 HGood.out (fault_good HGood.out) hTp (by omega)).mono ?_
  rintro e w4 ⟨en, -, hOk, hS, hb4⟩
  obtain ⟨vm, vp, vs, rfl, hA⟩ := solEnd_ans hS
  obtain ⟨z1, z2, z3⟩ := ans_few HGood.out.vars hOk
  obtain ⟨pa, pc, hvp, -, -⟩ := hA.proof.lists
  obtain ⟨ma, mc, hvm⟩ := hA.model.shape
  rw [List.length_map] at hvm
  subst hvp
  subst hvm
  have HOk : Hid _ := hOk
  clear hOk hS
  have s4 := hb4.size
  have k4 : Below w.heap.size w w4 := k3.trans (hb4.mono (by omega))
  have B4 := B3.below' hb4
  have hM4 := hM3.below' hb4
  have hbA := alloc_below w4 (.cells #[.bool (ansOf en).1, .slice ma (ansOf en).2.1.length mc, .slice pa (ansOf en).2.2.length pc] 45)
  have BA := blk_new w4 [.bool (ansOf en).1, .slice ma (ansOf en).2.1.length mc, .slice pa (ansOf en).2.2.length pc] 45
  have hsA := alloc_size w4 (.cells #[.bool (ansOf en).1, .slice ma (ansOf en).2.1.length mc, .slice pa (ansOf en).2.2.length pc] 45)
  dsimp only [List.toArray] at BA
  have B5 := B4.below' hbA
  have m0 : w4.cell? ⟨w2.heap.size, 0, none⟩ = some (.int .i64 V) := B4.cell (i := 0) (by simp) undef
  have m1 : w4.cell? ⟨w2.heap.size, 1, none⟩ = some (.slice ve (rawC V raw).length vcap) := B4.cell (i := 1) (by simp) undef
  have m0' := B5.cell (i := 0) (by simp) undef
  have m1' := B5.cell (i := 1) (by simp) undef
  have hFl := B4.lt
  go_wp2_with fail
  generalize w4.alloc (.cells #[.bool (ansOf en).1, .slice ma (ansOf en).2.1.length mc, .slice pa (ansOf en).2.2.length pc] 45) = W4 at *
  have k5 : Below w.heap.size w W4 := k4.trans (hbA.mono (by omega))
  have hM5 := hM4.below' hbA
  have hA5 := hA.below' hbA
  obtain ⟨ve', vcap', hve, hL5⟩ := hM5.lists
  simp only [Value.slice.injEq] at hve
  obtain ⟨rfl, -, rfl⟩ := hve
  refine (answered_any V ve vcap (rawC V raw) en _ _ vs _ W4 hL5 HGood.out HOk.out hA5).mono ?_
  rintro e w5 ⟨rfl, hb5⟩
  have s5 := hb5.size
  have k6 : Below w.heap.size w w5 := k5.trans (hb5.mono (by omega))
  have hM6 := hM5.below' hb5
  have hA6 := hA5.below' hb5
  have B6 := B5.below' hb5
  have BA6 := BA.below' hb5
  clear m0 m1 m0' m1' hL5 hL3 hL2 hM hM3 hM4 hM5 hA hA5 B3 B4 B5 BA
  cases en with
  | sat S =>
    simp only [ansOf] at *
    have cf := kformula_any vars 8 so scap steps w5 ((hsc.below k6 (Nat.le_refl _)).mono k6.size) hsF hv0 hv1 (by omega) (by omega)
    rw [hV] at cf
    obtain ⟨q0, q1, q2⟩ : _ ∧ _ ∧ _ := ⟨BA6.cell (i := 0) (by simp) undef, BA6.cell (i := 1) (by simp) undef, BA6.cell (i := 2) (by simp) undef⟩
    go_wp2_with fail
    refine cf.mono ?_
    rintro e w6 ⟨v6, svs, rfl, hSM, hb6⟩
    obtain ⟨sa, sc, rfl, hL6⟩ := hSM.lists
    have s6 := hb6.size
    clear cf q0 q1 q2
    have b7 := alloc_below w6 (.cells #[.int .i64 V, .slice sa (rawC V steps).length sc] 31)
    have B7 : Blk (w6.alloc (.cells #[.int .i64 V, .slice sa (rawC V steps).length sc] 31)) w6.heap.size 31 [.int .i64 V, .slice sa (rawC V steps).length sc] := blk_new w6 [.int .i64 V, .slice sa (rawC V steps).length sc] 31
    have s7 := alloc_size w6 (.cells #[.int .i64 V, .slice sa (rawC V steps).length sc] 31)
    have BF7 := (B6.below' hb6).below' b7
    have hSM7 := hSM.below' b7
    have k7 : Below w.heap.size w (w6.alloc (.cells #[.int .i64 V, .slice sa (rawC V steps).length sc] 31)) := (k6.trans (hb6.mono (by omega))).trans (b7.mono (by omega))
    have hM7 := (hM6.below' hb6).below' b7
    have c0 := BF7.cell (i := 0) (by simp) undef
    have c1 := BF7.cell (i := 1) (by simp) undef
    have c2 := B7.cell (i := 1) (by simp) undef
    simp only [List.getD_cons_zero, List.getD_cons_succ] at c0 c1 c2
    go_wp2
    generalize w6.alloc (.cells #[.int .i64 V, .slice sa (rawC V steps).length sc] 31) = W7 at *
    obtain ⟨ve', vcap', hve, hLf⟩ := hM6.lists
    simp only [Value.slice.injEq] at hve
    obtain ⟨rfl, -, rfl⟩ := hve
    have hn60 := rawC_len V steps
    have hsl : svs.length = (rawC V steps).length := hSM.len
    have H7 : Hid (∀ i, (checkOf V (rawC V raw) i (rawC V steps ++ [[]])).2 = 7) := fun i => check_none (b := toldOf S V) _ _ _ (told_makes HOk.out.2.1 HOk.out.2.2) (fun c hc l hl => (HGood.out.lits c hc l hl).1) (rawC_steps hV1 (by omega) steps)
    have e0 := alloc_below W7 (.cells #[] 3)
    have E0 := blk_new W7 [] 3
    have t0 := alloc_size W7 (.cells #[] 3)
    dsimp only [List.toArray] at E0
    have e1 := alloc_below (W7.alloc (.cells #[] 3)) (.cells #[.slice (some ⟨w6.heap.size + 1, 0, none⟩) 0 0] 24)
    have E1 := blk_new (W7.alloc (.cells #[] 3)) [.slice (some ⟨w6.heap.size + 1, 0, none⟩) 0 0] 24
    have t1 := alloc_size (W7.alloc (.cells #[] 3)) (.cells #[.slice (some ⟨w6.heap.size + 1, 0, none⟩) 0 0] 24)
    dsimp only [List.toArray] at E1
    have bX : Below W7.heap.size W7 ((W7.alloc (.cells #[] 3)).alloc (.cells #[.slice (some ⟨w6.heap.size + 1, 0, none⟩) 0 0] 24)).drew := (e0.trans (e1.mono e0.size)).drew
    have hSX := hSM7.below' bX
    have E0X : Blk ((W7.alloc (.cells #[] 3)).alloc (.cells #[.slice (some ⟨w6.heap.size + 1, 0, none⟩) 0 0] 24)).drew (w6.heap.size + 1) 3 [] := by
      have := (E0.below' e1).drew
      rw [s7] at this
      exact this
    have E1X : Blk ((W7.alloc (.cells #[] 3)).alloc (.cells #[.slice (some ⟨w6.heap.size + 1, 0, none⟩) 0 0] 24)).drew (w6.heap.size + 1 + 1) 24 [.slice (some ⟨w6.heap.size + 1, 0, none⟩) 0 0] := by
      have := E1.drew
      rw [t0, s7] at this
      exact this
    have sX : ((W7.alloc (.cells #[] 3)).alloc (.cells #[.slice (some ⟨w6.heap.size + 1, 0, none⟩) 0 0] 24)).drew.heap.size = w6.heap.size + 1 + 1 + 1 := by
      show ((W7.alloc (.cells #[] 3)).alloc (.cells #[.slice (some ⟨w6.heap.size + 1, 0, none⟩) 0 0] 24)).heap.size = _
      omega
    have BFX := BF7.below' bX
    have BSX := B7.below' bX
    have d0 := BFX.cell (i := 0) (by simp) undef
    have d1 := BFX.cell (i := 1) (by simp) undef
    have d2 := BSX.cell (i := 1) (by simp) undef
    simp only [List.getD_cons_zero, List.getD_cons_succ] at d0 d1 d2
    have hone : ∀ u ∈ [Value.slice (some ⟨w6.heap.size + 1, 0, none⟩) 0 0], u.oneCell' = true := by intro u hu; rw [List.mem_singleton] at hu; rw [hu]; rfl
    have OA : ((W7.alloc (.cells #[] 3)).alloc (.cells #[.slice (some ⟨w6.heap.size + 1, 0, none⟩) 0 0] 24)).drew.ownsRow w5.heap.size 24 1 (.slice sa (rawC V steps).length sc) (rawC V steps).length svs := by have := hSX.oe.own; rw [hsl] at this; exact this
    have hfin : ∀ g5 cap5 w8, w8.ownsRow w5.heap.size 24 1 (.slice (some ⟨g5, 0, none⟩) ((rawC V steps).length + 1) cap5) ((rawC V steps).length + 1) (svs ++ [.slice (some ⟨w6.heap.size + 1, 0, none⟩) 0 0]) → World.grownBy ((W7.alloc (.cells #[] 3)).alloc (.cells #[.slice (some ⟨w6.heap.size + 1, 0, none⟩) 0 0] 24)).drew w8 (Value.slice sa (rawC V steps).length sc).ownBlock →
        (w8.cell? ⟨w2.heap.size, 0, none⟩ = some (.int .i64 V) ∧ w8.cell? ⟨w2.heap.size, 1, none⟩ = some (.slice ve (rawC V raw).length vcap) ∧ w8.cell? ⟨w6.heap.size, 1, none⟩ = some (.slice sa (rawC V steps).length sc)) ∧
        ∀ q, Below w8.heap.size w8 q → Calls Tryd.prog 36 #[.agg #[.int .i64 V, .slice ve (rawC V raw).length vcap], .slice (some ⟨g5, 0, none⟩) ((rawC V steps).length + 1) cap5] q fun e w' => ∃ n, e = .returned (.tuple #[.int .i64 n, .int .i64 7]) ∧ Below w.heap.size w w' ∧ (w'.cell? ⟨w2.heap.size, 0, none⟩ = some (.int .i64 V) ∧ w'.cell? ⟨w2.heap.size, 1, none⟩ = some (.slice ve (rawC V raw).length vcap) ∧ w'.cell? ⟨w6.heap.size, 1, none⟩ = some (.slice sa (rawC V steps).length sc)) := by
      intro g5 cap5 w8 hO8 hg8
      have hC : Chg (fun k => (Value.slice sa (rawC V steps).length sc).ownBlock = some k) _ w8 := Chg.of_grown hg8 (fun k e => e) (fun k e o ho => hSX.oe.cells e o ho)
      have hxO : Own ((W7.alloc (.cells #[] 3)).alloc (.cells #[.slice (some ⟨w6.heap.size + 1, 0, none⟩) 0 0] 24)).drew w5.heap.size 3 (.slice (some ⟨w6.heap.size + 1, 0, none⟩) 0 0) (ints []) := Or.inr ⟨w6.heap.size + 1, 0, rfl, by omega, by decide, ⟨[], by simpa using E0X, rfl⟩⟩
      have hM8 := hSX.more hxO (own_of hO8) hC
      have F8 := BFX.chg hC (own_blk hSX.oe BFX (by decide))
      have S8 := BSX.chg hC (own_blk hSX.oe BSX (by decide))
      have f0 := F8.cell (i := 0) (by simp) undef
      have f1 := F8.cell (i := 1) (by simp) undef
      have f2 := S8.cell (i := 1) (by simp) undef
      simp only [List.getD_cons_zero, List.getD_cons_succ] at f0 f1 f2
      refine ⟨⟨f0, f1, f2⟩, fun q hq => ?_⟩
      have k8 : Below w5.heap.size w5 q := by
        have h1 : Below w5.heap.size w5 ((W7.alloc (.cells #[] 3)).alloc (.cells #[.slice (some ⟨w6.heap.size + 1, 0, none⟩) 0 0] 24)).drew := (hb6.trans (b7.mono (by omega))).trans (bX.mono (by omega))
        have h2 := hC.below (B := w5.heap.size) (by rw [sX]; omega) (fun k e => (hSX.oe.lt e).1)
        exact (h1.trans h2).trans (hq.mono (by have := h2.size; omega))
      obtain ⟨pa', pc', hpe, hpL⟩ := (hM8.below' hq).lists
      simp only [Value.slice.injEq] at hpe
      obtain ⟨rfl, -, rfl⟩ := hpe
      have := check_good V ve (some ⟨g5, 0, none⟩) vcap cap5 (rawC V raw) (rawC V steps ++ [[]]) q ((hLf.below k8 (Nat.le_refl _)).mono k8.size) hpL HGood.out (fault_good HGood.out) (by rw [List.length_append]; simp; omega)
      rw [H7.out, List.length_append] at this
      refine this.mono ?_
      rintro e w' ⟨rfl, hb⟩
      have F9 := (F8.below' hq).below' hb
      have S9 := (S8.below' hq).below' hb
      have g0 := F9.cell (i := 0) (by simp) undef
      have g1 := F9.cell (i := 1) (by simp) undef
      have g2 := S9.cell (i := 1) (by simp) undef
      simp only [List.getD_cons_zero, List.getD_cons_succ] at g0 g1 g2
      exact ⟨_, rfl, (k6.trans (k8.mono k6.size)).trans (hb.mono (k6.trans (k8.mono k6.size)).size), g0, g1, g2⟩
    have HFin : Hid _ := hfin
    clear hfin
    go_region_held3 (fun q => q.cell? ⟨w2.heap.size, 0, none⟩ = some (.int .i64 V) ∧ q.cell? ⟨w2.heap.size, 1, none⟩ = some (.slice ve (rawC V raw).length vcap) ∧ q.cell? ⟨w6.heap.size, 1, none⟩ = some (.slice sa (rawC V steps).length sc))
      (first | exact ⟨c0, c1, c2⟩ | exact ⟨d0, d1, d2⟩ | exact hFd | exact hFc | go_keep)
      (first
        | (refine step_append_lies _ (by rfl) (.tmp 58) (.tmp 60) 23 (by rfl) w5.heap.size 24 i0 (.slice none 0 0) 1 24 Tryd.underlying23 hi hz0 hz1 hz2 (by rfl) (by decide) (.slice sa (rawC V steps).length sc) (rawC V steps).length svs (by rfl) (by exact OA) ⟨w6.heap.size + 1 + 1, 0, none⟩ 1 1 [.slice (some ⟨w6.heap.size + 1, 0, none⟩) 0 0] (by rfl) (by rfl) (by exact World.news_of_block E1X) hone (by decide) (by unfold maxLen; omega) (by omega) (by rw [sX]; omega) (w6.heap.size + 1 + 1 + 1) sX ?_; intro g5 cap5 w8 hO8 hg8 hat8 hlt8; obtain ⟨hFc, cC⟩ := HFin.out g5 cap5 w8 hO8 hg8)
        | (go_at_call 36; refine (cC _ (by first | exact Below.refl _ _ | exact (Below.refl _ _).drew)).mono ?_; rintro e w9 ⟨n9, rfl, hb9, hFd⟩))
    go_wp2
    go_ret
    exact ⟨rfl, hb9⟩
  | unsat F =>
    obtain ⟨e1, -, -, e4⟩ := endOk_check HGood.out.vars HOk.out
    have hlast := endOk_last HOk.out
    simp only [ansOf] at *
    have hck : checkOf V (rawC V raw) 0 (F.map (litsOf 64)) = (((F.map (litsOf 64)).length : Int), 0) := by rw [e1, List.length_map]
    have H3 : Hid _ := proof_three (ms := rawC V more) hlast hck
    have hps4 : (F.map (litsOf 64)).length ≤ 3486784402 := by rw [List.length_map]; exact e4
    clear e1 e4 hlast hck HOk z1 z2 z3
    generalize F.map (litsOf 64) = ps at *
    have cf := kformula_any vars 8 mo mcap more w5 ((hmc.below k6 (Nat.le_refl _)).mono k6.size) hmF hv0 hv1 (by omega) (by omega)
    rw [hV] at cf
    have q0 := BA6.cell (i := 0) (by simp) undef
    have q1 := BA6.cell (i := 1) (by simp) undef
    have q2 := BA6.cell (i := 2) (by simp) undef
    simp only [List.getD_cons_zero, List.getD_cons_succ] at q0 q1 q2
    go_wp2_with fail
    refine cf.mono ?_
    rintro e w6 ⟨v6, mvs, rfl, hMM, hb6⟩
    obtain ⟨sa, sc, rfl, hL6⟩ := hMM.lists
    have s6 := hb6.size
    clear cf q0 q1 q2
    have b7 := alloc_below w6 (.cells #[.int .i64 V, .slice sa (rawC V more).length sc] 31)
    have B7 : Blk (w6.alloc (.cells #[.int .i64 V, .slice sa (rawC V more).length sc] 31)) w6.heap.size 31 [.int .i64 V, .slice sa (rawC V more).length sc] := blk_new w6 [.int .i64 V, .slice sa (rawC V more).length sc] 31
    have s7 := alloc_size w6 (.cells #[.int .i64 V, .slice sa (rawC V more).length sc] 31)
    have BF7 := (B6.below' hb6).below' b7
    have BA7 := (BA6.below' hb6).below' b7
    have c0 := BF7.cell (i := 0) (by simp) undef
    have c1 := BF7.cell (i := 1) (by simp) undef
    simp only [List.getD_cons_zero, List.getD_cons_succ] at c0 c1
    have b8 := alloc_below (w6.alloc (.cells #[.int .i64 V, .slice sa (rawC V more).length sc] 31)) (.cells #[.int .i64 V, .slice none 0 0] 31)
    have B8 := blk_new (w6.alloc (.cells #[.int .i64 V, .slice sa (rawC V more).length sc] 31)) [.int .i64 V, .slice none 0 0] 31
    have s8 := alloc_size (w6.alloc (.cells #[.int .i64 V, .slice sa (rawC V more).length sc] 31)) (.cells #[.int .i64 V, .slice none 0 0] 31)
    dsimp only [List.toArray] at B8
    rw [s7] at B8
    have BM8 := B7.below' b8
    have BF8 := BF7.below' b8
    have BA8 := BA7.below' b8
    have d0 := BF8.cell (i := 0) (by simp) undef
    have d1 := BF8.cell (i := 1) (by simp) undef
    have d2 := BM8.cell (i := 1) (by simp) undef
    have d3 := B8.cell (i := 1) (by simp) undef
    simp only [List.getD_cons_zero, List.getD_cons_succ] at d0 d1 d2 d3
    have hMM8 := (hMM.below' b7).below' b8
    have hF8 := ((hM6.below' hb6).below' b7).below' b8
    have hA8 := ((hA6.below' hb6).below' b7).below' b8
    have k8 : Below w5.heap.size w5 ((w6.alloc (.cells #[.int .i64 V, .slice sa (rawC V more).length sc] 31)).alloc (.cells #[.int .i64 V, .slice none 0 0] 31)) := (hb6.trans (b7.mono (by omega))).trans (b8.mono (by omega))
    have hml : mvs.length = (rawC V more).length := hMM.len
    have hfl : fvs.length = (rawC V raw).length := hM6.len
    have hm60 := rawC_len V more
    have hr60 := rawC_len V raw
    have hone := hMM.els.one
    have hone2 := hM6.els.one
    have hGl := B8.lt
    have nF : w2.heap.size ≠ w6.heap.size + 1 := by omega
    have nA : w4.heap.size ≠ w6.heap.size + 1 := by omega
    have a2 := BA8.cell (i := 2) (by simp) undef
    simp only [List.getD_cons_zero, List.getD_cons_succ] at a2
    go_wp2_with (first
      | (at_builtin; refine wpList_append_any (.tmp 74) (.tmp 76) 23 24 (.slice none 0 0) 24 Tryd.underlying23 Tryd.infoInts rfl _ _ [] (by rfl) (Own.nil _ _ _) w5.heap.size _ mvs (by rfl) hMM8.oe hone (by unfold maxLen; simp only [List.length_nil]; omega) (by simp only [List.length_nil]; omega) (Nat.le_refl _) ?_; intro v9 w9 hO9 hg9; rw [List.nil_append] at hO9; obtain ⟨xa, xc, hxs⟩ := hO9.shape; rw [hml] at hxs; subst hxs; obtain ⟨G9, C9, G10, O10, C10⟩ := app_put B8 (Chg.refl _ _) (Own.nil _ _ _) hO9 hg9; have f9 := G9.frozen 1; have x9 : w9.cell? ⟨w6.heap.size + 1, 1, none⟩ = some (.slice none 0 0) := G9.cell (i := 1) (by simp) undef; have y10 := C10.cell nF d1; have f10 := hF8.oe.chg C10 (fun k e e' => own_blk hF8.oe B8 (by decide) (by rw [e, e'])))
      | (at_builtin; refine wpList_append_any (.tmp 80) (.tmp 82) 23 24 (.slice none 0 0) 24 Tryd.underlying23 Tryd.infoInts rfl _ _ mvs (by rfl) O10 w1.heap.size _ fvs (by rfl) f10 hone2 (by unfold maxLen; omega) (by omega) C10.size ?_; intro v11 w11 hO11 hg11; obtain ⟨za, zc, hzs⟩ := hO11.shape; rw [List.length_append, hml, hfl] at hzs; subst hzs; obtain ⟨G11, C11, G12, O12, C12⟩ := app_put G10 C10 O10 hO11 hg11; have f11 := G11.frozen 1; have x11 : w11.cell? ⟨w6.heap.size + 1, 1, none⟩ = some _ := G11.cell (i := 1) (by simp) undef; have y12 := C12.cell nA a2; have x12 : w11.cell? ⟨w6.heap.size + 1, 0, none⟩ = some (.int .i64 V) := G11.cell (i := 0) (by simp) undef; have z12 : (w11.setCell ⟨w6.heap.size + 1, 1, none⟩ (.slice za ((rawC V more).length + (rawC V raw).length) zc)).cell? ⟨w6.heap.size + 1, 0, none⟩ = some (.int .i64 V) := G12.cell (i := 0) (by simp) undef))
    generalize w11.setCell ⟨w6.heap.size + 1, 1, none⟩ (.slice za ((rawC V more).length + (rawC V raw).length) zc) = w12 at *
    have b12 := C12.below (B := w6.heap.size) (by omega) (fun k e => by omega)
    have k12 : Below w6.heap.size w6 w12 := (b7.trans (b8.mono (by omega))).trans b12
    have s12 := b12.size
    have kw12 : Below w5.heap.size w5 w12 := hb6.trans (k12.mono s6)
    obtain ⟨ve', vcap', hve, hLf⟩ := hM6.lists
    simp only [Value.slice.injEq] at hve
    obtain ⟨rfl, -, rfl⟩ := hve
    obtain ⟨pa', pc', hpe, hLp, hpcap⟩ := hA6.proof.lists
    simp only [Value.slice.injEq] at hpe
    obtain ⟨rfl, -, rfl⟩ := hpe
    have hEls : Els w12 w6.heap.size (mvs ++ fvs) (rawC V more ++ rawC V raw) := (hMM.els.below k12).append ((hM6.els.below kw12).mono s6)
    obtain ⟨za', zc', hze, hLg⟩ := hEls.lists (by omega) O12
    rw [List.length_append] at hze
    simp only [Value.slice.injEq] at hze
    obtain ⟨rfl, -, rfl⟩ := hze
    have hGa : Good V (rawC V more ++ rawC V raw) := good_append (rawC_good hV1 (by omega) more) HGood.out hm60 hr60
    have ck := check_good V za pa zc pc (rawC V more ++ rawC V raw) ps w12 hLg ((hLp.below kw12 (Nat.le_refl _)).mono kw12.size) hGa (fault_good hGa) (by omega)
    rw [H3.out.1] at ck
    unfold fm at ck
    rw [List.length_append] at ck
    refine ck.mono ?_
    rintro e w13 ⟨rfl, hb13⟩
    have BF13 := (BF8.chg C12 nF).below' hb13
    have BA13 := (BA8.chg C12 nA).below' hb13
    have k13 : Below w5.heap.size w5 w13 := kw12.trans (hb13.mono kw12.size)
    have kk13 : Below w.heap.size w w13 := k6.trans (k13.mono k6.size)
    have hP13 := MadeS.els (hA6.proof.below' k13)
    have s13 := k13.size
    clear ck hGa hLg hEls hMM hMM8 hF8 hA8 G9 C9 G10 O10 C10 G11 C11 G12 O12 C12 f9 x9 y10 f10 f11 x11 y12 x12 z12 B8 BM8 BF8 BA8 d0 d1 d2 d3 a2 c0 c1 BF7 BA7 B7 hO9 hg9 hO11 hg11 b12 k12 hone hone2 hL6 k8
    have c0 : w13.cell? ⟨w2.heap.size, 0, none⟩ = some (.int .i64 V) := BF13.cell (i := 0) (by simp) undef
    have c1 : w13.cell? ⟨w2.heap.size, 1, none⟩ = some (.slice ve (rawC V raw).length vcap) := BF13.cell (i := 1) (by simp) undef
    have c2 : w13.cell? ⟨w4.heap.size, 2, none⟩ = some (.slice pa ps.length pc) := BA13.cell (i := 2) (by simp) undef
    have hpos := H3.out.2.2.2
    obtain ⟨pg, pcap', hpe, hpgl, hpcell⟩ := (hA6.proof.oe.below' k13).at (by rw [hA6.proof.len]; exact hpos)
    simp only [Value.slice.injEq] at hpe
    obtain ⟨rfl, -, rfl⟩ := hpe
    have HPc : Hid _ := hpcell
    go_wp2
    obtain ⟨L, hLn⟩ : ∃ L : Nat, (ps.length : Int) - 1 = L := ⟨ps.length - 1, by omega⟩
    simp only [hLn]
    have hLf13 := (hLf.below k13 (Nat.le_refl _)).mono k13.size
    have hLp13 := (hLp.below k13 (Nat.le_refl _)).mono k13.size
    have hL1 : L = ps.length - 1 := by omega
    have j0 : (0 : Int) ≤ (L : Int) := by omega
    have j3 : ¬ pc = 0 := by omega
    have j4 : L ≤ pc := by omega
    have j1 : (L : Int) ≤ (pc : Int) := by omega
    have j2 : (L : Int) ≤ (ps.length : Int) := by omega
    have hfin : ∀ q, Below w13.heap.size w13 q → Calls Tryd.prog 36 #[.agg #[.int .i64 V, .slice ve (rawC V raw).length vcap], .slice (some ⟨pg, 0, none⟩) L pc] q fun e w' => e = .returned (.tuple #[.int .i64 L, .int .i64 8]) ∧ Below w13.heap.size w13 w' ∧ (w'.cell? ⟨w2.heap.size, 0, none⟩ = some (.int .i64 V) ∧ w'.cell? ⟨w2.heap.size, 1, none⟩ = some (.slice ve (rawC V raw).length vcap) ∧ w'.cell? ⟨w4.heap.size, 2, none⟩ = some (.slice (some ⟨pg, 0, none⟩) ps.length pc)) := by
      intro q hq
      have := check_good V ve (some ⟨pg, 0, none⟩) vcap pc (rawC V raw) (ps.take (ps.length - 1)) q ((hLf13.below hq (Nat.le_refl _)).mono hq.size) (((hLp13.below hq (Nat.le_refl _)).mono hq.size).take _) HGood.out (fault_good HGood.out) (by rw [List.length_take]; omega)
      rw [H3.out.2.1, List.length_take, Nat.min_eq_left (by omega), ← hL1] at this
      refine this.mono ?_
      rintro e w' ⟨rfl, hb⟩
      have F9 := (BF13.below' hq).below' hb
      have S9 := (BA13.below' hq).below' hb
      exact ⟨rfl, hq.trans (hb.mono hq.size), F9.cell (i := 0) (by simp) undef, F9.cell (i := 1) (by simp) undef, S9.cell (i := 2) (by simp) undef⟩
    have HFin : Hid _ := hfin
    have HL1 : Hid (L = ps.length - 1) := hL1
    have HLn : Hid ((ps.length : Int) - 1 = L) := hLn
    clear hfin hL1 hLn hml hfl hpcell
    go_region_held3 (fun q => q.cell? ⟨w2.heap.size, 0, none⟩ = some (.int .i64 V) ∧ q.cell? ⟨w2.heap.size, 1, none⟩ = some (.slice ve (rawC V raw).length vcap) ∧ q.cell? ⟨w4.heap.size, 2, none⟩ = some (.slice (some ⟨pg, 0, none⟩) ps.length pc))
      (first | exact ⟨c0, c1, c2⟩ | exact hFd | go_keep)
      (first
        | (go_at_call 36; refine (HFin.out _ (by first | exact Below.refl _ _ | exact (Below.refl _ _).drew)).mono ?_; rintro e w14 ⟨rfl, hb14, hFd⟩)
        | fail)
    go_wp2
    obtain ⟨c0, c1, c2⟩ := hFd
    have BF14 := BF13.below' hb14
    have BA14 := BA13.below' hb14
    have s14 := hb14.size
    have hvl : vs.length = ps.length := hP13.len
    have HE14 : Hid (Els w14 w14.heap.size vs ps) := (hP13.below hb14).mono s14
    have hA4 := BA14.lt
    have hLf14 := (hLf13.below hb14 (Nat.le_refl _)).mono s14
    have HLf14 : Hid (ListsAt w14 w14.heap.size ve (rawC V raw)) := hLf14
    have HB14 : Hid (Below w.heap.size w w14) := kk13.trans (hb14.mono kk13.size)
    have hw14 : w.heap.size ≤ w14.heap.size := HB14.out.size
    have HPd : Hid (∀ i, i < vs.length → w14.cell? ⟨pg, i, none⟩ = some (vs.getD i undef)) := fun i hi => (hb14.cell (p := ⟨pg, i, none⟩) hpgl).trans (HPc.out i hi)
    have hpg14 : pg < w14.heap.size := by omega
    clear hLf14 hLf13 hLp13 hP13 hLf hLp hM6 hA6 B6 BA6 BF13 BA13 HFin HPc c0 c1 c2 hvl
    go_loopw [24, 25] (fun vd x wr => ∃ i : Nat, i ≤ ps.length ∧ x = .int .i64 i ∧ Hid (Own wr w14.heap.size 24 vd (dblV (vs.take i))) ∧ Hid (Below w14.heap.size w14 wr)) (fun _ x _ => ps.length - (intOf x).toNat)
    case atStart => exact ⟨0, Nat.zero_le _, rfl, by rw [List.take_zero]; exact Own.nil _ _ _, Below.refl _ _⟩
    case round =>
      obtain ⟨i, hi', rfl, HO, HBq⟩ := hrel
      have hsq := HBq.out.size
      have a2 : wr.cell? ⟨w4.heap.size, 2, none⟩ = some (.slice (some ⟨pg, 0, none⟩) ps.length pc) := (BA14.below' HBq.out).cell (i := 2) (by simp) undef
      by_cases hlt : i < ps.length
      · have hpi : wr.cell? ⟨pg, i, none⟩ = some (vs.getD i undef) := (HBq.out.cell (p := ⟨pg, i, none⟩) hpg14).trans (HPd.out i (by rw [HE14.out.len]; exact hlt))
        obtain ⟨A, Cc, hvi, hin⟩ := HE14.out.els i hlt
        rw [hvi] at hpi
        have HD : Hid (dblV (vs.take (i + 1)) = dblV (vs.take i) ++ [.slice A (ps.getD i []).length Cc, .slice A (ps.getD i []).length Cc]) := by
          have := dblV_take vs i (by rw [HE14.out.len]; exact hlt)
          rw [hvi] at this
          exact this
        have hdl : (dblV (vs.take i)).length = 2 * i := by rw [dblV_len, List.length_take, HE14.out.len]; omega
        clear hin hvi
        generalize (ps.getD i []).length = cl at *
        have i0' : (0 : Int) ≤ (i : Int) := by omega
        have i1' : (i : Int) < (ps.length : Int) := by omega
        have OA : Own (wr.alloc (.cells #[.slice A cl Cc, .slice A cl Cc] 24)).drew w14.heap.size 24 u24 (dblV (vs.take i)) := (HO.out.alloc (.cells #[.slice A cl Cc, .slice A cl Cc] 24)).chg (S := fun _ => False) (Chg.drew (Chg.refl _ _)) (fun _ _ h => h)
        have BA0 := alloc_below wr (.cells #[.slice A cl Cc, .slice A cl Cc] 24)
        have BX : Below wr.heap.size wr (wr.alloc (.cells #[.slice A cl Cc, .slice A cl Cc] 24)).drew := BA0.drew
        have NA : Blk (wr.alloc (.cells #[.slice A cl Cc, .slice A cl Cc] 24)).drew wr.heap.size 24 [.slice A cl Cc, .slice A cl Cc] := (blk_new wr [.slice A cl Cc, .slice A cl Cc] 24).drew
        have SA : (wr.alloc (.cells #[.slice A cl Cc, .slice A cl Cc] 24)).drew.heap.size = wr.heap.size + 1 := alloc_size wr _
        have hone : ∀ u ∈ [Value.slice A cl Cc, .slice A cl Cc], u.oneCell' = true := by intro u hu; simp at hu; rw [hu]; rfl
        have OA' : (wr.alloc (.cells #[.slice A cl Cc, .slice A cl Cc] 24)).drew.ownsRow w14.heap.size 24 1 u24 (2 * i) (dblV (vs.take i)) := by
          have := OA.own
          rwa [hdl] at this
        have hlow : ∀ q, q < w14.heap.size → u24.ownBlock ≠ some q := fun q hq e => by have := (OA.lt e).1; omega
        have hpw : pg < wr.heap.size := by omega
        have haw : w4.heap.size < wr.heap.size := by omega
        have hp3 : wr.drew.cell? ⟨pg, i, none⟩ = _ := hpi
        have ha3 : wr.drew.cell? ⟨w4.heap.size, 2, none⟩ = _ := a2
        have hpx := (BX.cell (p := ⟨pg, i, none⟩) hpw).trans hpi
        have hax := (BX.cell (p := ⟨w4.heap.size, 2, none⟩) haw).trans a2
        clear hdl
        go_wp2
        go_region_held3 (fun q => q.cell? ⟨w4.heap.size, 2, none⟩ = some (.slice (some ⟨pg, 0, none⟩) ps.length pc) ∧ q.cell? ⟨pg, i, none⟩ = some (.slice A cl Cc))
          (first | exact ⟨k2, k3⟩ | exact ⟨a2, hpi⟩ | exact ⟨ha3, hp3⟩ | exact ⟨hax, hpx⟩ | go_keep)
          (first
            | (refine step_append_lies _ (by rfl) (.tmp 112) (.tmp 123) 23 (by rfl) w14.heap.size 24 i0 (.slice none 0 0) 1 24 Tryd.underlying23 hi hz0 hz1 hz2 (by rfl) (by decide) u24 (2 * i) (dblV (vs.take i)) (by rfl) (by exact OA') ⟨wr.heap.size, 0, none⟩ 2 2 [.slice A cl Cc, .slice A cl Cc] (by rfl) (by rfl) (by exact World.news_of_block NA) hone (by decide) (by unfold maxLen; omega) (by omega) (by rw [SA]; omega) (wr.heap.size + 1) SA ?_; intro g5 cap5 w5' hO5 hgr5 hat5 hlt5; have k3 : w5'.cell? ⟨pg, i, none⟩ = some (.slice A cl Cc) := (World.cell?_of_block (w := (wr.alloc (.cells #[.slice A cl Cc, .slice A cl Cc] 24)).drew) (hgr5.block pg (by rw [SA]; omega) (fun e => hlow pg hpg14 e.symm))).trans hpx; have k2 : w5'.cell? ⟨w4.heap.size, 2, none⟩ = some (.slice (some ⟨pg, 0, none⟩) ps.length pc) := (World.cell?_of_block (w := (wr.alloc (.cells #[.slice A cl Cc, .slice A cl Cc] 24)).drew) (hgr5.block w4.heap.size (by rw [SA]; omega) (fun e => hlow w4.heap.size hA4 e.symm))).trans hax)
            | fail)
        go_wp2
        go_roundw
        case rel =>
          refine ⟨i + 1, by omega, by go_num, ?_, ?_⟩
          · rw [HD.out]
            exact own_of hO5
          · refine HBq.out.trans ((BX.mono hsq).trans ⟨hgr5.os, hgr5.tape, hgr5.output, hgr5.size, fun q hq => hgr5.block q (by rw [SA]; omega) (fun e => hlow q hq e.symm)⟩)
        case measure => simp [intOf]; omega
      · obtain rfl : i = ps.length := by omega
        have hOv := HO.out
        rw [List.take_of_length_le (by rw [HE14.out.len]; exact Nat.le_refl _)] at hOv
        obtain ⟨da, dc, hda, hLd⟩ := (HE14.out.below HBq.out).dbl.lists hsq hOv
        subst hda
        have ck := check_good V ve da vcap dc (rawC V raw) (dbl ps) wr ((HLf14.out.below HBq.out (Nat.le_refl _)).mono hsq) hLd HGood.out (fault_good HGood.out) (by rw [dbl_len]; omega)
        rw [H3.out.2.2.1, show (((2 * ps.length - 1 : Nat)) : Int) = 2 * (ps.length : Int) - 1 by omega] at ck
        unfold fm at ck
        have c0 : wr.cell? ⟨w2.heap.size, 0, none⟩ = some (.int .i64 V) := (BF14.below' HBq.out).cell (i := 0) (by simp) undef
        have c1 : wr.cell? ⟨w2.heap.size, 1, none⟩ = some (.slice ve (rawC V raw).length vcap) := (BF14.below' HBq.out).cell (i := 1) (by simp) undef
        go_wp2_with fail
        refine ck.mono ?_
        rintro e w15 ⟨rfl, hb15⟩
        have a15 : w15.cell? ⟨w4.heap.size, 2, none⟩ = some (.slice (some ⟨pg, 0, none⟩) ps.length pc) := ((BA14.below' HBq.out).below' hb15).cell (i := 2) (by simp) undef
        have HBe : Hid (Below w.heap.size w w15) := HB14.out.trans ((HBq.out.mono hw14).trans (hb15.mono (by omega)))
        clear ck a2 c0 c1 hOv hLd HO
        have hLe : ((L : Int)) = (ps.length : Int) - 1 := HLn.out.symm
        have HLe : Hid _ := hLe
        clear hLe
        go_wp2
        go_ret
        exact ⟨rfl, HBe.out⟩
end Go.Proofs.YtlodenfdcckemaaDoor
