/-
  Several texts, one behind the other.
-/
import Derived.Test.YtlodenfdcckemabDoorH29
import Derived.Test.YtlodenfdcckemabDoorH23
import Derived.Test.YtlodenfdcckemabDoorH22
import Derived.Laws.OwnMore
import Derived.Deep.AppendLies
import Derived.Deep.QuietTactic
import Derived.BigQuiet
/-
  Answers in memory; the walks of the document's Right, of sameLists, alike and copied.
-/

namespace Go.Proofs.YtlodenfdcckemabDoor
open Go.RowKit

theorem MadeS.lists {w : World} {base : Nat} {v : Value} {vs : List Value} {cs : List (List Int)} (h : MadeS w base v vs cs) : ∃ ao cap, v = .slice ao cs.length cap ∧ ListsAt w w.heap.size ao cs ∧ cs.length ≤ cap := by
  have hlen := h.len
  rcases h.oe with ⟨rfl, h0⟩ | ⟨g, cap, rfl, hb, h63, hr⟩
  · have : cs = [] := by rw [h0] at hlen; simpa using hlen.symm
    subst this
    exact ⟨none, 0, rfl, fun h => absurd rfl h, Nat.le_refl _⟩
  · refine ⟨some ⟨g, 0, none⟩, cap, by rw [hlen], fun hne => ⟨g, 0, rfl, hr.lt, fun i hi => ?_⟩, by rw [← hlen]; exact hr.le⟩
    have hi' : i < vs.length := by omega
    obtain ⟨A, C, h1, h2⟩ := (h.ls i hi').ints (Nat.le_refl _)
    exact ⟨A, C, by rw [Nat.zero_add, hr.cell hi' undef, h1], h2⟩

theorem own_intsAt {w : World} {base : Nat} {v : Value} {zs : List Int} (h : Own w base 3 v (ints zs)) : ∃ ao cap, v = .slice ao zs.length cap ∧ IntsAt w w.heap.size ao zs := h.ints (Nat.le_refl _)

/-- What an end answers. -/
def ansOf : End → Bool × List Int × List (List Int)
  | .sat S => (true, litsOf 64 S, [])
  | .unsat F => (false, [], F.map (litsOf 64))

/-- An answer in memory. -/
structure AnsAt (w : World) (b : Nat) (zs : List Int) (ps : List (List Int)) (vm vp : Value) (vs : List Value) : Prop where
  model : Own w b 3 vm (ints zs)
  proof : MadeS w b vp vs ps

theorem AnsAt.below' {w w' : World} {b : Nat} {zs : List Int} {ps : List (List Int)} {vm vp : Value} {vs : List Value} (h : AnsAt w b zs ps vm vp vs) (hb : Below w.heap.size w w') : AnsAt w' b zs ps vm vp vs := ⟨h.model.below' hb, h.proof.below' hb⟩

theorem solEnd_ans {b : Nat} {e : Ending} {w' : World} {en : End} (h : SolEnd b e w' en) : ∃ vm vp vs, e = .returned (.tuple #[.agg #[.bool (ansOf en).1, vm, vp], .int .i64 0]) ∧ AnsAt w' b (ansOf en).2.1 (ansOf en).2.2 vm vp vs := by
  cases en with
  | sat S =>
    obtain ⟨v, rfl, hv⟩ := h
    exact ⟨v, _, [], rfl, hv, MadeS.start _ _⟩
  | unsat F =>
    obtain ⟨v, vs, rfl, hv⟩ := h
    exact ⟨_, v, vs, rfl, Own.nil _ _ _, hv⟩

/-- How great an answer can be. -/
theorem ans_few {V : Nat} (hV : V ≤ 20) {cs : List (List Int)} {en : End} (h : EndOk V cs en) : (ansOf en).2.1.length ≤ 20 ∧ (ansOf en).2.2.length ≤ 3486784402 ∧ ∀ c ∈ (ansOf en).2.2, c.length ≤ 20 ∧ ∀ l ∈ c, IsLit V l := by
  cases en with
  | sat S =>
    refine ⟨?_, by simp [ansOf], by simp [ansOf]⟩
    show (litsOf 64 S).length ≤ 20
    rw [(endOk_model hV h).1, modelOf_len]
    exact hV
  | unsat F =>
    obtain ⟨-, h2, -, h4⟩ := endOk_check hV h
    exact ⟨by simp [ansOf], by simpa [ansOf] using h4, h2⟩

/-! The law's own looks. -/

theorem ints_drewN {w : World} {ao : Option Addr} {zs : List Int} (h : IntsAt w w.heap.size ao zs) (n : Nat) : IntsAt (w.drewN n) (w.drewN n).heap.size ao zs := h

end Go.Proofs.YtlodenfdcckemabDoor

/-
  The walk of copied.
-/

namespace Go.Proofs.YtlodenfdcckemabDoor
open Go.RowKit

/-- 'append(s, x...)', x a list that lies in memory, none or some. -/
theorem wpList_append_any {P : Program} {w : World} {ops : Array Oper} {rest : List Oper} {a : Act} {Q : Exit → Act → World → Prop} {dst : Option Tmp} {type : TypeId} {pos : String} {after : Array Edge} (s x : Operand) (t e : TypeId) (z : Value) (bytes : Nat)
    (hu : P.underlying t = some (.slice e)) (hinfo : (P.info? e).map (fun i => (i.zero, i.size, i.bytes)) = some (some z, 1, bytes)) (hz1 : z.cells.size = 1) (base : Nat) (v : Value) (xs : List Value) (hs : a.eval s = v) (ho : Own w base e v xs)
    (b2 : Nat) (u : Value) (news : List Value) (hx : a.eval x = u) (hu2 : Own w b2 e u news) (h1 : ∀ y ∈ news, y.oneCell' = true) (h63 : xs.length + news.length ≤ maxLen) (hby : (xs.length + news.length) * bytes ≤ 140737488355328) (hbase : base ≤ w.heap.size)
    (hK : ∀ v' w', Own w' base e v' (xs ++ news) → w.grownBy w' v.ownBlock → wpList P ops Q rest (a.put dst v') w') :
    wpList P ops Q (⟨dst, .call { callee := .builtin .append, args := #[s, x], argTypes := #[t, t] }, type, pos, after, none⟩ :: rest) a w := by
  obtain ⟨i, hi, hzz⟩ := Option.map_eq_some_iff.1 hinfo
  simp only [Prod.mk.injEq] at hzz
  obtain ⟨hz, hsz, hb⟩ := hzz
  refine wpList_plain rfl fun K hK' => ?_
  rcases hu2 with ⟨rfl, hn⟩ | ⟨g, cap, rfl, _, _, hr⟩
  · subst hn
    have hrun := run_append_owned_none (P := P) (w := w) base t type e i 1 hu hi v xs.length xs ho.own
    unfold Oper.wp
    simp only [execOp, resolve, invoke, builtin, Sem.run_bind, Sem.run_pure, Result.andThen_ok, List.map_toArray, List.map_cons, List.map_nil, hs, hx, hrun]
    exact hK' _ _ (hK v w (by simpa using ho) ⟨rfl, rfl, rfl, Nat.le_refl _, fun _ _ _ => rfl⟩)
  · have hnews : ∀ j y, news[j]? = some y → w.cell? ((⟨g, 0, none⟩ : Addr).add j) = some y := fun j y hj => by
      have hadd : (⟨g, 0, none⟩ : Addr).add j = ⟨g, j, none⟩ := by unfold Addr.add; split <;> simp_all
      obtain ⟨hlt, hy⟩ := List.getElem?_eq_some_iff.1 hj
      rw [hadd, hr.cell hlt undef, getD_lt _ _ _ hlt, hy]
    obtain ⟨v', w', hrun, h2, h3, _, _⟩ := run_append_own_at (P := P) w base t type e i z 1 bytes hu hi hz hsz hb hz1 (by decide) v xs.length xs ho.own ⟨g, 0, none⟩ news.length cap news (by omega) hnews h1 h63 hby hbase
    unfold Oper.wp
    simp only [execOp, resolve, invoke, builtin, Sem.run_bind, Sem.run_pure, Result.andThen_ok, List.map_toArray, List.map_cons, List.map_nil, hs, hx, hrun]
    refine hK' _ _ (hK v' w' ?_ h3)
    have h2' := h2
    obtain ⟨hl, ⟨rfl, h0⟩ | ⟨g', cap', cur, rfl, _⟩⟩ := h2'
    · exact Or.inl ⟨rfl, List.eq_nil_of_length_eq_zero (by rw [hl, h0])⟩
    · exact own_of h2

theorem ints_oneCell (zs : List Int) : ∀ y ∈ ints zs, y.oneCell' = true := ints_one zs

/-- While the steps are copied. -/
structure CopI (w : World) (s : Bool) (zs : List Int) (ps : List (List Int)) (vm vp v1 : Value) (i : Nat) (wr : World) (v2 : Value) (vs2 : List Value) : Prop where
  b0 : Blk wr w.heap.size 29 [.bool s, vm, vp]
  b1 : Blk wr (w.heap.size + 1) 29 [.bool false, .slice none 0 0, .slice none 0 0]
  b2 : Blk wr (w.heap.size + 1 + 1) 29 [.bool s, v1, v2]
  model : Own wr w.heap.size 3 v1 (ints zs)
  proof : MadeS wr w.heap.size v2 vs2 (ps.take i)
  old : Below w.heap.size w wr

theorem CopI.more {w : World} {s : Bool} {zs : List Int} {ps : List (List Int)} {vm vp v1 : Value} {i : Nat} {wr w1 w2 w3 : World} {v2 x v3 : Value} {vs2 : List Value} {o : Obj} {c : List Int} (h : CopI w s zs ps vm vp v1 i wr v2 vs2) (hg1 : wr.grownBy w1 none) (hx : Own w1 wr.heap.size 3 x (ints c)) (hO : Own w2 w.heap.size 27 v3 (vs2 ++ [x])) (hg2 : (w1.alloc o).grownBy w2 v2.ownBlock)
    (hp : ps.take (i + 1) = ps.take i ++ [c]) (e3 : w3 = w2.setCell ⟨w.heap.size + 1 + 1, 2, none⟩ v3) (hne : ∃ g n cap, v3 = .slice (some ⟨g, 0, none⟩) n cap) : CopI w s zs ps vm vp v1 (i + 1) w3 v3 (vs2 ++ [x]) ∧ Blk w2 (w.heap.size + 1 + 1) 29 [.bool s, v1, v2] := by
  subst e3
  obtain ⟨g, n, cap, rfl⟩ := hne
  have hb1 : Below wr.heap.size wr w1 := ⟨hg1.os, hg1.tape, hg1.output, hg1.size, fun k hk => hg1.block k hk (by simp)⟩
  have hP1 := h.proof.below' hb1
  have hC : Chg (fun k => v2.ownBlock = some k) w1 w2 := (Chg.of_below (alloc_below w1 o)).trans (Chg.of_grown (S := fun k => v2.ownBlock = some k) hg2 (fun k e => e) (fun k e o' ho => (hP1.oe.alloc o).cells e o' ho))
  have hM := h.proof.more hb1 hx h.old.size hO hC
  have hCw : Chg (fun k => v2.ownBlock = some k) wr w2 := (Chg.of_below hb1).trans hC
  have nB : ∀ q L, Blk wr q 29 L → ¬ v2.ownBlock = some q := fun q L hq => own_blk h.proof.oe hq (by decide)
  have c0 := h.b0.chg hCw (nB _ _ h.b0)
  have c1 := h.b1.chg hCw (nB _ _ h.b1)
  have c2 := h.b2.chg hCw (nB _ _ h.b2)
  have ht : TChg (fun t => t = 29) w2 (w2.setCell ⟨w.heap.size + 1 + 1, 2, none⟩ (.slice (some ⟨g, 0, none⟩) n cap)) := ⟨fun k => k = w.heap.size + 1 + 1, (Chg.refl (fun k => k = w.heap.size + 1 + 1) w2).setB _ 2 rfl _, fun b e _ => by obtain rfl : b = w.heap.size + 1 + 1 := e; exact ⟨_, _, c2, rfl⟩⟩
  have tm : TChg (fun t => t = 27) wr w2 := ⟨_, hCw, fun b e _ => by obtain ⟨L, hL⟩ := h.proof.oe.blkOf e; exact ⟨_, L, hL, rfl⟩⟩
  refine ⟨⟨c0.setOther (a := ⟨w.heap.size + 1 + 1, 2, none⟩) (by simp; omega) _, c1.setOther (a := ⟨w.heap.size + 1 + 1, 2, none⟩) (by simp) _, c2.set 2 _, ht.own (tm.own h.model (by decide)) (by decide), by rw [hp]; exact hM.tchg ht (by decide) (by decide), ?_⟩, c2⟩
  have hb2 : Below w.heap.size w w2 := h.old.trans (hCw.below h.old.size fun k e => (h.proof.oe.lt e).1)
  exact hb2.setCell (p := ⟨w.heap.size + 1 + 1, 2, none⟩) (show w.heap.size ≤ w.heap.size + 1 + 1 by omega) _

end Go.Proofs.YtlodenfdcckemabDoor

/-
  The books' take.
-/

namespace Go.Proofs.YtlodenfdcckemabDoor
open Go.RowKit

theorem blk_new_set (w : World) (O : Nat) (v : Value) (L : List Value) : Blk ((w.setCell ⟨O, 0, none⟩ v).alloc (.cells L.toArray 3)) w.heap.size 3 L := by
  have := blk_new (w.setCell ⟨O, 0, none⟩ v) L 3
  rwa [show (w.setCell ⟨O, 0, none⟩ v).heap.size = w.heap.size by simp [World.setCell]] at this

end Go.Proofs.YtlodenfdcckemabDoor

/-
  The books take a list of lists.
-/

namespace Go.Proofs.YtlodenfdcckemabDoor
open Go.RowKit

theorem Tryd.info22 : (Tryd.prog.info? 22).map (fun i => (i.zero, i.size, i.bytes)) = some (some (.slice none 0 0), 1, 24) := by kernel_rfl

theorem Chg.trans' {S T : Nat → Prop} {a b c : World} (h : Chg S a b) (k : Chg T b c) (hs : ∀ i, i < a.heap.size → T i → S i) : Chg S a c :=
  ⟨k.os.trans h.os, k.tape.trans h.tape, k.output.trans h.output, Nat.le_trans h.size k.size, fun i hi hn => (k.block i (Nat.lt_of_lt_of_le hi h.size) (fun e => hn (hs i hi e))).trans (h.block i hi hn), fun i o hi ho => k.others i o (h.others i o hi ho) ho⟩

theorem nodup_at {vs : List Value} {i j k : Nat} (h : (vs.filterMap Value.ownBlock).Nodup) (hi : i < vs.length) (hj : j < i) (e : (vs.getD i undef).ownBlock = some k) (e' : (vs.getD j undef).ownBlock = some k) : False := by
  rw [getD_lt _ _ _ hi] at e
  rw [getD_lt _ _ _ (by omega)] at e'
  exact List.pairwise_iff_getElem.1 (List.pairwise_filterMap.1 h) j i (by omega) hi hj k e' k e rfl

end Go.Proofs.YtlodenfdcckemabDoor

/-
  The books' look at what was kept.
-/

namespace Go.Proofs.YtlodenfdcckemabDoor
open Go.RowKit

end Go.Proofs.YtlodenfdcckemabDoor

/-
  The walk of the law's right.
-/

namespace Go.Proofs.YtlodenfdcckemabDoor
open Go.RowKit

theorem blk_keeps {w w' : World} {S : Nat → Prop} {q B : Nat} {t : TypeId} {L : List Value} (h : Blk w q t L) (hc : Chg S w w') (hS : ∀ k, S k → k < B ∨ w.heap.size ≤ k) (hq : B ≤ q) : Blk w' q t L := h.chg hc (fun e => by have := h.lt; rcases hS q e with h1 | h1 <;> omega)

end Go.Proofs.YtlodenfdcckemabDoor

/-
  The walks of told, answered and count.
-/

namespace Go.Proofs.YtlodenfdcckemabDoor
open Go.RowKit

theorem shl_wide {j : Nat} (h : j ≤ 20) : wrap64 ((2 : Int) ^ j) = ((2 ^ j : Nat) : Int) := by
  have hp : (2 : Nat) ^ j ≤ 2 ^ 20 := Nat.pow_le_pow_right (by decide) h
  have e20 : (2 : Nat) ^ 20 = 1048576 := by decide
  have e : ((2 : Int) ^ j) = ((2 ^ j : Nat) : Int) := by simp
  rw [e]
  generalize (2 : Nat) ^ j = q at *
  unfold wrap64
  first | omega | (rw [Int.emod_eq_of_lt] <;> omega) | simp <;> omega

set_option maxHeartbeats 1000000 in
theorem told_any (V S : Nat) (hV : V ≤ 20) (ao : Option Addr) (cap : Nat) (w : World) (hc : IntsAt w w.heap.size ao (modelOf V S)) :
    Calls Tryd.prog 21 #[.slice ao V cap, .int .i64 V] w fun e w' => e = .returned (.tuple #[.int .i64 (toldOf S V), .bool true]) ∧ w' = w := by
  have hne : ((V : Int) == (V : Int)) = true := by simp
  have hml := modelOf_len V S
  have HAt : Hid (∀ v, v < V → (modelOf V S).getD v 0 = if S.testBit (2 * v) then ((v + 1 : Nat) : Int) else -((v + 1 : Nat) : Int)) := fun v hv => by
    unfold modelOf
    rw [List.getD_eq_getElem?_getD, List.getElem?_map, List.getElem?_range hv]
    rfl
  generalize modelOf V S = zs at *
  go_enter Tryd.func21, Tryd.ntmps21
  go_wp2
  go_loop [6, 7] (fun b x => ∃ j : Nat, j ≤ V ∧ x = .int .i64 j ∧ b = .int .i64 (toldOf S j)) (fun _ x => V - (intOf x).toNat)
  case atStart => exact ⟨0, Nat.zero_le _, rfl, rfl⟩
  case round =>
    obtain ⟨j, hj, rfl, rfl⟩ := hrel
    by_cases hlt : j < V
    · obtain ⟨b0, o0, rfl, hb0, hcell⟩ := hc (by intro h; rw [h] at hml; simp at hml; omega)
      have hcx := hcell j (by omega)
      rw [HAt.out j hlt] at hcx
      have HO : Hid _ := i64_or (toldOf S j) j (toldOf_lt S j) (by omega)
      have HS : Hid _ := shl_wide (j := j) (by omega)
      have i0 : (0 : Int) ≤ (j : Int) := by omega
      have i1 : (j : Int) < (V : Int) := by omega
      have HN : Hid (toldOf S (j + 1) = if S.testBit (2 * j) then toldOf S j + 2 ^ j else toldOf S j) := rfl
      clear hcell
      cases hbit : S.testBit (2 * j) with
      | true =>
        rw [hbit] at hcx
        simp only [if_true] at hcx
        have HN' : Hid (toldOf S (j + 1) = toldOf S j + 2 ^ j) := by have := HN.out; rw [hbit] at this; exact this
        clear hbit HN
        have hq : (((j + 1 : Nat) : Int) == (j : Int) + 1) = true := by simp
        go_wp2
        go_round
        case rel =>
          refine ⟨j + 1, by omega, by go_num, ?_⟩
          rw [HN'.out, ← HO.out, ← HS.out]
        case measure => simp [intOf]; omega
      | false =>
        rw [hbit] at hcx
        simp only [Bool.false_eq_true, if_false] at hcx
        have HN' : Hid (toldOf S (j + 1) = toldOf S j) := by have := HN.out; rw [hbit] at this; exact this
        clear hbit HN
        go_wp2
        go_round
        case rel => exact ⟨j + 1, by omega, by go_num, by rw [HN'.out]⟩
        case measure => simp [intOf]; omega
    · obtain rfl : j = V := by omega
      go_wp2
      go_ret2
      exact ⟨rfl, rfl⟩

set_option maxRecDepth 100000 in
set_option maxHeartbeats 1000000 in
theorem answered_any (n : Nat) (ao : Option Addr) (cap : Nat) (cs : List (List Int)) (en : End) (vm vp : Value) (vs : List Value) (b : Nat) (w : World) (hc : ListsAt w w.heap.size ao cs) (hg : Good n cs) (hok : EndOk n cs en) (ha : AnsAt w b (ansOf en).2.1 (ansOf en).2.2 vm vp vs) :
    Calls Tryd.prog 9 #[.agg #[.int .i64 n, .slice ao cs.length cap], .agg #[.bool (ansOf en).1, vm, vp]] w fun e w' => e = .returned (.bool true) ∧ Below w.heap.size w w' := by
  have hlit : ∀ c ∈ cs, ∀ l ∈ c, IsLit n l := fun c hc l hl => hg.lits c hc l hl
  obtain ⟨ma, mc, rfl, hmi⟩ := own_intsAt ha.model
  obtain ⟨pa, pc, rfl, hpl, hpc⟩ := ha.proof.lists
  have hb1 := alloc_below w (.cells #[.int .i64 n, .slice ao cs.length cap] 25)
  cases en with
  | sat S =>
    obtain ⟨e1, e2⟩ := endOk_model hg.vars hok
    have hmk : makesB (toldOf S n) cs = true := told_makes hok.2.1 hok.2.2
    have hsm : toldOf S n < 9223372036854775808 := Nat.lt_of_lt_of_le (toldOf_lt S n) (Nat.le_trans (Nat.pow_le_pow_right (by decide) hg.vars) (by decide))
    simp only [ansOf] at *
    rw [e1] at hmi ⊢
    rw [modelOf_len]
    simp only [List.length_nil]
    have hb2 : Below w.heap.size w ((w.alloc (.cells #[.int .i64 n, .slice ao cs.length cap] 25)).alloc (.cells #[.bool true, .slice ma n mc, .slice pa 0 pc] 29)) := hb1.alloc (by simp) _
    have B1 := (blk_new w [.int .i64 n, .slice ao cs.length cap] 25).alloc (.cells #[.bool true, .slice ma n mc, .slice pa 0 pc] 29)
    have B2 := blk_new (w.alloc (.cells #[.int .i64 n, .slice ao cs.length cap] 25)) [.bool true, .slice ma n mc, .slice pa 0 pc] 29
    rw [World.size_alloc] at B2
    dsimp only [List.toArray] at B1 B2
    go_enter Tryd.func9, Tryd.ntmps9
    go_wp2_with fail
    generalize (w.alloc (.cells #[.int .i64 n, .slice ao cs.length cap] 25)).alloc (.cells #[.bool true, .slice ma n mc, .slice pa 0 pc] 29) = W at *
    refine (told_any n S hg.vars ma mc W ((hmi.below hb2 (Nat.le_refl _)).mono hb2.size)).mono ?_
    rintro e w' ⟨rfl, hw'⟩
    obtain rfl := hw'.symm
    have p1 : W.cell? ⟨w.heap.size, 1, none⟩ = some (.slice ao cs.length cap) := B1.cell (i := 1) (by simp) undef
    have cm := makes_any n hg.vars (toldOf S n) hsm ao cap cs W ((hc.below hb2 (Nat.le_refl _)).mono hb2.size) hlit (by have := hg.many; omega) (fun c hc => by have := hg.long c hc; omega)
    rw [hmk] at cm
    clear hsm hmk
    generalize toldOf S n = bb at *
    go_wp2_with fail
    refine cm.mono ?_
    rintro e w' ⟨rfl, hw'⟩
    obtain rfl := hw'.symm
    have q2 : W.cell? ⟨w.heap.size + 1, 2, none⟩ = some (.slice pa 0 pc) := B2.cell (i := 2) (by simp) undef
    have HB : Hid (Below w.heap.size w W) := hb2
    clear hb2 B1 B2 p1
    go_wp2
    go_ret
    exact ⟨rfl, HB.out⟩
  | unsat F =>
    obtain ⟨e1, e2, e3, e4⟩ := endOk_check hg.vars hok
    simp only [ansOf] at *
    simp only [List.length_nil]
    rw [List.length_map] at *
    have hb2 : Below w.heap.size w ((w.alloc (.cells #[.int .i64 n, .slice ao cs.length cap] 25)).alloc (.cells #[.bool false, .slice ma 0 mc, .slice pa F.length pc] 29)) := hb1.alloc (by simp) _
    have B1 := (blk_new w [.int .i64 n, .slice ao cs.length cap] 25).alloc (.cells #[.bool false, .slice ma 0 mc, .slice pa F.length pc] 29)
    have B2 := blk_new (w.alloc (.cells #[.int .i64 n, .slice ao cs.length cap] 25)) [.bool false, .slice ma 0 mc, .slice pa F.length pc] 29
    rw [World.size_alloc] at B2
    dsimp only [List.toArray] at B1 B2
    go_enter Tryd.func9, Tryd.ntmps9
    go_wp2_with fail
    generalize (w.alloc (.cells #[.int .i64 n, .slice ao cs.length cap] 25)).alloc (.cells #[.bool false, .slice ma 0 mc, .slice pa F.length pc] 29) = W at *
    have cR := check_good n ao pa cap pc cs (F.map (litsOf 64)) W ((hc.below hb2 (Nat.le_refl _)).mono hb2.size) ((hpl.below hb2 (Nat.le_refl _)).mono hb2.size) hg (fault_good hg) (by rw [List.length_map]; omega)
    rw [e1, List.length_map] at cR
    refine cR.mono ?_
    rintro e w1 ⟨rfl, hbw⟩
    have q1 : w1.cell? ⟨w.heap.size + 1, 1, none⟩ = some (.slice ma 0 mc) := (B2.below' hbw).cell (i := 1) (by simp) undef
    have q2 : w1.cell? ⟨w.heap.size + 1, 2, none⟩ = some (.slice pa F.length pc) := (B2.below' hbw).cell (i := 2) (by simp) undef
    have HB : Hid (Below w.heap.size w w1) := hb2.trans (hbw.mono hb2.size)
    have hee : ((F.length : Int) == (F.length : Int)) = true := by simp
    clear hbw hb2 B1 B2 cR
    go_wp2
    go_ret
    exact ⟨rfl, HB.out⟩
end Go.Proofs.YtlodenfdcckemabDoor

/-
  append of a list that a call owns, none or some, onto one, at a step of a region that draws.
-/

namespace Go.Proofs.YtlodenfdcckemabDoor
open Go.RowKit

theorem step_append_any {P : Program} {w : World} {ops : Array Oper} {o : Oper} {a : Act} {K : Act → World → Prop} {Q : Exit → Act → World → Prop} {E : Prop} (hgd : o.guard = none) (s x : Operand) (t : TypeId)
    (ho : o.op = .call { callee := .builtin .append, args := #[s, x], argTypes := #[t, t] })
    (base : Nat) (e : TypeId) (i : TypeInfo) (z : Value) (bytes : Nat) (ht : P.underlying t = some (.slice e)) (hi : P.info? e = some i) (hz : i.zero = some z) (hsize : i.size = 1) (hby : i.bytes = bytes) (hzs : z.cells.size = 1)
    (v : Value) (n : Nat) (xs : List Value) (hs : a.eval s = v) (hown : w.ownsRow base e 1 v n xs) (b2 : Nat) (u : Value) (m : Nat) (news : List Value) (hx : a.eval x = u) (hu : Own w b2 e u news) (hm : news.length = m) (h1 : ∀ u ∈ news, u.oneCell' = true)
    (h63 : n + m ≤ maxLen) (hbytes : (n + m) * bytes ≤ 140737488355328) (hbase : base ≤ w.heap.size)
    (h : ∀ v' w', w'.ownsRow base e 1 v' (n + m) (xs ++ news) → w.grownBy w' v.ownBlock → K (a.put o.dst v') w') :
    if Region.wanted o (yielded ops a.tmps) = true then Oper.wp P o a w K Q else E := by
  have hw : Region.wanted o (yielded ops a.tmps) = true := by simp [Region.wanted, hgd]
  rw [if_pos hw]
  subst hm
  rcases hu with ⟨hu, hn⟩ | ⟨g, cap, hu, _, _, hr⟩
  · subst hn
    have hrun := run_append_owned_none (P := P) (w := w) base t o.type e i 1 ht hi v n xs hown
    unfold Oper.wp
    simp only [execOp, ho, resolve, invoke, builtin, Sem.run_bind, Sem.run_pure, Result.andThen_ok, List.map_toArray, List.map_cons, List.map_nil, hs, hx, hu, hrun]
    exact h v w (by simpa using hown) ⟨rfl, rfl, rfl, Nat.le_refl _, fun _ _ _ => rfl⟩
  · have hnews : ∀ j y, news[j]? = some y → w.cell? ((⟨g, 0, none⟩ : Addr).add j) = some y := fun j y hj => by
      have hadd : (⟨g, 0, none⟩ : Addr).add j = ⟨g, j, none⟩ := by unfold Addr.add; split <;> simp_all
      obtain ⟨hlt, hy⟩ := List.getElem?_eq_some_iff.1 hj
      rw [hadd, hr.cell hlt undef, getD_lt _ _ _ hlt, hy]
    obtain ⟨v', w', hrun, h2, h3, _, _⟩ := run_append_own_at (P := P) w base t o.type e i z 1 bytes ht hi hz hsize hby hzs (by decide) v n xs hown ⟨g, 0, none⟩ news.length cap news (by omega) hnews h1 h63 hbytes hbase
    unfold Oper.wp
    simp only [execOp, ho, resolve, invoke, builtin, Sem.run_bind, Sem.run_pure, Result.andThen_ok, List.map_toArray, List.map_cons, List.map_nil, hs, hx, hu, hrun]
    exact h v' w' h2 h3

theorem own_any {w : World} {base n : Nat} {t : TypeId} {v : Value} {xs : List Value} (h : w.ownsRow base t 1 v n xs) : Own w base t v xs := by
  have h' := h
  obtain ⟨hl, ⟨rfl, h0⟩ | ⟨g, cap, cur, rfl, _⟩⟩ := h'
  · exact Or.inl ⟨rfl, List.eq_nil_of_length_eq_zero (by rw [hl, h0])⟩
  · exact own_of h

theorem grown_new {u w' : World} {o : Obj} {v : Value} (hv : v.ownBlock = some u.heap.size) (h : (u.alloc o).drew.grownBy w' v.ownBlock) : Below u.heap.size u w' := by
  have hb := alloc_below u o
  have hs : (u.alloc o).drew.heap.size = u.heap.size + 1 := alloc_size u o
  have h2 := h.size
  refine ⟨h.os, h.tape, h.output, by omega, fun q hq => (h.block q (by omega) (fun e => ?_)).trans (hb.block q hq)⟩
  rw [hv] at e
  cases e
  omega

theorem grown_more {u w w' : World} {o : Obj} {v : Value} (hv : ∀ q, v.ownBlock = some q → u.heap.size ≤ q) (hb : Below u.heap.size u w) (h : (w.alloc o).grownBy w' v.ownBlock) : Below u.heap.size u w' := by
  have hs : (w.alloc o).heap.size = w.heap.size + 1 := alloc_size w o
  have hb2 := hb.size
  have h2 := h.size
  refine hb.trans ⟨h.os, h.tape, h.output, by omega, fun q hq => (h.block q (by omega) (fun e => ?_)).trans ((alloc_below w o).block q (by omega))⟩
  have := hv q e.symm
  omega
end Go.Proofs.YtlodenfdcckemabDoor

/-
  Elements of a list of lists, in memory, wherever the list itself lies.
-/

namespace Go.Proofs.YtlodenfdcckemabDoor
open Go.RowKit

structure Els (w : World) (N : Nat) (vs : List Value) (cs : List (List Int)) : Prop where
  len : vs.length = cs.length
  els : ∀ i, i < cs.length → ∃ A C, vs.getD i undef = .slice A (cs.getD i []).length C ∧ IntsAt w N A (cs.getD i [])

theorem Els.nil (w : World) (N : Nat) : Els w N [] [] := ⟨rfl, fun i hi => by simp at hi⟩

theorem Els.below {w w' : World} {N : Nat} {vs : List Value} {cs : List (List Int)} (h : Els w N vs cs) (hb : Below N w w') : Els w' N vs cs :=
  ⟨h.len, fun i hi => by obtain ⟨A, C, h1, h2⟩ := h.els i hi; exact ⟨A, C, h1, h2.below hb (Nat.le_refl _)⟩⟩

theorem Els.mono {w : World} {N N' : Nat} {vs : List Value} {cs : List (List Int)} (h : Els w N vs cs) (hb : N ≤ N') : Els w N' vs cs :=
  ⟨h.len, fun i hi => by obtain ⟨A, C, h1, h2⟩ := h.els i hi; exact ⟨A, C, h1, h2.mono hb⟩⟩

theorem Els.append {w : World} {N : Nat} {vs vs' : List Value} {cs cs' : List (List Int)} (h : Els w N vs cs) (h' : Els w N vs' cs') : Els w N (vs ++ vs') (cs ++ cs') := by
  have hl := h.len
  have hl' := h'.len
  refine ⟨by simp [hl, hl'], fun i hi => ?_⟩
  rw [List.length_append] at hi
  by_cases hlt : i < cs.length
  · have := h.els i hlt
    rw [getD_lt _ _ _ (by rw [List.length_append]; omega), List.getElem_append_left (by omega), getD_lt _ _ _ (by rw [List.length_append]; omega), List.getElem_append_left hlt]
    rw [getD_lt _ _ _ (by omega), getD_lt _ _ _ hlt] at this
    exact this
  · have := h'.els (i - cs.length) (by omega)
    rw [getD_lt _ _ _ (by rw [List.length_append]; omega), List.getElem_append_right (by omega), getD_lt _ _ _ (by rw [List.length_append]; omega), List.getElem_append_right (by omega)]
    rw [getD_lt _ _ _ (by omega), getD_lt _ _ _ (by omega)] at this
    simp only [hl]
    exact this

theorem Els.take {w : World} {N : Nat} {vs : List Value} {cs : List (List Int)} (h : Els w N vs cs) (k : Nat) : Els w N (vs.take k) (cs.take k) := by
  have hl := h.len
  refine ⟨by simp [hl], fun i hi => ?_⟩
  rw [List.length_take] at hi
  have := h.els i (by omega)
  rw [getD_lt _ _ _ (by rw [List.length_take]; omega), List.getElem_take, getD_lt _ _ _ (by rw [List.length_take]; omega), List.getElem_take]
  rw [getD_lt _ _ _ (by omega), getD_lt _ _ _ (by omega)] at this
  exact this

theorem Els.one {w : World} {N : Nat} {vs : List Value} {cs : List (List Int)} (h : Els w N vs cs) : ∀ y ∈ vs, y.oneCell' = true := by
  intro y hy
  obtain ⟨i, hi, rfl⟩ := List.getElem_of_mem hy
  obtain ⟨A, C, h1, -⟩ := h.els i (by rw [← h.len]; exact hi)
  rw [getD_lt _ _ _ hi] at h1
  rw [h1]
  rfl

theorem Els.lists {w : World} {N base : Nat} {v : Value} {vs : List Value} {cs : List (List Int)} (h : Els w N vs cs) (hN : N ≤ w.heap.size) (ho : Own w base 27 v vs) : ∃ ao cap, v = .slice ao cs.length cap ∧ ListsAt w w.heap.size ao cs := by
  have hlen := h.len
  rcases ho with ⟨rfl, h0⟩ | ⟨g, cap, rfl, hb, h63, hr⟩
  · have : cs = [] := by rw [h0] at hlen; simpa using hlen.symm
    subst this
    exact ⟨none, 0, rfl, fun h => absurd rfl h⟩
  · refine ⟨some ⟨g, 0, none⟩, cap, by rw [hlen], fun hne => ⟨g, 0, rfl, hr.lt, fun i hi => ?_⟩⟩
    obtain ⟨A, C, h1, h2⟩ := h.els i hi
    exact ⟨A, C, by rw [Nat.zero_add, hr.cell (by omega) undef, h1], h2.mono hN⟩

theorem MadeL.els {w : World} {base : Nat} {v : Value} {vs : List Value} {cs : List (List Int)} (h : MadeL w base v vs cs) : Els w w.heap.size vs cs :=
  ⟨h.len, fun i hi => by obtain ⟨A, C, h1, h2⟩ := (h.ls i (by rw [h.len]; exact hi)).ints (Nat.le_refl _); exact ⟨A, C, h1, h2⟩⟩

theorem MadeS.els {w : World} {base : Nat} {v : Value} {vs : List Value} {cs : List (List Int)} (h : MadeS w base v vs cs) : Els w w.heap.size vs cs :=
  ⟨h.len, fun i hi => by obtain ⟨A, C, h1, h2⟩ := (h.ls i (by rw [h.len]; exact hi)).ints (Nat.le_refl _); exact ⟨A, C, h1, h2⟩⟩

theorem rawC_len (V : Int) (raw : List (List Int)) : (rawC V raw).length ≤ 60 := by unfold rawC; simp; omega

theorem good_append {V : Nat} {a b : List (List Int)} (ha : Good V a) (hb : Good V b) (h1 : a.length ≤ 60) (h2 : b.length ≤ 60) : Good V (a ++ b) := by
  refine ⟨ha.vars, by rw [List.length_append]; omega, fun c hc => ?_, fun c hc => ?_⟩
  · rcases List.mem_append.1 hc with h | h
    · exact ha.long c h
    · exact hb.long c h
  · rcases List.mem_append.1 hc with h | h
    · exact ha.lits c h
    · exact hb.lits c h

theorem dbl_take (p : List (List Int)) (i : Nat) (h : i < p.length) : dbl (p.take (i + 1)) = dbl (p.take i) ++ [p.getD i [], p.getD i []] := by
  rw [take_succ_lists p i h]
  unfold dbl
  rw [List.flatMap_append]
  simp

theorem rawC_steps {V : Nat} (h1 : 1 ≤ V) (h2 : V ≤ 20) (raw : List (List Int)) : ∀ s ∈ rawC V raw, clauseFault V s = 0 ∧ ∀ l ∈ s, l ≠ 0 := fun s hs => by
  have hg := rawC_good h1 h2 raw
  exact ⟨fault_of_lits (hg.long s hs) (hg.lits s hs), fun l hl => (hg.lits s hs l hl).1⟩

theorem proof_three {V : Nat} {C ms ps : List (List Int)} (hp : ∃ p0, ps = p0 ++ [[]]) (h : checkOf V C 0 ps = ((ps.length : Int), 0)) : checkOf V (ms ++ C) 0 ps = ((ps.length : Int), 0) ∧ checkOf V C 0 (ps.take (ps.length - 1)) = (((ps.length - 1 : Nat) : Int), 8) ∧ checkOf V C 0 (dbl ps) = (((2 * ps.length - 1 : Nat) : Int), 0) ∧ 1 ≤ ps.length := by
  obtain ⟨p0, rfl⟩ := hp
  have hl : (p0 ++ [[]]).length = p0.length + 1 := by simp
  have h' : checkOf V C 0 (p0 ++ [[]]) = (((0 + p0.length + 1 : Nat) : Int), 0) := by rw [h, hl, Nat.zero_add]
  refine ⟨?_, ?_, ?_, by omega⟩
  · rw [check_more _ C _ 0 (fun c hc => List.mem_append_right _ hc) (by rw [h]), h]
  · rw [hl, Nat.add_sub_cancel, List.take_left, check_cut p0 C 0 h', Nat.zero_add]
  · rw [check_dbl p0 C C 0 0 (fun c hc => hc) h', hl]
    congr 2
    omega

def dblV (vs : List Value) : List Value := vs.flatMap fun v => [v, v]

theorem dblV_take (vs : List Value) (i : Nat) (h : i < vs.length) : dblV (vs.take (i + 1)) = dblV (vs.take i) ++ [vs.getD i undef, vs.getD i undef] := by
  have : vs.take (i + 1) = vs.take i ++ [vs.getD i undef] := by rw [getD_lt _ _ _ h, List.take_add_one, List.getElem?_eq_getElem h]; rfl
  rw [this]
  unfold dblV
  rw [List.flatMap_append]
  simp

theorem dblV_len (vs : List Value) : (dblV vs).length = 2 * vs.length := by
  induction vs with
  | nil => rfl
  | cons s r ih => simp only [dblV, List.flatMap_cons, List.length_append, List.length_cons, List.length_nil] at ih ⊢; omega

theorem Els.dbl {w : World} {N : Nat} {vs : List Value} {cs : List (List Int)} (h : Els w N vs cs) : Els w N (dblV vs) (dbl cs) := by
  have hl := h.len
  have key : ∀ k, k ≤ cs.length → Els w N (dblV (vs.take k)) (Go.Proofs.YtlodenfdcckemabDoor.dbl (cs.take k)) := by
    intro k
    induction k with
    | zero => intro _; exact Els.nil _ _
    | succ k ih =>
      intro hk
      rw [dblV_take vs k (by omega), dbl_take cs k (by omega)]
      refine (ih (by omega)).append ⟨rfl, fun i hi => ?_⟩
      have := h.els k (by omega)
      match i, hi with
      | 0, _ => exact this
      | 1, _ => exact this
      | n + 2, h => exact absurd h (by simp)
  have := key cs.length (Nat.le_refl _)
  rw [List.take_length] at this
  rw [← hl, List.take_length] at this
  exact this

/-- A list in a formula's box that is appended to. -/
theorem app_put {W8 w10 w11 : World} {Gb : Nat} {V v9 v11 : Value} {xs ys : List Value} (hG : Blk w10 Gb 25 [V, v9]) (hC : Chg (fun k => k = Gb) W8 w10) (hO9 : Own w10 W8.heap.size 27 v9 xs) (hO : Own w11 W8.heap.size 27 v11 ys) (hg : w10.grownBy w11 v9.ownBlock) :
    Blk w11 Gb 25 [V, v9] ∧ Chg (fun k => k = Gb) W8 w11 ∧ Blk (w11.setCell ⟨Gb, 1, none⟩ v11) Gb 25 [V, v11] ∧ Own (w11.setCell ⟨Gb, 1, none⟩ v11) W8.heap.size 27 v11 ys ∧ Chg (fun k => k = Gb) W8 (w11.setCell ⟨Gb, 1, none⟩ v11) := by
  have c : Chg (fun k => v9.ownBlock = some k) w10 w11 := Chg.of_grown hg (fun k e => e) (fun k e o ho => hO9.cells e o ho)
  have G11 := hG.chg c (own_blk hO9 hG (by decide))
  have ht : TChg (fun t => t = 25) w11 (w11.setCell ⟨Gb, 1, none⟩ v11) := ⟨fun k => k = Gb, (Chg.refl (fun k => k = Gb) w11).setB Gb 1 rfl _, fun b e _ => by obtain rfl : b = Gb := e; exact ⟨_, _, G11, rfl⟩⟩
  have h11 : Chg (fun k => k = Gb) W8 w11 := hC.trans2 c (fun i hi e => by have := (hO9.lt e).1; omega)
  exact ⟨G11, h11, G11.set 1 v11, ht.own hO (by decide), h11.setB Gb 1 rfl _⟩
end Go.Proofs.YtlodenfdcckemabDoor

/-
  How many assignments make a formula true; the clause that forbids one.
-/

namespace Go.Proofs.YtlodenfdcckemabDoor
open Go.RowKit

/-- How many of the first k numbers make the clauses true. -/
def cntTo (cs : List (List Int)) : Nat → Nat
  | 0 => 0
  | k + 1 => cntTo cs k + if makesB k cs then 1 else 0

theorem cntTo_le (cs : List (List Int)) : ∀ k, cntTo cs k ≤ k
  | 0 => Nat.le_refl _
  | k + 1 => by
    have := cntTo_le cs k
    unfold cntTo
    split <;> omega

theorem cntTo_pos {cs : List (List Int)} {b : Nat} (hb : makesB b cs = true) : ∀ {k}, b < k → 0 < cntTo cs k
  | 0, h => by omega
  | k + 1, h => by
    unfold cntTo
    by_cases e : b = k
    · subst e; rw [if_pos hb]; omega
    · have := cntTo_pos hb (show b < k by omega); omega

theorem cntTo_some {cs : List (List Int)} : ∀ {k}, 0 < cntTo cs k → ∃ b, b < k ∧ makesB b cs = true
  | 0, h => by simp [cntTo] at h
  | k + 1, h => by
    unfold cntTo at h
    by_cases e : makesB k cs = true
    · exact ⟨k, by omega, e⟩
    · rw [if_neg e] at h
      obtain ⟨b, h1, h2⟩ := cntTo_some (k := k) (by omega)
      exact ⟨b, by omega, h2⟩

theorem cntTo_same {cs cs' : List (List Int)} : ∀ k, (∀ b, b < k → makesB b cs = makesB b cs') → cntTo cs k = cntTo cs' k
  | 0, _ => rfl
  | k + 1, h => by
    unfold cntTo
    rw [cntTo_same k (fun b hb => h b (by omega)), h k (by omega)]

/-- One number less makes them true. -/
theorem cntTo_less {cs cs' : List (List Int)} {b0 : Nat} (hb : makesB b0 cs = true) : ∀ k, (∀ b, b < k → makesB b cs' = (makesB b cs && decide (b ≠ b0))) → b0 < k → cntTo cs' k + 1 = cntTo cs k
  | 0, _, h => by omega
  | k + 1, h, hk => by
    unfold cntTo
    by_cases e : b0 = k
    · subst e
      rw [h b0 (by omega), hb]
      have : cntTo cs' b0 = cntTo cs b0 := cntTo_same b0 (fun b hb' => by rw [h b (by omega), decide_eq_true (by omega), Bool.and_true])
      rw [this]
      simp
    · have ih := cntTo_less hb k (fun b hb' => h b (by omega)) (by omega)
      rw [h k (by omega), decide_eq_true (by omega), Bool.and_true]
      omega

/-- The clause that forbids an assignment. -/
def forbid (V S : Nat) : List Int := (modelOf V S).map fun l => -l

theorem forbid_lits (V S : Nat) : ∀ l ∈ forbid V S, IsLit V l := by
  intro l hl
  obtain ⟨m, hm, rfl⟩ := List.mem_map.1 hl
  unfold modelOf at hm
  obtain ⟨v, hv, rfl⟩ := List.mem_map.1 hm
  rw [List.mem_range] at hv
  refine ⟨?_, ?_, ?_⟩ <;> (split <;> omega)

theorem forbid_len (V S : Nat) : (forbid V S).length = V := by unfold forbid; rw [List.length_map, modelOf_len]

theorem forbid_any {V S b : Nat} (hb : b < 2 ^ V) : (forbid V S).any (tIn b) = decide (b ≠ toldOf S V) := by
  have key : (∃ l ∈ forbid V S, tIn b l = true) ↔ ∃ v, v < V ∧ b.testBit v ≠ S.testBit (2 * v) := by
    constructor
    · rintro ⟨l, hl, ht⟩
      obtain ⟨m, hm, rfl⟩ := List.mem_map.1 hl
      unfold modelOf at hm
      obtain ⟨v, hv, rfl⟩ := List.mem_map.1 hm
      rw [List.mem_range] at hv
      refine ⟨v, hv, ?_⟩
      by_cases hs : S.testBit (2 * v) = true
      · rw [if_pos hs] at ht
        unfold tIn at ht
        rw [if_neg (by omega), show (-(-(((v + 1 : Nat)) : Int)) - 1).toNat = v by omega] at ht
        rw [hs]
        simpa using ht
      · rw [if_neg hs] at ht
        unfold tIn at ht
        rw [if_pos (by omega), show (-(-(((v + 1 : Nat)) : Int)) - 1).toNat = v by omega] at ht
        rw [ht]
        simpa using hs
    · rintro ⟨v, hv, hne⟩
      by_cases hs : S.testBit (2 * v) = true
      · refine ⟨-(((v + 1 : Nat)) : Int), List.mem_map.2 ⟨((v + 1 : Nat) : Int), List.mem_map.2 ⟨v, List.mem_range.2 hv, by rw [if_pos hs]⟩, rfl⟩, ?_⟩
        unfold tIn
        rw [if_neg (by omega), show (-(-(((v + 1 : Nat)) : Int)) - 1).toNat = v by omega]
        rw [hs] at hne
        simpa using hne
      · refine ⟨-(-(((v + 1 : Nat)) : Int)), List.mem_map.2 ⟨-((v + 1 : Nat) : Int), List.mem_map.2 ⟨v, List.mem_range.2 hv, by rw [if_neg hs]⟩, rfl⟩, ?_⟩
        unfold tIn
        rw [if_pos (by omega), show (-(-(((v + 1 : Nat)) : Int)) - 1).toNat = v by omega]
        have : S.testBit (2 * v) = false := by simpa using hs
        rw [this] at hne
        simpa using hne
  have heq : b = toldOf S V ↔ ¬ ∃ v, v < V ∧ b.testBit v ≠ S.testBit (2 * v) := by
    constructor
    · rintro rfl ⟨v, hv, hne⟩
      exact hne (toldOf_bit S V v hv)
    · intro hn
      refine Nat.eq_of_testBit_eq fun v => ?_
      by_cases hv : v < V
      · rw [toldOf_bit S V v hv]
        exact Classical.byContradiction fun h => hn ⟨v, hv, h⟩
      · rw [Nat.testBit_lt_two_pow (Nat.lt_of_lt_of_le hb (Nat.pow_le_pow_right (by decide) (by omega))), Nat.testBit_lt_two_pow (Nat.lt_of_lt_of_le (toldOf_lt S V) (Nat.pow_le_pow_right (by decide) (by omega)))]
  by_cases e : b = toldOf S V
  · rw [decide_eq_false (by simpa using e)]
    cases h : (forbid V S).any (tIn b) with
    | false => rfl
    | true => exact absurd (key.1 (List.any_eq_true.1 h)) (heq.1 e)
  · rw [decide_eq_true e, List.any_eq_true]
    exact key.2 (Classical.byContradiction fun h => e (heq.2 h))

theorem forbid_less {V S : Nat} {cs : List (List Int)} (h : makesB (toldOf S V) cs = true) : cntTo (cs ++ [forbid V S]) (2 ^ V) + 1 = cntTo cs (2 ^ V) := by
  refine cntTo_less h _ (fun b hb => ?_) (toldOf_lt S V)
  unfold makesB
  rw [List.all_append, List.all_cons, List.all_nil, Bool.and_true, forbid_any hb]

/-- What an end says of the count. -/
theorem endOk_count {V : Nat} (hV : V ≤ 20) {cs : List (List Int)} {en : End} (hg : Good V cs) (h : EndOk V cs en) : (ansOf en).1 = decide (0 < cntTo cs (2 ^ V)) := by
  cases en with
  | sat S =>
    have := cntTo_pos (told_makes h.2.1 h.2.2) (toldOf_lt S V)
    rw [decide_eq_true this]; rfl
  | unsat F =>
    have h0 : ¬ 0 < cntTo cs (2 ^ V) := fun hp => by
      obtain ⟨b, -, hb⟩ := cntTo_some hp
      obtain ⟨e1, e2, -, -⟩ := endOk_check hV h
      obtain ⟨p, hp⟩ := endOk_last h
      rw [hp] at e1 e2
      have := check_none (V := V) (b := b) p cs 0 hb (fun c hc l hl => (hg.lits c hc l hl).1) (fun s hs => by
        obtain ⟨h1, h2⟩ := e2 s (List.mem_append_left _ hs)
        exact ⟨fault_of_lits h1 h2, fun l hl => (h2 l hl).1⟩)
      rw [e1] at this
      cases this
    rw [decide_eq_false h0]; rfl
end Go.Proofs.YtlodenfdcckemabDoor

/-
  Names do not matter, of no program: variables renamed round, literals turned over.
-/

namespace Go.Proofs.YtlodenfdcckemabDoor

/-- A literal under another name. -/
def renL (V p : Nat) (t : Nat → Bool) (l : Int) : Int := if ((decide (l < 0)) != t (l.natAbs - 1)) then -(1 + (((l.natAbs - 1 + p) % V : Nat) : Int)) else 1 + (((l.natAbs - 1 + p) % V : Nat) : Int)

/-- The clauses the other way round, each twice. -/
def renC (V p : Nat) (t : Nat → Bool) (cs : List (List Int)) : List (List Int) := cs.reverse.flatMap fun c => [c.map (renL V p t), c.map (renL V p t)]

theorem num_some (q : Nat → Bool) : ∀ V, ∃ b, b < 2 ^ V ∧ ∀ i, i < V → b.testBit i = q i
  | 0 => ⟨0, by simp, fun i hi => absurd hi (Nat.not_lt_zero _)⟩
  | V + 1 => by
    obtain ⟨b, hb, h⟩ := num_some q V
    refine ⟨b ||| (if q V then 2 ^ V else 0), ?_, fun i hi => ?_⟩
    · have h2 : 2 ^ V < 2 ^ (V + 1) := Nat.pow_lt_pow_right (by decide) (by omega)
      refine Nat.or_lt_two_pow (by omega) ?_
      split
      · exact h2
      · exact Nat.two_pow_pos _
    · rw [Nat.testBit_or]
      rcases Nat.lt_succ_iff_lt_or_eq.1 hi with h1 | h1
      · rw [h i h1]
        split
        · rw [Nat.testBit_two_pow]; simp; omega
        · simp
      · subst h1
        rw [Nat.testBit_lt_two_pow hb]
        split
        · rename_i hq; rw [Nat.testBit_two_pow]; simp [hq]
        · rename_i hq; simp [hq]

/-- Two assignments that say the same, the one of the other names. -/
def RenB (V p : Nat) (t : Nat → Bool) (b b' : Nat) : Prop := ∀ i, i < V → b'.testBit ((i + p) % V) = (b.testBit i != t i)

theorem round_mod {V i p : Nat} (hi : i < V) (hp : p < V) : (i + p) % V = if i + p < V then i + p else i + p - V := by
  split
  · rename_i h; exact Nat.mod_eq_of_lt h
  · rename_i h
    rw [Nat.mod_eq_sub_mod (by omega)]
    exact Nat.mod_eq_of_lt (by omega)

theorem ren_to {V p : Nat} (hp : p < V) (t : Nat → Bool) (b : Nat) : ∃ b', b' < 2 ^ V ∧ RenB V p t b b' := by
  obtain ⟨b', hb', h⟩ := num_some (fun j => b.testBit ((j + (V - p)) % V) != t ((j + (V - p)) % V)) V
  refine ⟨b', hb', fun i hi => ?_⟩
  have e1 := round_mod hi hp
  have hj : (i + p) % V < V := Nat.mod_lt _ (by omega)
  rw [h _ hj]
  have e2 : ((i + p) % V + (V - p)) % V = i := by
    rw [e1]
    by_cases hc : i + p < V
    · rw [if_pos hc, show i + p + (V - p) = i + V by omega, Nat.add_mod_right, Nat.mod_eq_of_lt hi]
    · rw [if_neg hc, show i + p - V + (V - p) = i by omega, Nat.mod_eq_of_lt hi]
  rw [e2]

theorem ren_from {V p : Nat} (t : Nat → Bool) (b' : Nat) : ∃ b, b < 2 ^ V ∧ RenB V p t b b' := by
  obtain ⟨b, hb, h⟩ := num_some (fun i => b'.testBit ((i + p) % V) != t i) V
  refine ⟨b, hb, fun i hi => ?_⟩
  rw [h i hi]
  cases b'.testBit ((i + p) % V) <;> cases t i <;> rfl

theorem ren_lit {V p : Nat} {t : Nat → Bool} {l : Int} (hl : IsLit V l) : IsLit V (renL V p t l) := by
  have h1 : (l.natAbs - 1 + p) % V < V := Nat.mod_lt _ (by unfold IsLit at hl; omega)
  unfold renL
  unfold IsLit at *
  split <;> omega

theorem ren_true {V p : Nat} {t : Nat → Bool} {b b' : Nat} (h : RenB V p t b b') {l : Int} (hl : IsLit V l) : tIn b' (renL V p t l) = tIn b l := by
  unfold IsLit at hl
  have hi : l.natAbs - 1 < V := by omega
  have hb := h (l.natAbs - 1) hi
  unfold renL
  generalize (l.natAbs - 1 + p) % V = j at *
  have q1 : tIn b' (1 + (j : Int)) = b'.testBit j := by unfold tIn; rw [if_pos (by omega), show (1 + (j : Int) - 1).toNat = j by omega]
  have q2 : tIn b' (-(1 + (j : Int))) = !b'.testBit j := by unfold tIn; rw [if_neg (by omega), show (-(-(1 + (j : Int))) - 1).toNat = j by omega]
  by_cases hn : l < 0
  · have e : tIn b l = !b.testBit (l.natAbs - 1) := by unfold tIn; rw [if_neg (by omega), show (-l - 1).toNat = l.natAbs - 1 by omega]
    rw [e, decide_eq_true hn]
    cases ht : t (l.natAbs - 1) <;> rw [ht] at hb
    · rw [if_pos (by decide), q2, hb]; simp
    · rw [if_neg (by decide), q1, hb]; simp
  · have e : tIn b l = b.testBit (l.natAbs - 1) := by unfold tIn; rw [if_pos (by omega), show (l - 1).toNat = l.natAbs - 1 by omega]
    rw [e, decide_eq_false hn]
    cases ht : t (l.natAbs - 1) <;> rw [ht] at hb
    · rw [if_neg (by decide), q1, hb]; simp
    · rw [if_pos (by decide), q2, hb]; simp

theorem ren_makes {V p : Nat} {t : Nat → Bool} {b b' : Nat} (h : RenB V p t b b') {cs : List (List Int)} (hl : ∀ c ∈ cs, ∀ l ∈ c, IsLit V l) : makesB b' (renC V p t cs) = makesB b cs := by
  have key : ∀ c ∈ cs, (c.map (renL V p t)).any (tIn b') = c.any (tIn b) := fun c hc => by
    rw [List.any_map, Bool.eq_iff_iff, List.any_eq_true, List.any_eq_true]
    constructor
    · rintro ⟨l, hm, e⟩; exact ⟨l, hm, by rw [← ren_true h (hl c hc l hm)]; exact e⟩
    · rintro ⟨l, hm, e⟩; exact ⟨l, hm, by show tIn b' (renL V p t l) = true; rw [ren_true h (hl c hc l hm)]; exact e⟩
  unfold makesB renC
  rw [Bool.eq_iff_iff, List.all_eq_true, List.all_eq_true]
  constructor
  · intro ha c hc
    rw [← key c hc]
    exact ha _ (List.mem_flatMap.2 ⟨c, List.mem_reverse.2 hc, by simp⟩)
  · intro ha c hc
    obtain ⟨d, hd, e⟩ := List.mem_flatMap.1 hc
    have hd := List.mem_reverse.1 hd
    have e : c = d.map (renL V p t) := by simpa using e
    rw [e, key d hd]
    exact ha d hd

theorem ren_same {V p : Nat} (hp : p < V) (t : Nat → Bool) {cs : List (List Int)} (hl : ∀ c ∈ cs, ∀ l ∈ c, IsLit V l) : decide (0 < cntTo (renC V p t cs) (2 ^ V)) = decide (0 < cntTo cs (2 ^ V)) := by
  rw [decide_eq_decide]
  constructor
  · intro h
    obtain ⟨b', hb', hm⟩ := cntTo_some h
    obtain ⟨b, hb, hr⟩ := ren_from (V := V) (p := p) t b'
    rw [ren_makes hr hl] at hm
    exact cntTo_pos hm hb
  · intro h
    obtain ⟨b, hb, hm⟩ := cntTo_some h
    obtain ⟨b', hb', hr⟩ := ren_to hp t b
    rw [← ren_makes hr hl] at hm
    exact cntTo_pos hm hb'

theorem twice_len {α β : Type} (f : α → β) : ∀ l : List α, (l.flatMap fun c => [f c, f c]).length = 2 * l.length
  | [] => rfl
  | c :: l => by rw [List.flatMap_cons, List.length_append, twice_len f l]; simp; omega

theorem renC_len (V p : Nat) (t : Nat → Bool) (cs : List (List Int)) : (renC V p t cs).length = 2 * cs.length := by
  unfold renC
  rw [twice_len, List.length_reverse]

end Go.Proofs.YtlodenfdcckemabDoor

/-
  The walk of Renamed.
-/

namespace Go.Proofs.YtlodenfdcckemabDoor
open Go.RowKit

/-- Is a variable turned over? -/
def turnB (turn : Int) (i : Nat) : Bool := decide (bits BinOp.and IntKind.i64 (turn / 2 ^ i) 1 = 1)

theorem renC_cons (V p : Nat) (t : Nat → Bool) (cs : List (List Int)) (q : Nat) (hq : q < cs.length) : renC V p t (cs.drop q) = renC V p t (cs.drop (q + 1)) ++ [(cs.getD q []).map (renL V p t), (cs.getD q []).map (renL V p t)] := by
  unfold renC
  rw [List.drop_eq_getElem_cons hq, getD_lt _ _ _ hq, List.reverse_cons, List.flatMap_append, List.flatMap_singleton]

theorem renC_good {V p : Nat} {t : Nat → Bool} {cs : List (List Int)} (hg : Good V cs) (h60 : cs.length ≤ 60) : Good V (renC V p t cs) := by
  refine ⟨hg.vars, by rw [renC_len]; omega, fun c hc => ?_, fun c hc => ?_⟩
  · obtain ⟨d, hd, e⟩ := List.mem_flatMap.1 hc
    have e : c = d.map (renL V p t) := by simpa using e
    rw [e, List.length_map]
    exact hg.long d (List.mem_reverse.1 hd)
  · obtain ⟨d, hd, e⟩ := List.mem_flatMap.1 hc
    have e : c = d.map (renL V p t) := by simpa using e
    intro x hx
    rw [e] at hx
    obtain ⟨y, hy, rfl⟩ := List.mem_map.1 hx
    exact ren_lit (hg.lits d (List.mem_reverse.1 hd) y hy)

/-- Two lists more: the same twice. -/
theorem MadeL.more2 {w w' : World} {base g cap n : Nat} {v x : Value} {vs : List Value} {cs : List (List Int)} {c : List Int} (h : MadeL w base v vs cs) (hx : Own w base 3 x (ints c)) (hown : Own w' base 27 (.slice (some ⟨g, 0, none⟩) n cap) (vs ++ [x, x])) (hC : Chg (fun k => v.ownBlock = some k) w w') : MadeL w' base (.slice (some ⟨g, 0, none⟩) n cap) (vs ++ [x, x]) (cs ++ [c, c]) := by
  have hl := h.len
  refine ⟨hown, by simp [hl], fun i hi => ?_⟩
  by_cases hlt : i < vs.length
  · have := (h.ls i hlt).chg hC (fun k e e' => own_ne h.oe (h.ls i hlt) (by decide) e' e)
    rw [getD_lt _ _ _ hi, List.getElem_append_left hlt, getD_lt _ _ _ (by simp; omega), List.getElem_append_left (by omega)]
    rw [getD_lt _ _ _ hlt, getD_lt _ _ _ (by omega)] at this
    exact this
  · have hx' := hx.chg hC (fun k e e' => own_ne h.oe hx (by decide) e' e)
    have hi' : i = vs.length ∨ i = vs.length + 1 := by simp at hi; omega
    rcases hi' with rfl | rfl
    · rw [getD_lt _ _ _ hi, getD_lt _ _ _ (by simp; omega)]
      simpa [hl] using hx'
    · rw [getD_lt _ _ _ hi, getD_lt _ _ _ (by simp; omega), List.getElem_append_right (by omega), List.getElem_append_right (by omega)]
      simpa [hl] using hx'

/-- While the clauses are renamed. -/
structure RenI (W0 : World) (N Gb V : Nat) (wr : World) (D : List (List Int)) (v : Value) (vs : List Value) : Prop where
  made : MadeL wr N v vs D
  box : Blk wr Gb 25 [.int .i64 V, v]
  old : Below N W0 wr

theorem RenI.more {W0 wr w1 w2 : World} {N Gb V g cap n : Nat} {D : List (List Int)} {v x : Value} {vs : List Value} {c : List Int} {o : Obj} (h : RenI W0 N Gb V wr D v vs) (hN : N ≤ W0.heap.size) (hb1 : Below wr.heap.size wr w1) (hx : Own w1 wr.heap.size 3 x (ints c)) (hGb : N ≤ Gb) (hO : Own w2 N 27 (.slice (some ⟨g, 0, none⟩) n cap) (vs ++ [x, x])) (hg : (w1.alloc o).grownBy w2 v.ownBlock) :
    Blk w2 Gb 25 [.int .i64 V, v] ∧ RenI W0 N Gb V (w2.setCell ⟨Gb, 1, none⟩ (.slice (some ⟨g, 0, none⟩) n cap)) (D ++ [c, c]) (.slice (some ⟨g, 0, none⟩) n cap) (vs ++ [x, x]) := by
  have hNw : N ≤ wr.heap.size := Nat.le_trans hN h.old.size
  have hM1 := h.made.below' hb1
  have hC : Chg (fun k => v.ownBlock = some k) w1 w2 := (Chg.of_below (alloc_below w1 o)).trans (Chg.of_grown (S := fun k => v.ownBlock = some k) hg (fun k e => e) (fun k e o' ho => (hM1.oe.alloc o).cells e o' ho))
  have hM2 := hM1.more2 (hx.base hNw) hO hC
  have B2 : Blk w2 Gb 25 [.int .i64 V, v] := (h.box.below' hb1).chg hC (own_blk hM1.oe (h.box.below' hb1) (by decide))
  have ht : TChg (fun t => t = 25) w2 (w2.setCell ⟨Gb, 1, none⟩ (.slice (some ⟨g, 0, none⟩) n cap)) := ⟨fun k => k = Gb, (Chg.refl (fun k => k = Gb) w2).setB Gb 1 rfl _, fun b e _ => by obtain rfl : b = Gb := e; exact ⟨_, _, B2, rfl⟩⟩
  have hb2 : Below N W0 w2 := (h.old.trans (hb1.mono hNw)).trans (hC.below (Nat.le_trans hNw hb1.size) fun k e => (hM1.oe.lt e).1)
  exact ⟨B2, ⟨ht.own hM2.oe (by decide), hM2.len, fun j hj => ht.own (hM2.ls j hj) (by decide)⟩, B2.set 1 _, hb2.setCell (p := ⟨Gb, 1, none⟩) hGb _⟩

theorem blk_three {w : World} {q : Nat} {t : TypeId} {a b c : Value} (h : Blk w q t [a, b, c]) : w.cell? ⟨q, 0, none⟩ = some a ∧ w.cell? ⟨q, 1, none⟩ = some b ∧ w.cell? ⟨q, 2, none⟩ = some c :=
  ⟨h.cell (i := 0) (by simp) undef, h.cell (i := 1) (by simp) undef, h.cell (i := 2) (by simp) undef⟩

theorem ren_take (f : Int → Int) (zs : List Int) (j : Nat) (h : j < zs.length) : (zs.take (j + 1)).map f = (zs.take j).map f ++ [f (zs.getD j 0)] := by
  rw [take_succ_getD zs j h, List.map_append, List.map_singleton]

end Go.Proofs.YtlodenfdcckemabDoor

/-
  The walk of Renamed: the function itself.
-/

namespace Go.Proofs.YtlodenfdcckemabDoor
open Go.RowKit

set_option maxRecDepth 100000 in
set_option maxHeartbeats 8000000 in
theorem renamed_any (vars : Int) (ao : Option Addr) (cap : Nat) (raw : List (List Int)) (rb turn : Int) (w : World) (hc : ListsAt w w.heap.size ao raw) (hF : Fits raw) (hv0 : -9223372036854775808 ≤ vars) (hv1 : vars ≤ 9223372036854775807) (hr0 : -9223372036854775808 ≤ rb) (hr1 : rb ≤ 9223372036854775807) (hT : Tab w) (hw0 : 0 < w.heap.size) :
    Calls Tryd.prog 3 #[.int .i64 vars, .slice ao raw.length cap, .int .i64 rb, .int .i64 turn] w fun e w' => e = .returned (.bool true) ∧ Below w.heap.size w w' := by
  have hr := pickOf_range vars (show (0 : Int) < ((9 : Nat) : Int) by omega)
  obtain ⟨V, hV⟩ : ∃ V : Nat, rawV vars ((9 : Nat) : Int) = V := ⟨(rawV vars ((9 : Nat) : Int)).toNat, by unfold rawV; omega⟩
  have hV1 : 1 ≤ V := by unfold rawV at hV; omega
  have hV2 : V ≤ 9 := by unfold rawV at hV; omega
  clear hr
  have hp := pickOf_range rb (show (0 : Int) < (V : Int) by omega)
  obtain ⟨p, hpe⟩ : ∃ p : Nat, pickOf rb (V : Int) = p := ⟨(pickOf rb (V : Int)).toNat, by omega⟩
  have hpV : p < V := by omega
  have cpick := fun W => pick_any rb (V : Int) W hr0 hr1 (by omega) (by omega)
  rw [hpe] at cpick
  clear hp hpe
  have HGood : Hid (Good V (rawC V raw)) := rawC_good hV1 (by omega) raw
  have hn60 := rawC_len V raw
  go_enter Tryd.func3, Tryd.ntmps3
  go_wp2_with fail
  refine (known_any w hT hw0).mono ?_
  rintro e w1 ⟨rfl, hb1⟩
  have hs1 := hb1.size
  have cf := kformula_any vars 9 ao cap raw w1 ((hc.below hb1 (Nat.le_refl _)).mono hs1) hF hv0 hv1 (by omega) (by omega)
  rw [hV] at cf
  have HV : Hid _ := hV
  clear hV
  go_wp2_with fail
  refine cf.mono ?_
  rintro e w2 ⟨v, fvs, rfl, hM, hb2⟩
  obtain ⟨ve, vcap, rfl, hL2⟩ := hM.lists
  clear cf
  generalize hcs : rawC V raw = cs at *
  clear hcs
  have hs2 := hb2.size
  have b3 := alloc_below w2 (.cells #[.int .i64 V, .slice ve cs.length vcap] 25)
  have B3 : Blk (w2.alloc (.cells #[.int .i64 V, .slice ve cs.length vcap] 25)) w2.heap.size 25 [.int .i64 V, .slice ve cs.length vcap] := blk_new w2 [.int .i64 V, .slice ve cs.length vcap] 25
  have s3 := alloc_size w2 (.cells #[.int .i64 V, .slice ve cs.length vcap] 25)
  go_wp2_with fail
  generalize w2.alloc (.cells #[.int .i64 V, .slice ve cs.length vcap] 25) = w3 at *
  have k3 : Below w.heap.size w w3 := hb1.trans ((hb2.mono hs1).trans (b3.mono (by omega)))
  have hL3 : ListsAt w3 w3.heap.size ve cs := (hL2.below b3 (Nat.le_refl _)).mono b3.size
  have hs3 := k3.size
  refine (solve_good V ve vcap cs w3 hL3 HGood.out (fault_good HGood.out) (hT.below k3 hw0) (by omega)).mono ?_
  rintro e w4 ⟨en, -, hOk, hS, hb4⟩
  obtain ⟨vm, vp, pvs, rfl, hA⟩ := solEnd_ans hS
  have hsat := endOk_count (by omega) HGood.out hOk
  obtain ⟨pa, pc, hvp, -, -⟩ := hA.proof.lists
  obtain ⟨ma, mc, hvm⟩ := hA.model.shape
  rw [List.length_map] at hvm
  subst hvp
  subst hvm
  have cA := fun W h1 h2 => answered_any V ve vcap cs en (.slice ma (ansOf en).2.1.length mc) (.slice pa (ansOf en).2.2.length pc) pvs w3.heap.size W h1 HGood.out hOk h2
  have HSat : Hid ((ansOf en).1 = decide (0 < cntTo cs (2 ^ V))) := hsat
  clear hS hOk hsat
  generalize (ansOf en).1 = s at *
  generalize (ansOf en).2.1 = zs at *
  generalize (ansOf en).2.2 = ps at *
  have s4 := hb4.size
  have bA := alloc_below w4 (.cells #[.bool s, .slice ma zs.length mc, .slice pa ps.length pc] 29)
  have BA := blk_new w4 [.bool s, .slice ma zs.length mc, .slice pa ps.length pc] 29
  have sA := alloc_size w4 (.cells #[.bool s, .slice ma zs.length mc, .slice pa ps.length pc] 29)
  dsimp only [List.toArray] at BA
  have BF4 := B3.below' hb4
  have BFA := BF4.below' bA
  have d0 : (w4.alloc (.cells #[.bool s, .slice ma zs.length mc, .slice pa ps.length pc] 29)).cell? ⟨w2.heap.size, 0, none⟩ = some (.int .i64 V) := BFA.cell (i := 0) (by simp) undef
  have d1 : (w4.alloc (.cells #[.bool s, .slice ma zs.length mc, .slice pa ps.length pc] 29)).cell? ⟨w2.heap.size, 1, none⟩ = some (.slice ve cs.length vcap) := BFA.cell (i := 1) (by simp) undef
  have bG := alloc_below (w4.alloc (.cells #[.bool s, .slice ma zs.length mc, .slice pa ps.length pc] 29)) (.cells #[.int .i64 V, .slice none 0 0] 25)
  have BG := blk_new (w4.alloc (.cells #[.bool s, .slice ma zs.length mc, .slice pa ps.length pc] 29)) [.int .i64 V, .slice none 0 0] 25
  dsimp only [List.toArray] at BG
  have BFG := BFA.below' bG
  have e1 : ((w4.alloc (.cells #[.bool s, .slice ma zs.length mc, .slice pa ps.length pc] 29)).alloc (.cells #[.int .i64 V, .slice none 0 0] 25)).cell? ⟨w2.heap.size, 1, none⟩ = some (.slice ve cs.length vcap) := BFG.cell (i := 1) (by simp) undef
  have hFl := BF4.lt
  have HI0 : Hid (RenI (w4.alloc (.cells #[.bool s, .slice ma zs.length mc, .slice pa ps.length pc] 29)) (w4.heap.size + 1) (w4.heap.size + 1) V ((w4.alloc (.cells #[.bool s, .slice ma zs.length mc, .slice pa ps.length pc] 29)).alloc (.cells #[.int .i64 V, .slice none 0 0] 25)) (renC V p (turnB turn) (cs.drop cs.length)) (.slice none 0 0) []) := by
    rw [sA] at BG bG
    refine ⟨?_, BG, bG⟩
    rw [List.drop_length]
    exact MadeL.start _ _
  go_wp2
  generalize (w4.alloc (.cells #[.bool s, .slice ma zs.length mc, .slice pa ps.length pc] 29)).alloc (.cells #[.int .i64 V, .slice none 0 0] 25) = W5 at *
  generalize w4.alloc (.cells #[.bool s, .slice ma zs.length mc, .slice pa ps.length pc] 29) = W4 at *
  have kA : Below w3.heap.size w3 W4 := hb4.trans (bA.mono s4)
  have HL4 : Hid (ListsAt W4 W4.heap.size ve cs) := (hL3.below kA (Nat.le_refl _)).mono kA.size
  have HA4 : Hid (AnsAt W4 w3.heap.size zs ps (.slice ma zs.length mc) (.slice pa ps.length pc) pvs) := hA.below' bA
  have HBA : Hid (Blk W4 w4.heap.size 29 [.bool s, .slice ma zs.length mc, .slice pa ps.length pc]) := BA
  have HBF : Hid (Blk W4 w2.heap.size 25 [.int .i64 V, .slice ve cs.length vcap]) := BFA
  have HK4 : Hid (Below w.heap.size w W4) := k3.trans (kA.mono hs3)
  clear hM hL2 hb2 hb1 b3 B3 hc hL3 hb4 k3 hF BA BF4 BFA BG BFG bG bA hA kA d0 d1 e1
  have hx0 : ((cs.length : Int) - 1) = ((cs.length : Nat) : Int) - 1 := rfl
  go_loopw [14] (fun x wr => ∃ (r : Nat) (v : Value) (vs : List Value), r ≤ cs.length ∧ x = .int .i64 ((r : Int) - 1) ∧ Hid (RenI W4 (w4.heap.size + 1) (w4.heap.size + 1) V wr (renC V p (turnB turn) (cs.drop r)) v vs)) (fun x _ => (intOf x + 1).toNat)
  case atStart => exact ⟨cs.length, _, _, Nat.le_refl _, rfl, HI0⟩
  case round =>
    clear HI0
    obtain ⟨r, v, vs, hr, rfl, HI⟩ := hrel
    have hold := HI.out.old
    have hsz4 : W4.heap.size = w4.heap.size + 1 := sA
    by_cases hr0 : r = 0
    · subst hr0
      obtain ⟨ga, gc, hvs, hLg⟩ := HI.out.made.lists
      subst hvs
      have HGr : Hid (Good V (renC V p (turnB turn) (cs.drop 0))) := by unfold Hid; rw [List.drop_zero]; exact renC_good HGood.out hn60
      have HRs : Hid (decide (0 < cntTo (renC V p (turnB turn) (cs.drop 0)) (2 ^ V)) = s) := by
        unfold Hid; rw [List.drop_zero, ren_same hpV (turnB turn) HGood.out.lits, HSat.out]
      have hx1 : (((0 : Nat) : Int) - 1) = -1 := by omega
      rw [hx1]
      have Bg := HI.out.box
      generalize renC V p (turnB turn) (cs.drop 0) = ds at *
      have g0 : wr.cell? ⟨w4.heap.size + 1, 0, none⟩ = some (.int .i64 V) := Bg.cell (i := 0) (by simp) undef
      have g1 : wr.cell? ⟨w4.heap.size + 1, 1, none⟩ = some (.slice ga ds.length gc) := Bg.cell (i := 1) (by simp) undef
      have hswo := hold.size
      have hKr : Below w.heap.size w wr := HK4.out.trans (hold.mono (by have := HK4.out.size; omega))
      have hTp := hT.below hKr hw0
      have hszr := hKr.size
      go_wp2_with fail
      refine (solve_good V ga gc ds wr hLg HGr.out (fault_good HGr.out) hTp (by omega)).mono ?_
      rintro e w5 ⟨en2, -, hOk2, hS2, hb5⟩
      obtain ⟨vm2, vp2, pvs2, rfl, hA2⟩ := solEnd_ans hS2
      have hsat2 := endOk_count (by omega) HGr.out hOk2
      obtain ⟨pa2, pc2, hvp2, -, -⟩ := hA2.proof.lists
      obtain ⟨ma2, mc2, hvm2⟩ := hA2.model.shape
      rw [List.length_map] at hvm2
      subst hvp2
      subst hvm2
      have cB := fun W h1 h2 => answered_any V ga gc ds en2 (.slice ma2 (ansOf en2).2.1.length mc2) (.slice pa2 (ansOf en2).2.2.length pc2) pvs2 wr.heap.size W h1 HGr.out hOk2 h2
      rw [HRs.out] at hsat2
      rw [hsat2] at cB
      rw [hsat2]
      clear hS2 hOk2 hsat2
      generalize (ansOf en2).2.1 = zs2 at *
      generalize (ansOf en2).2.2 = ps2 at *
      have s5 := hb5.size
      have bB := alloc_below w5 (.cells #[.bool s, .slice ma2 zs2.length mc2, .slice pa2 ps2.length pc2] 29)
      have BB := blk_new w5 [.bool s, .slice ma2 zs2.length mc2, .slice pa2 ps2.length pc2] 29
      dsimp only [List.toArray] at BB
      have k5 : Below (w4.heap.size + 1) W4 w5 := hold.trans (hb5.mono (by omega))
      have k5' : Below (w4.heap.size + 1) W4 (w5.alloc (.cells #[.bool s, .slice ma2 zs2.length mc2, .slice pa2 ps2.length pc2] 29)) := k5.trans (bB.mono (by have := k5.size; omega))
      have BF5 := HBF.out.below' (by rw [hsz4]; exact k5')
      have BA5 := HBA.out.below' (by rw [hsz4]; exact k5')
      have f0 := BF5.cell (i := 0) (by simp) undef
      have f1 := BF5.cell (i := 1) (by simp) undef
      obtain ⟨a0, a1, a2⟩ := blk_three BA5
      simp only [List.getD_cons_zero, List.getD_cons_succ] at f0 f1
      go_wp2_with fail
      generalize w5.alloc (.cells #[.bool s, .slice ma2 zs2.length mc2, .slice pa2 ps2.length pc2] 29) = W5 at *
      have hk5s := k5'.size
      refine (cA W5 ((HL4.out.below (by rw [hsz4]; exact k5') (Nat.le_refl _)).mono (by rw [hsz4] at hk5s ⊢; exact hk5s)) (HA4.out.below' (by rw [hsz4]; exact k5'))).mono ?_
      rintro e w6 ⟨rfl, hb6⟩
      have s6 := hb6.size
      have kW : Below wr.heap.size wr W5 := hb5.trans (bB.mono s5)
      have k6 : Below wr.heap.size wr w6 := kW.trans (hb6.mono kW.size)
      have BG6 := Bg.below' k6
      have BB6 := BB.below' hb6
      have g0' := BG6.cell (i := 0) (by simp) undef
      have g1' := BG6.cell (i := 1) (by simp) undef
      obtain ⟨b0, b1, b2⟩ := blk_three BB6
      simp only [List.getD_cons_zero, List.getD_cons_succ] at g0' g1'
      clear f0 f1 a0 a1 a2 g0 g1
      go_wp2_with fail
      refine (cB w6 ((hLg.below k6 (Nat.le_refl _)).mono k6.size) ((hA2.below' bB).below' hb6)).mono ?_
      rintro e w7 ⟨rfl, hb7⟩
      have BA7 := (BA5.below' hb6).below' hb7
      have BB7 := BB6.below' hb7
      obtain ⟨a0, -, -⟩ := blk_three BA7
      obtain ⟨b0', -, -⟩ := blk_three BB7
      have HB7 : Hid (Below w.heap.size w w7) := (hKr.trans (k6.mono hszr)).trans (hb7.mono (Nat.le_trans hszr k6.size))
      have hss : (s == s) = true := by simp
      clear g0' g1' b0 b1 b2
      go_wp2
      go_ret
      exact ⟨rfl, HB7.out⟩
    · obtain ⟨q, rfl⟩ : ∃ q, r = q + 1 := ⟨r - 1, by omega⟩
      have hq : q < cs.length := by omega
      have hqi : (((q + 1 : Nat) : Int) - 1) = (q : Int) := by omega
      rw [hqi]
      have hqc : (q : Int) < (cs.length : Int) := by omega
      have hqn : ¬ ((q : Int) < 0) := by omega
      obtain ⟨cb, co, hve, hcb, hcell⟩ := HL4.out (by intro h; rw [h] at hq; simp at hq)
      subst hve
      obtain ⟨A, Cc, hck0, hin0⟩ := hcell q hq
      have HTk : Hid (renC V p (turnB turn) (cs.drop q) = renC V p (turnB turn) (cs.drop (q + 1)) ++ [(cs.getD q []).map (renL V p (turnB turn)), (cs.getD q []).map (renL V p (turnB turn))]) := renC_cons V p (turnB turn) cs q hq
      have hmem : cs.getD q [] ∈ cs := by rw [getD_lt _ _ _ hq]; exact List.getElem_mem hq
      have HLit : Hid (∀ l ∈ cs.getD q [], IsLit V l) := HGood.out.lits _ hmem
      have hc20 := HGood.out.long _ hmem
      generalize cs.getD q [] = c at hck0 hin0 HTk HLit hc20
      have HIn : Hid (IntsAt W4 W4.heap.size A c) := hin0
      have HCK : Hid (W4.cell? ⟨cb, co + q, none⟩ = some (.slice A c.length Cc)) := hck0
      have HVl : Hid (vs.length = 2 * (cs.length - (q + 1))) := by have h1 := HI.out.made.len; rw [renC_len, List.length_drop] at h1; exact h1
      clear hcell hmem hin0 hck0
      obtain ⟨wo, hwo⟩ : ∃ wo, wo = wr := ⟨wr, rfl⟩
      subst hwo
      go_wp2
      go_loopw [15, 16] (fun vc x wq => ∃ j : Nat, j ≤ c.length ∧ x = .int .i64 j ∧ Hid (Own wq wo.heap.size 3 vc (ints ((c.take j).map (renL V p (turnB turn))))) ∧ Hid (Below wo.heap.size wo wq)) (fun _ x _ => c.length - (intOf x).toNat)
      case atStart => exact ⟨0, Nat.zero_le _, rfl, Own.nil _ _ _, Below.refl _ _⟩
      case round =>
        obtain ⟨j, hj, rfl, HO, HBq⟩ := hrel
        have hsq := HBq.out.size
        have hswo := hold.size
        have kq : Below (w4.heap.size + 1) W4 wr := hold.trans (HBq.out.mono (by omega))
        have hck : wr.cell? ⟨cb, co + q, none⟩ = some (.slice A c.length Cc) := (kq.cell (p := ⟨cb, co + q, none⟩) (by rw [← hsz4]; exact hcb)).trans HCK.out
        have Bq : Blk wr w2.heap.size 25 [.int .i64 V, .slice (some ⟨cb, co, none⟩) cs.length vcap] := HBF.out.below' (by rw [hsz4]; exact kq)
        have f0 : wr.cell? ⟨w2.heap.size, 0, none⟩ = some (.int .i64 V) := Bq.cell (i := 0) (by simp) undef
        have f1 : wr.cell? ⟨w2.heap.size, 1, none⟩ = some (.slice (some ⟨cb, co, none⟩) cs.length vcap) := Bq.cell (i := 1) (by simp) undef
        by_cases hlj : j < c.length
        · obtain ⟨b0, o0, hA, hb0, hcell⟩ := HIn.out (by intro h; rw [h] at hlj; simp at hlj)
          subst hA
          have hcx := (kq.cell (p := ⟨b0, o0 + j, none⟩) (by rw [← hsz4]; exact hb0)).trans (hcell j hlj)
          have hl := HLit.out (c.getD j 0) (by rw [getD_lt _ _ _ hlj]; exact List.getElem_mem hlj)
          have HT : Hid _ := ren_take (renL V p (turnB turn)) c j hlj
          have HJl : Hid ((ints ((c.take j).map (renL V p (turnB turn)))).length = j) := by unfold Hid; simp; omega
          generalize c.getD j 0 = l at hcx hl HT
          have HR : Hid (renL V p (turnB turn) l = if ((decide (l < 0)) != turnB turn (l.natAbs - 1)) then -(1 + (((l.natAbs - 1 + p) % V : Nat) : Int)) else 1 + (((l.natAbs - 1 + p) % V : Nat) : Int)) := rfl
          obtain ⟨n, hn⟩ : ∃ n, l.natAbs = n + 1 := ⟨l.natAbs - 1, by unfold IsLit at hl; omega⟩
          rw [hn, Nat.add_sub_cancel] at HR
          have hnV : n < V := by unfold IsLit at hl; omega
          have hjl' : (j : Int) < (c.length : Int) := by omega
          clear hcell
          have hVi : ¬ ((V : Int) = 0) := by omega
          obtain ⟨m, hm⟩ : ∃ m : Nat, (n + p) % V = m := ⟨_, rfl⟩
          have hmV : m < V := by rw [← hm]; exact Nat.mod_lt _ (by omega)
          have hemod : ((n : Int) + (p : Int)) % (V : Int) = (m : Int) := by rw [← hm]; simp
          have HM : Hid ((n + p) % V = m) := hm
          rw [hm] at HR
          clear hm
          have htt : turnB turn n = decide (bits BinOp.and IntKind.i64 (turn / 2 ^ n) 1 = 1) := rfl
          have HK : Hid (∀ (y : Int) (wn w8 : World) (g5 cap5 : Nat), renL V p (turnB turn) l = y → Below wr.heap.size wr wn → Own w8 wo.heap.size 3 (.slice (some ⟨g5, 0, none⟩) (j + 1) cap5) (ints ((c.take j).map (renL V p (turnB turn))) ++ [.int .i64 y]) → (wn.alloc (.cells #[.int .i64 y] 3)).grownBy w8 u15.ownBlock →
              Hid (Own w8 wo.heap.size 3 (.slice (some ⟨g5, 0, none⟩) (j + 1) cap5) (ints ((c.take (j + 1)).map (renL V p (turnB turn))))) ∧ Hid (Below wo.heap.size wo w8)) := by
            intro y wn w8 g5 cap5 hy hbn hO8 hgr8
            refine ⟨?_, ?_⟩
            · unfold Hid; rw [HT.out, hy]; simpa using hO8
            · exact grown_more (fun q e => ((HO.out.below' hbn).lt e).1) (HBq.out.trans (hbn.mono hsq)) hgr8
          rcases (show l = (n : Int) + 1 ∨ l = -((n : Int) + 1) by omega) with rfl | rfl
          · cases ht : turnB turn n
            · have hbt : (bits BinOp.and IntKind.i64 (turn / 2 ^ n) 1 == 1) = false := by rw [ht] at htt; simpa using htt.symm
              have HY : Hid (renL V p (turnB turn) ((n : Int) + 1) = 1 + (m : Int)) := by
                unfold Hid; rw [HR.out, ht, decide_eq_false (by omega)]; rfl
              clear ht htt HR hl hn
              go_wp2
              go_quiet ((go_at_call 8; exact Calls.quiet_of_same (cpick _)))
              rw [hemod]
              have HBn : Below wr.heap.size wr (wr.drewN nq) := sea_drewN _ wr nq
              have HOn := HO.out.below' HBn
              generalize wr.drewN nq = wn at *
              have OA := HOn.alloc (.cells #[.int .i64 (1 + (m : Int))] 3)
              have NA := blk_new wn [.int .i64 (1 + (m : Int))] 3
              have hsn := HBn.size
              go_wp2_with (at_builtin; refine wpList_append_new (.tmp 88) (.tmp 90) 27 3 (.int .i64 0) 8 Tryd.underlying27 Tryd.info3 rfl wo.heap.size wn.heap.size _ _ [.int .i64 (1 + (m : Int))] 1 j HJl.out rfl (by decide) (by rfl) (by rfl) OA NA (by intro u hu; simp at hu; rw [hu]; rfl) (by unfold maxLen; omega) (by omega) (by simp; omega) ?_; intro g5 cap5 w8 hO8 hgr8 hat8 hlt8)
              obtain ⟨r1, r2⟩ := HK.out _ wn w8 _ _ HY.out HBn hO8 hgr8
              exact ⟨⟨j + 1, by omega, by go_num, r1, r2⟩, by simp [intOf]; omega⟩
            · have hbt : (bits BinOp.and IntKind.i64 (turn / 2 ^ n) 1 == 1) = true := by rw [ht] at htt; simpa using htt.symm
              have HY : Hid (renL V p (turnB turn) ((n : Int) + 1) = -(1 + (m : Int))) := by
                unfold Hid; rw [HR.out, ht, decide_eq_false (by omega)]; rfl
              clear ht htt HR hl hn
              go_wp2
              go_quiet ((go_at_call 8; exact Calls.quiet_of_same (cpick _)))
              rw [hemod]
              have HBn : Below wr.heap.size wr (wr.drewN nq) := sea_drewN _ wr nq
              have HOn := HO.out.below' HBn
              generalize wr.drewN nq = wn at *
              have OA := HOn.alloc (.cells #[.int .i64 (-(1 + (m : Int)))] 3)
              have NA := blk_new wn [.int .i64 (-(1 + (m : Int)))] 3
              have hsn := HBn.size
              go_wp2_with (at_builtin; refine wpList_append_new (.tmp 88) (.tmp 90) 27 3 (.int .i64 0) 8 Tryd.underlying27 Tryd.info3 rfl wo.heap.size wn.heap.size _ _ [.int .i64 (-(1 + (m : Int)))] 1 j HJl.out rfl (by decide) (by rfl) (by rfl) OA NA (by intro u hu; simp at hu; rw [hu]; rfl) (by unfold maxLen; omega) (by omega) (by simp; omega) ?_; intro g5 cap5 w8 hO8 hgr8 hat8 hlt8)
              obtain ⟨r1, r2⟩ := HK.out _ wn w8 _ _ HY.out HBn hO8 hgr8
              exact ⟨⟨j + 1, by omega, by go_num, r1, r2⟩, by simp [intOf]; omega⟩
          · cases ht : turnB turn n
            · have hbt : (bits BinOp.and IntKind.i64 (turn / 2 ^ n) 1 == 1) = false := by rw [ht] at htt; simpa using htt.symm
              have HY : Hid (renL V p (turnB turn) (-((n : Int) + 1)) = -(1 + (m : Int))) := by
                unfold Hid; rw [HR.out, ht, decide_eq_true (by omega)]; rfl
              clear ht htt HR hl hn
              go_wp2
              go_quiet ((go_at_call 8; exact Calls.quiet_of_same (cpick _)))
              rw [hemod]
              have HBn : Below wr.heap.size wr (wr.drewN nq) := sea_drewN _ wr nq
              have HOn := HO.out.below' HBn
              generalize wr.drewN nq = wn at *
              have OA := HOn.alloc (.cells #[.int .i64 (-(1 + (m : Int)))] 3)
              have NA := blk_new wn [.int .i64 (-(1 + (m : Int)))] 3
              have hsn := HBn.size
              go_wp2_with (at_builtin; refine wpList_append_new (.tmp 88) (.tmp 90) 27 3 (.int .i64 0) 8 Tryd.underlying27 Tryd.info3 rfl wo.heap.size wn.heap.size _ _ [.int .i64 (-(1 + (m : Int)))] 1 j HJl.out rfl (by decide) (by rfl) (by rfl) OA NA (by intro u hu; simp at hu; rw [hu]; rfl) (by unfold maxLen; omega) (by omega) (by simp; omega) ?_; intro g5 cap5 w8 hO8 hgr8 hat8 hlt8)
              obtain ⟨r1, r2⟩ := HK.out _ wn w8 _ _ HY.out HBn hO8 hgr8
              exact ⟨⟨j + 1, by omega, by go_num, r1, r2⟩, by simp [intOf]; omega⟩
            · have hbt : (bits BinOp.and IntKind.i64 (turn / 2 ^ n) 1 == 1) = true := by rw [ht] at htt; simpa using htt.symm
              have HY : Hid (renL V p (turnB turn) (-((n : Int) + 1)) = 1 + (m : Int)) := by
                unfold Hid; rw [HR.out, ht, decide_eq_true (by omega)]; rfl
              clear ht htt HR hl hn
              go_wp2
              go_quiet ((go_at_call 8; exact Calls.quiet_of_same (cpick _)))
              rw [hemod]
              have HBn : Below wr.heap.size wr (wr.drewN nq) := sea_drewN _ wr nq
              have HOn := HO.out.below' HBn
              generalize wr.drewN nq = wn at *
              have OA := HOn.alloc (.cells #[.int .i64 (1 + (m : Int))] 3)
              have NA := blk_new wn [.int .i64 (1 + (m : Int))] 3
              have hsn := HBn.size
              go_wp2_with (at_builtin; refine wpList_append_new (.tmp 88) (.tmp 90) 27 3 (.int .i64 0) 8 Tryd.underlying27 Tryd.info3 rfl wo.heap.size wn.heap.size _ _ [.int .i64 (1 + (m : Int))] 1 j HJl.out rfl (by decide) (by rfl) (by rfl) OA NA (by intro u hu; simp at hu; rw [hu]; rfl) (by unfold maxLen; omega) (by omega) (by simp; omega) ?_; intro g5 cap5 w8 hO8 hgr8 hat8 hlt8)
              obtain ⟨r1, r2⟩ := HK.out _ wn w8 _ _ HY.out HBn hO8 hgr8
              exact ⟨⟨j + 1, by omega, by go_num, r1, r2⟩, by simp [intOf]; omega⟩
        · obtain rfl : j = c.length := by omega
          have hO9 := HO.out
          rw [List.take_length] at hO9
          obtain ⟨xa, xc, hxs⟩ := hO9.shape
          rw [List.length_map, List.length_map] at hxs
          subst hxs
          obtain ⟨ga, gc, hvs⟩ := HI.out.made.oe.shape
          subst hvs
          have Bg := HI.out.box.below' HBq.out
          have e1 : wr.cell? ⟨w4.heap.size + 1, 1, none⟩ = some (.slice ga vs.length gc) := Bg.cell (i := 1) (by simp) undef
          have hglt := Bg.lt
          have OA := (HI.out.made.oe.below' HBq.out).alloc (.cells #[.slice xa c.length xc, .slice xa c.length xc] 27)
          have NA := blk_new wr [.slice xa c.length xc, .slice xa c.length xc] 27
          have HOx : Hid (Own wr wo.heap.size 3 (.slice xa c.length xc) (ints (c.map (renL V p (turnB turn))))) := hO9
          have hv120 : vs.length ≤ 120 := by have := HVl.out; omega
          clear hO9 HO Bg
          go_wp2_with (at_builtin; refine wpList_append_new (.tmp 93) (.tmp 96) 22 27 (.slice none 0 0) 24 Tryd.underlying22 Tryd.infoInts rfl (w4.heap.size + 1) wr.heap.size _ vs [.slice xa c.length xc, .slice xa c.length xc] 2 vs.length rfl rfl (by decide) (by rfl) (by rfl) OA NA (by intro u hu; simp at hu; rw [hu]; rfl) (by unfold maxLen; omega) (by omega) (by simp; omega) ?_; intro g8 cap8 w8 hO8 hgr8 hat8 hlt8; obtain ⟨B8, hI8⟩ := RenI.more HI.out (Nat.le_of_eq hsz4.symm) HBq.out HOx.out (Nat.le_refl _) hO8 hgr8; have f8 : w8.cell? ⟨w4.heap.size + 1, 1, none⟩ = some (.slice ga vs.length gc) := B8.cell (i := 1) (by simp) undef; have f9 := B8.frozen 1; have HI8 : Hid _ := hI8; clear hI8 B8 hO8)
          exact ⟨⟨q, _, _, by omega, by go_num, by unfold Hid; rw [HTk.out]; exact HI8.out⟩, by simp [intOf]⟩
end Go.Proofs.YtlodenfdcckemabDoor
