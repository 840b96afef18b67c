/-
  Several texts, one behind the other.
-/
import Derived.Test.YtlodenfdcckemaaDoorH10
import Derived.Test.YtlodenfdcckemaaDoorH27
import Derived.Laws.OwnMore
import Derived.Test.YtlodenfdcckemaaDoorH8
import Derived.Test.YtlodenfdcckemaaDoorH23
/-
  The walk of text.
-/

namespace Go.Proofs.YtlodenfdcckemaaDoor
open Go.RowKit

/-- 'append(s, x...)', x a list that lies in memory, none or some. -/
theorem wpList_append_src {P : Program} {w : World} {ops : Array Oper} {rest : List Oper} {a : Act} {Q : Exit → Act → World → Prop} {dst : Option Tmp} {type : TypeId} {pos : String} {after : Array Edge} (s x : Operand) (t e : TypeId) (z : Value) (bytes : Nat)
    (hu : P.underlying t = some (.slice e)) (hinfo : (P.info? e).map (fun i => (i.zero, i.size, i.bytes)) = some (some z, 1, bytes)) (hz1 : z.cells.size = 1) (base : Nat) (v : Value) (xs : List Value) (hs : a.eval s = v) (ho : Own w base e v xs)
    (b2 : Nat) (u : Value) (news : List Value) (hx : a.eval x = u) (hu2 : Own w b2 e u news) (h1 : ∀ y ∈ news, y.oneCell' = true) (h63 : xs.length + news.length ≤ maxLen) (hby : (xs.length + news.length) * bytes ≤ 140737488355328) (hbase : base ≤ w.heap.size)
    (hK : ∀ v' w', Own w' base e v' (xs ++ news) → w.grownBy w' v.ownBlock → wpList P ops Q rest (a.put dst v') w') :
    wpList P ops Q (⟨dst, .call { callee := .builtin .append, args := #[s, x], argTypes := #[t, t] }, type, pos, after, none⟩ :: rest) a w := by
  obtain ⟨i, hi, hzz⟩ := Option.map_eq_some_iff.1 hinfo
  simp only [Prod.mk.injEq] at hzz
  obtain ⟨hz, hsz, hb⟩ := hzz
  refine wpList_plain rfl fun K hK' => ?_
  rcases hu2 with ⟨rfl, hn⟩ | ⟨g, cap, rfl, _, _, hr⟩
  · subst hn
    have hrun := run_append_owned_none (P := P) (w := w) base t type e i 1 hu hi v xs.length xs ho.own
    unfold Oper.wp
    simp only [execOp, resolve, invoke, builtin, Sem.run_bind, Sem.run_pure, Result.andThen_ok, List.map_toArray, List.map_cons, List.map_nil, hs, hx, hrun]
    exact hK' _ _ (hK v w (by simpa using ho) ⟨rfl, rfl, rfl, Nat.le_refl _, fun _ _ _ => rfl⟩)
  · have hnews : ∀ j y, news[j]? = some y → w.cell? ((⟨g, 0, none⟩ : Addr).add j) = some y := fun j y hj => by
      have hadd : (⟨g, 0, none⟩ : Addr).add j = ⟨g, j, none⟩ := by unfold Addr.add; split <;> simp_all
      obtain ⟨hlt, hy⟩ := List.getElem?_eq_some_iff.1 hj
      rw [hadd, hr.cell hlt undef, getD_lt _ _ _ hlt, hy]
    obtain ⟨v', w', hrun, h2, h3, _, _⟩ := run_append_own_at (P := P) w base t type e i z 1 bytes hu hi hz hsz hb hz1 (by decide) v xs.length xs ho.own ⟨g, 0, none⟩ news.length cap news (by omega) hnews h1 h63 hby hbase
    unfold Oper.wp
    simp only [execOp, resolve, invoke, builtin, Sem.run_bind, Sem.run_pure, Result.andThen_ok, List.map_toArray, List.map_cons, List.map_nil, hs, hx, hrun]
    refine hK' _ _ (hK v' w' ?_ h3)
    have h2' := h2
    obtain ⟨hl, ⟨rfl, h0⟩ | ⟨g', cap', cur, rfl, _⟩⟩ := h2'
    · exact Or.inl ⟨rfl, List.eq_nil_of_length_eq_zero (by rw [hl, h0])⟩
    · exact own_of h2


theorem wrapT {x : Int} (h0 : -9223372036854775808 ≤ x) (h1 : x ≤ 9223372036854775807) : IntKind.i64.wrap x = x := by
  rw [@IntKind.wrap_i64 x]
  omega

/-- What stands between two words. -/
def gapV : List Value := [.string ⟨#[32]⟩, .string ⟨#[10]⟩, .string ⟨#[9]⟩, .string ⟨#[32, 32]⟩, .string ⟨#[10, 99, 32, 49, 32, 50, 32, 48, 10]⟩, .string ⟨#[32, 10, 32]⟩]

theorem gapV_get (g : Nat) (h : g < 6) : ∃ s, gapV.getD g undef = .string s ∧ bs s ∈ gapsP ∧ s.size ≤ 9 := by
  rcases (show g = 0 ∨ g = 1 ∨ g = 2 ∨ g = 3 ∨ g = 4 ∨ g = 5 by omega) with rfl | rfl | rfl | rfl | rfl | rfl <;> exact ⟨_, rfl, by decide, by decide⟩

/-- The text so far: the head's line, and words with what stands behind them. -/
structure TxI (V : Nat) (cs : List (List Int)) (done : List Bytes) (s : ByteArray) (ws : List (Bytes × Bytes)) : Prop where
  text : bs s = headBy V cs.length ++ (10 :: spell ws)
  words : ws.map (·.1) = done
  gaps : ∀ p ∈ ws, p.2 ∈ gapsP

theorem spell_more (ws : List (Bytes × Bytes)) (a b : Bytes) : spell (ws ++ [(a, b)]) = spell ws ++ (a ++ b) := by unfold spell; simp

theorem TxI.more {V : Nat} {cs : List (List Int)} {done : List Bytes} {s t : ByteArray} {ws : List (Bytes × Bytes)} {a g : Bytes} (h : TxI V cs done s ws) (ht : bs t = bs s ++ (a ++ g)) (hg : g ∈ gapsP) : TxI V cs (done ++ [a]) t (ws ++ [(a, g)]) := by
  refine ⟨?_, ?_, ?_⟩
  · rw [ht, h.text, spell_more]; simp
  · rw [List.map_append, h.words]; rfl
  · intro p hp
    rcases List.mem_append.1 hp with hp | hp
    · exact h.gaps p hp
    · have : p = (a, g) := by simpa using hp
      rw [this]; exact hg

theorem wordBy_neg (n : Nat) : wordBy (-((n : Int) + 1)) = 45 :: dig (n + 1) := by
  unfold wordBy
  rw [if_pos (by omega), show (-((n : Int) + 1)).natAbs = n + 1 by omega]
theorem wordBy_pos (n : Nat) : wordBy (n : Int) = dig n := by
  unfold wordBy
  rw [if_neg (by omega), Int.natAbs_natCast]

set_option maxRecDepth 100000 in
set_option maxHeartbeats 8000000 in
theorem text_any (V : Nat) (v : Value) (vs : List Value) (cs : List (List Int)) (base : Nat) (ap : Option Addr) (acap : Nat) (zs : List Int) (w : World) (hM : MadeL w base v vs cs) (hg : Good V cs) (h60 : cs.length ≤ 60) (h4 : ∀ c ∈ cs, c.length ≤ 4) (hz : IntsAt w w.heap.size ap zs) (hzb : ∀ z ∈ zs, -9223372036854775808 ≤ z ∧ z ≤ 9223372036854775807) (hzl : zs.length ≤ 4611686018427387904) :
    Calls Tryd.prog 28 #[.agg #[.int .i64 V, v], .slice ap zs.length acap] w fun e w' => ∃ s ws, e = .returned (.string s) ∧ TxI V cs (cs.flatMap clauseWords) s ws ∧ s.size ≤ 5000 ∧ Below w.heap.size w w' := by
  obtain ⟨va, vc, hv⟩ := hM.oe.shape
  have hlen := hM.len
  rw [hlen] at hv
  subst hv
  have hV20 := hg.vars
  have b0 := alloc_below w (.cells #[.int .i64 V, .slice va cs.length vc] 31)
  have B0 := blk_new w [.int .i64 V, .slice va cs.length vc] 31
  have s0 := alloc_size w (.cells #[.int .i64 V, .slice va cs.length vc] 31)
  dsimp only [List.toArray] at B0
  have dV := fun W => digits_any V W (by omega)
  have dC := fun W => digits_any cs.length W (by omega)
  go_enter Tryd.func28, Tryd.ntmps28
  go_wp2_with fail
  generalize w.alloc (.cells #[.int .i64 V, .slice va cs.length vc] 31) = W0 at *
  refine (dV W0).mono ?_
  rintro e w1 ⟨sv, rfl, hsv, hb1⟩
  have B1 := B0.below' hb1
  have s1 := hb1.size
  have c1 : w1.cell? ⟨w.heap.size, 1, none⟩ = some (.slice va cs.length vc) := B1.cell (i := 1) (by simp) undef
  have l1 := B1.lt
  go_wp2_with fail
  refine (dC w1).mono ?_
  rintro e w2 ⟨sc, rfl, hsc, hb2⟩
  have s2 := hb2.size
  have B2 := B1.below' hb2
  have l2 := B2.lt
  have hk2 : Below w.heap.size w w2 := (b0.trans (hb1.mono (by omega))).trans (hb2.mono (by omega))
  have hsv3 : sv.size ≤ 3 := by rw [size_bs, hsv]; exact (dig_len V).2
  have hsc3 : sc.size ≤ 3 := by rw [size_bs, hsc]; exact (dig_len _).2
  clear c1 dV dC
  have HTx0 : Hid (TxI V cs [] (⟨#[112, 32, 99, 110, 102, 32]⟩ ++ sv ++ ⟨#[32]⟩ ++ sc ++ ⟨#[10]⟩) []) := by
    refine ⟨?_, rfl, fun p hp => by cases hp⟩
    rw [bs_cat, bs_cat, bs_cat, bs_cat, hsv, hsc]
    unfold headBy
    simp [bs, spell, prefixP]
  have hS0 : (⟨#[112, 32, 99, 110, 102, 32]⟩ ++ sv ++ ⟨#[32]⟩ ++ sc ++ ⟨#[10]⟩ : ByteArray).size ≤ 14 := by
    have h1 := size_bs sv
    have h2 := size_bs sc
    rw [size_bs, bs_cat, bs_cat, bs_cat, bs_cat]
    simp only [List.length_append]
    simp
    omega
  have BG : Blk (w2.alloc (.cells #[.string ⟨#[32]⟩, .string ⟨#[10]⟩, .string ⟨#[9]⟩, .string ⟨#[32, 32]⟩, .string ⟨#[10, 99, 32, 49, 32, 50, 32, 48, 10]⟩, .string ⟨#[32, 10, 32]⟩] 9)) w2.heap.size 9 gapV := blk_new w2 gapV 9
  have bG := alloc_below w2 (.cells #[.string ⟨#[32]⟩, .string ⟨#[10]⟩, .string ⟨#[9]⟩, .string ⟨#[32, 32]⟩, .string ⟨#[10, 99, 32, 49, 32, 50, 32, 48, 10]⟩, .string ⟨#[32, 10, 32]⟩] 9)
  have sG := alloc_size w2 (.cells #[.string ⟨#[32]⟩, .string ⟨#[10]⟩, .string ⟨#[9]⟩, .string ⟨#[32, 32]⟩, .string ⟨#[10, 99, 32, 49, 32, 50, 32, 48, 10]⟩, .string ⟨#[32, 10, 32]⟩] 9)
  go_wp2
  generalize w2.alloc (.cells #[.string ⟨#[32]⟩, .string ⟨#[10]⟩, .string ⟨#[9]⟩, .string ⟨#[32, 32]⟩, .string ⟨#[10, 99, 32, 49, 32, 50, 32, 48, 10]⟩, .string ⟨#[32, 10, 32]⟩] 9) = W3 at *
  generalize (⟨#[112, 32, 99, 110, 102, 32]⟩ ++ sv ++ ⟨#[32]⟩ ++ sc ++ ⟨#[10]⟩ : ByteArray) = S0 at *
  have HK3 : Hid (Below w.heap.size w W3) := hk2.trans (bG.mono (by omega))
  have HM3 : Hid (MadeL W3 base (.slice va cs.length vc) vs cs) := hM.below' HK3.out
  have HF3 : Hid (Blk W3 w.heap.size 31 [.int .i64 V, .slice va cs.length vc]) := B2.below' bG
  have HG3 : Hid (Blk W3 w2.heap.size 9 gapV) := BG
  have HZ3 : Hid (IntsAt W3 w.heap.size ap zs) := hz.below HK3.out (Nat.le_refl _)
  have HZb : Hid (∀ z ∈ zs, -9223372036854775808 ≤ z ∧ z ≤ 9223372036854775807) := hzb
  have H4 : Hid (∀ c ∈ cs, c.length ≤ 4) := h4
  have HLi : Hid (∀ c ∈ cs, ∀ l ∈ c, IsLit V l) := hg.lits
  have hw3 := HK3.out.size
  have hlt3 : w.heap.size < W3.heap.size := HF3.out.lt
  have hlg3 : w2.heap.size < W3.heap.size := HG3.out.lt
  clear hM hz hzb h4 hg b0 B0 hb1 B1 hb2 B2 hk2 bG BG hsv hsc hsv3 hsc3 s0 s1 s2 sG l1 l2
  go_loopw [7, 9, 10] (fun xs xn xi wr => ∃ (i n : Nat) (s : ByteArray) (ws : List (Bytes × Bytes)), i ≤ cs.length ∧ xi = .int .i64 i ∧ xn = .int .i64 n ∧ xs = .string s ∧ n ≤ 5 * i ∧ s.size ≤ 14 + 13 * n ∧ Hid (TxI V cs ((cs.take i).flatMap clauseWords) s ws) ∧ Hid (Below W3.heap.size W3 wr)) (fun _ _ x _ => cs.length - (intOf x).toNat)
  case atStart => exact ⟨0, 0, S0, [], Nat.zero_le _, rfl, rfl, rfl, Nat.zero_le _, by omega, HTx0, Below.refl _ _⟩
  case round =>
    clear HTx0 hS0
    obtain ⟨i, n, s, ws, hi, rfl, rfl, rfl, hn, hs, HTx, HB⟩ := hrel
    have hsB := HB.out.size
    have c1 : wr.cell? ⟨w.heap.size, 1, none⟩ = some (.slice va cs.length vc) := (HF3.out.below' HB.out).cell (i := 1) (by simp) undef
    by_cases hlt : i < cs.length
    · have hMr := HM3.out.below' HB.out
      obtain ⟨ga, gc, he, hga, hcells⟩ := hMr.oe.at (by omega)
      have hck := hcells i (by omega)
      have hov := hMr.ls i (by omega)
      simp only [Value.slice.injEq] at he
      obtain ⟨rfl, -, rfl⟩ := he
      have hmem : cs.getD i [] ∈ cs := by rw [getD_lt _ _ _ hlt]; exact List.getElem_mem hlt
      have hc4 := H4.out _ hmem
      have HL : Hid (∀ l ∈ cs.getD i [], IsLit V l) := HLi.out _ hmem
      have HTk : Hid ((cs.take (i + 1)).flatMap clauseWords = (cs.take i).flatMap clauseWords ++ ((cs.getD i []) ++ [0]).map wordBy) := by
        unfold Hid
        rw [List.take_succ_eq_append_getElem hlt, List.flatMap_append, getD_lt _ _ _ hlt]
        simp [clauseWords]
      generalize cs.getD i [] = c at *
      generalize vs.getD i undef = vi at *
      obtain ⟨xa, xc, hxs⟩ := hov.shape
      rw [List.length_map] at hxs
      subst hxs
      have hil : (ints c).length = c.length := List.length_map _
      have hltI : (i : Int) < (cs.length : Int) := by omega
      clear hcells hMr hmem
      obtain ⟨wo, hwo⟩ : ∃ wo, wo = wr := ⟨wr, rfl⟩
      subst hwo
      go_wp2_with (first
        | (at_builtin; refine wpList_append_src (.tmp 36) (.tmp 41) 24 3 (.int .i64 0) 8 Tryd.underlying24 Tryd.info3 rfl wo.heap.size _ [] (by rfl) (Own.nil _ _ _) base _ (ints c) (by rfl) hov (ints_one c) (by unfold maxLen; simp only [List.length_nil, hil]; omega) (by simp only [List.length_nil, hil]; omega) (Nat.le_refl _) ?_; intro v1 wa hO1 hg1; rw [List.nil_append] at hO1; obtain ⟨xa1, xc1, hx1⟩ := hO1.shape; rw [List.length_map] at hx1; subst hx1; have OA := hO1.alloc (.cells #[.int .i64 0] 3); have NA := blk_new wa [.int .i64 0] 3; have HKa : Hid (Below wo.heap.size wo wa) := ⟨hg1.os, hg1.tape, hg1.output, hg1.size, fun q hq => hg1.block q hq (fun e => by cases e)⟩; have hsa := HKa.out.size; have HO1 : Hid (Own wa wo.heap.size 3 (.slice xa1 c.length xc1) (ints c)) := hO1; clear hO1 hg1)
        | (at_builtin; refine wpList_append_new (.tmp 43) (.tmp 44) 24 3 (.int .i64 0) 8 Tryd.underlying24 Tryd.info3 rfl wo.heap.size wa.heap.size _ (ints c) [.int .i64 0] 1 c.length hil rfl (by decide) (by rfl) (by rfl) OA NA (by intro u hu; simp at hu; rw [hu]; rfl) (by unfold maxLen; omega) (by omega) (by simp; omega) ?_; intro g5 cap5 wb hO5 hgr5 hat5 hlt5; have HKb : Hid (Below wo.heap.size wo wb) := grown_more (fun q e => (HO1.out.lt e).1) HKa.out hgr5; have HO5 : Hid (Own wb wo.heap.size 3 (.slice (some ⟨g5, 0, none⟩) (c.length + 1) cap5) (ints c ++ [.int .i64 0])) := hO5; clear hO5 hgr5 OA NA))
      have HD5 : Hid (∀ q, q < c.length + 1 → wb.cell? ⟨g5, q, none⟩ = some (.int .i64 ((c ++ [0]).getD q 0))) := by
        intro q hq
        obtain ⟨gg, gcap, hge, hgl, hgc⟩ := HO5.out.at (by simp)
        simp only [Value.slice.injEq, Option.some.injEq, Addr.mk.injEq, and_true] at hge
        obtain ⟨rfl, -, rfl⟩ := hge
        rw [hgc q (by simp; omega)]
        congr 1
        rw [show ints c ++ [Value.int .i64 0] = ints (c ++ [0]) by simp [ints], getD_lt _ _ _ (by simp; omega), getD_lt _ _ _ (by simp; omega)]
        simp only [ints, List.getElem_map]
      have hg5 : g5 < wb.heap.size := hlt5
      have HLd : Hid (∀ l ∈ c ++ [0], l ≤ 20 ∧ -20 ≤ l) := by
        intro l hl
        rcases List.mem_append.1 hl with hl | hl
        · have h1 := HL.out l hl; unfold IsLit at h1; omega
        · have : l = 0 := by simpa using hl
          omega
      have hdl : (c ++ [0]).length = c.length + 1 := by simp
      have hsb := HKb.out.size
      generalize c ++ [0] = d at *
      clear HO5 HO1 hov hat5
      go_loopw [7, 9, 12] (fun xs xn xj wq => ∃ (j n : Nat) (s : ByteArray) (ws : List (Bytes × Bytes)), j ≤ c.length + 1 ∧ xj = .int .i64 j ∧ xn = .int .i64 n ∧ xs = .string s ∧ n ≤ 5 * i + j ∧ s.size ≤ 14 + 13 * n ∧ Hid (TxI V cs ((cs.take i).flatMap clauseWords ++ (d.take j).map wordBy) s ws) ∧ Hid (Below wb.heap.size wb wq)) (fun _ _ x _ => c.length + 1 - (intOf x).toNat)
      case atStart => exact ⟨0, n, s, ws, Nat.zero_le _, rfl, rfl, rfl, by omega, hs, by unfold Hid; simpa using HTx.out, Below.refl _ _⟩
      case round =>
        clear hs hn HTx
        obtain ⟨j, n, s, ws, hj, rfl, rfl, rfl, hn, hs, HTx, HBq⟩ := hrel
        have hsq := HBq.out.size
        by_cases hlj : j < c.length + 1
        · have hjd : j < d.length := by omega
          have hcx := (HBq.out.cell (p := ⟨g5, j, none⟩) hg5).trans (HD5.out j hlj)
          have hl := HLd.out (d.getD j 0) (by rw [getD_lt _ _ _ hjd]; exact List.getElem_mem hjd)
          have HT : Hid ((d.take (j + 1)).map wordBy = (d.take j).map wordBy ++ [wordBy (d.getD j 0)]) := by
            unfold Hid; rw [List.take_succ_eq_append_getElem hjd, List.map_append, getD_lt _ _ _ hjd]; rfl
          generalize d.getD j 0 = x at *
          have HMore : Hid (∀ (t : ByteArray) (g : Bytes), bs t = bs s ++ (wordBy x ++ g) → g ∈ gapsP → Hid (TxI V cs ((cs.take i).flatMap clauseWords ++ (d.take (j + 1)).map wordBy) t (ws ++ [(wordBy x, g)]))) := by
            intro t g ht hgm
            have := HTx.out.more ht hgm
            unfold Hid; rw [HT.out, ← List.append_assoc]; exact this
          have kq : Below W3.heap.size W3 wr := (HB.out.trans (HKb.out.mono hsB)).trans (HBq.out.mono (by omega))
          have hjI : (j : Int) < (c.length : Int) + 1 := by omega
          have hgq : g5 < wr.heap.size := by omega
          obtain ⟨z, pg, hpg, hpick, hzc⟩ : ∃ (z : Int) (pg : Nat), pg < 6 ∧ (n < zs.length → ∀ W, Calls Tryd.prog 57 #[.int .i64 z, .int .i64 6] W fun e w' => e = .returned (.int .i64 pg) ∧ w' = W) ∧ (n < zs.length → ∃ b o, ap = some ⟨b, o, none⟩ ∧ b < w.heap.size ∧ W3.cell? ⟨b, o + n, none⟩ = some (.int .i64 z)) := by
            by_cases hnz : n < zs.length
            · obtain ⟨b, o, h1, h2, h3⟩ := HZ3.out (by intro h; rw [h] at hnz; simp at hnz)
              have hzm := HZb.out (zs.getD n 0) (by rw [getD_lt _ _ _ hnz]; exact List.getElem_mem hnz)
              have hr := pickOf_range (zs.getD n 0) (show (0 : Int) < 6 by omega)
              refine ⟨zs.getD n 0, (pickOf (zs.getD n 0) 6).toNat, by omega, fun _ W => ?_, fun _ => ⟨b, o, h1, h2, h3 n hnz⟩⟩
              rw [show (((pickOf (zs.getD n 0) 6).toNat : Nat) : Int) = pickOf (zs.getD n 0) 6 by omega]
              exact pick_any _ 6 W hzm.1 hzm.2 (by omega) (by omega)
            · exact ⟨0, 0, by omega, fun h => absurd h hnz, fun h => absurd h hnz⟩
          rcases (show (∃ k : Nat, x = -((k : Int) + 1)) ∨ ∃ k : Nat, x = (k : Int) by
            by_cases h0 : x < 0
            · exact Or.inl ⟨(-x - 1).toNat, by omega⟩
            · exact Or.inr ⟨x.toNat, by omega⟩) with ⟨k, rfl⟩ | ⟨k, rfl⟩
          · by_cases hnz : n < zs.length
            · skip
              have cd : ∀ q, Below wr.heap.size wr q → Calls Tryd.prog 59 #[.int .i64 ((k : Int) + 1)] q (fun e w' => ∃ sd, e = .returned (.string sd) ∧ Hid (bs sd = dig (k + 1)) ∧ Hid (Below wr.heap.size wr w') ∧ w'.cell? ⟨g5, j, none⟩ = some (.int .i64 (-((k : Int) + 1)))) := by
                intro q hq
                have h0 := digits_any (k + 1) q (by omega)
                rw [show ((k + 1 : Nat) : Int) = (k : Int) + 1 by omega] at h0
                refine h0.mono ?_
                rintro e w' ⟨sd, h1, h2, h3⟩
                have h4 := hq.trans (h3.mono hq.size)
                exact ⟨sd, h1, h2, h4, (h4.cell (p := ⟨g5, j, none⟩) hgq).trans hcx⟩
              have hmx : max (-((k : Int) + 1)) (IntKind.i64.wrap ((k : Int) + 1)) = (k : Int) + 1 := by rw [wrapT (by omega) (by omega)]; omega
              obtain ⟨ab, ao, hap, hab, hac⟩ := hzc hnz
              subst hap
              have hp := hpick hnz
              have hnI : (n : Int) < (zs.length : Int) := by omega
              obtain ⟨sg, hsg, hgm, hsz9⟩ := gapV_get pg hpg
              have HGm : Hid (bs sg ∈ gapsP) := hgm
              clear hgm hl
              go_wp2
              go_region_held3 (fun q => q.cell? ⟨g5, j, none⟩ = some (.int .i64 (-((k : Int) + 1)))) (first | exact hcx | exact hcd | go_keep) (first | (go_at_call 59; refine (cd _ (by first | exact Below.refl _ _ | exact (Below.refl _ _).drew)).mono ?_; rintro e wd ⟨sd, rfl, HSd, HBd, hcd⟩))
              have hszd : sd.size ≤ 3 := by rw [size_bs, HSd.out]; exact (dig_len _).2
              have HSz : Hid ((s ++ ⟨#[45]⟩ ++ sd ++ sg).size ≤ 14 + 13 * (n + 1)) := by
                have h1 := size_bs s
                have h2 := size_bs sd
                have h3 := size_bs sg
                unfold Hid
                rw [size_bs, bs_cat, bs_cat, bs_cat]
                simp only [List.length_append]
                simp
                omega
              have HTn : Hid (TxI V cs ((cs.take i).flatMap clauseWords ++ (d.take (j + 1)).map wordBy) (s ++ ⟨#[45]⟩ ++ sd ++ sg) (ws ++ [(wordBy (-((k : Int) + 1)), bs sg)])) := HMore.out _ _ (by rw [bs_cat, bs_cat, bs_cat, HSd.out, wordBy_neg]; simp [bs]) HGm.out
              have kd : Below W3.heap.size W3 wd := kq.trans (HBd.out.mono kq.size)
              have cg : wd.cell? ⟨w2.heap.size, pg, none⟩ = some (.string sg) := by rw [(HG3.out.below' kd).cell (i := pg) (by first | exact hpg | decide) undef, hsg]
              have HBe : Hid (Below wb.heap.size wb wd) := HBq.out.trans (HBd.out.mono hsq)
              have hpgI : ((pg : Nat) : Int) < 6 := by omega
              have ca : wd.cell? ⟨ab, ao + n, none⟩ = some (.int .i64 z) := (kd.cell (p := ⟨ab, ao + n, none⟩) (Nat.lt_of_lt_of_le hab hw3)).trans hac
              go_wp2_with (go_at_call 57; refine (hp _).mono ?_; rintro e w' ⟨rfl, hw'⟩; obtain rfl := hw'.symm)
              exact ⟨⟨j + 1, n + 1, _, _, by omega, by go_num, by go_num, rfl, by omega, HSz.out, HTn, HBe⟩, by simp [intOf]; omega⟩
            · skip
              have cd : ∀ q, Below wr.heap.size wr q → Calls Tryd.prog 59 #[.int .i64 ((k : Int) + 1)] q (fun e w' => ∃ sd, e = .returned (.string sd) ∧ Hid (bs sd = dig (k + 1)) ∧ Hid (Below wr.heap.size wr w') ∧ w'.cell? ⟨g5, j, none⟩ = some (.int .i64 (-((k : Int) + 1)))) := by
                intro q hq
                have h0 := digits_any (k + 1) q (by omega)
                rw [show ((k + 1 : Nat) : Int) = (k : Int) + 1 by omega] at h0
                refine h0.mono ?_
                rintro e w' ⟨sd, h1, h2, h3⟩
                have h4 := hq.trans (h3.mono hq.size)
                exact ⟨sd, h1, h2, h4, (h4.cell (p := ⟨g5, j, none⟩) hgq).trans hcx⟩
              have hmx : max (-((k : Int) + 1)) (IntKind.i64.wrap ((k : Int) + 1)) = (k : Int) + 1 := by rw [wrapT (by omega) (by omega)]; omega
              have hnI : ¬ ((n : Int) < (zs.length : Int)) := by omega
              obtain ⟨sg, hsg, hgm, hsz9⟩ := gapV_get 0 (by omega)
              have HGm : Hid (bs sg ∈ gapsP) := hgm
              clear hgm hl
              go_wp2
              go_region_held3 (fun q => q.cell? ⟨g5, j, none⟩ = some (.int .i64 (-((k : Int) + 1)))) (first | exact hcx | exact hcd | go_keep) (first | (go_at_call 59; refine (cd _ (by first | exact Below.refl _ _ | exact (Below.refl _ _).drew)).mono ?_; rintro e wd ⟨sd, rfl, HSd, HBd, hcd⟩))
              have hszd : sd.size ≤ 3 := by rw [size_bs, HSd.out]; exact (dig_len _).2
              have HSz : Hid ((s ++ ⟨#[45]⟩ ++ sd ++ sg).size ≤ 14 + 13 * (n + 1)) := by
                have h1 := size_bs s
                have h2 := size_bs sd
                have h3 := size_bs sg
                unfold Hid
                rw [size_bs, bs_cat, bs_cat, bs_cat]
                simp only [List.length_append]
                simp
                omega
              have HTn : Hid (TxI V cs ((cs.take i).flatMap clauseWords ++ (d.take (j + 1)).map wordBy) (s ++ ⟨#[45]⟩ ++ sd ++ sg) (ws ++ [(wordBy (-((k : Int) + 1)), bs sg)])) := HMore.out _ _ (by rw [bs_cat, bs_cat, bs_cat, HSd.out, wordBy_neg]; simp [bs]) HGm.out
              have kd : Below W3.heap.size W3 wd := kq.trans (HBd.out.mono kq.size)
              have cg : wd.cell? ⟨w2.heap.size, 0, none⟩ = some (.string sg) := by rw [(HG3.out.below' kd).cell (i := 0) (by first | exact hpg | decide) undef, hsg]
              have HBe : Hid (Below wb.heap.size wb wd) := HBq.out.trans (HBd.out.mono hsq)
              have hpgI : ((0 : Nat) : Int) < 6 := by omega
              go_wp2
              exact ⟨⟨j + 1, n + 1, _, _, by omega, by go_num, by go_num, rfl, by omega, HSz.out, HTn, HBe⟩, by simp [intOf]; omega⟩
          · by_cases hnz : n < zs.length
            · skip
              have cd : ∀ q, Below wr.heap.size wr q → Calls Tryd.prog 59 #[.int .i64 ((k : Int))] q (fun e w' => ∃ sd, e = .returned (.string sd) ∧ Hid (bs sd = dig (k)) ∧ Hid (Below wr.heap.size wr w') ∧ w'.cell? ⟨g5, j, none⟩ = some (.int .i64 ((k : Int)))) := by
                intro q hq
                have h0 := digits_any (k) q (by omega)
                refine h0.mono ?_
                rintro e w' ⟨sd, h1, h2, h3⟩
                have h4 := hq.trans (h3.mono hq.size)
                exact ⟨sd, h1, h2, h4, (h4.cell (p := ⟨g5, j, none⟩) hgq).trans hcx⟩
              have hmx : max (k : Int) (IntKind.i64.wrap (-(k : Int))) = (k : Int) := by rw [wrapT (by omega) (by omega)]; omega
              obtain ⟨ab, ao, hap, hab, hac⟩ := hzc hnz
              subst hap
              have hp := hpick hnz
              have hnI : (n : Int) < (zs.length : Int) := by omega
              obtain ⟨sg, hsg, hgm, hsz9⟩ := gapV_get pg hpg
              have HGm : Hid (bs sg ∈ gapsP) := hgm
              clear hgm hl
              go_wp2
              go_region_held3 (fun q => q.cell? ⟨g5, j, none⟩ = some (.int .i64 ((k : Int)))) (first | exact hcx | exact hcd | go_keep) (first | (go_at_call 59; refine (cd _ (by first | exact Below.refl _ _ | exact (Below.refl _ _).drew)).mono ?_; rintro e wd ⟨sd, rfl, HSd, HBd, hcd⟩))
              have hszd : sd.size ≤ 3 := by rw [size_bs, HSd.out]; exact (dig_len _).2
              have HSz : Hid ((s ++ sd ++ sg).size ≤ 14 + 13 * (n + 1)) := by
                have h1 := size_bs s
                have h2 := size_bs sd
                have h3 := size_bs sg
                unfold Hid
                rw [size_bs, bs_cat, bs_cat]
                simp only [List.length_append]
                simp
                omega
              have HTn : Hid (TxI V cs ((cs.take i).flatMap clauseWords ++ (d.take (j + 1)).map wordBy) (s ++ sd ++ sg) (ws ++ [(wordBy ((k : Int)), bs sg)])) := HMore.out _ _ (by rw [bs_cat, bs_cat, HSd.out, wordBy_pos]; simp [bs]) HGm.out
              have kd : Below W3.heap.size W3 wd := kq.trans (HBd.out.mono kq.size)
              have cg : wd.cell? ⟨w2.heap.size, pg, none⟩ = some (.string sg) := by rw [(HG3.out.below' kd).cell (i := pg) (by first | exact hpg | decide) undef, hsg]
              have HBe : Hid (Below wb.heap.size wb wd) := HBq.out.trans (HBd.out.mono hsq)
              have hpgI : ((pg : Nat) : Int) < 6 := by omega
              have ca : wd.cell? ⟨ab, ao + n, none⟩ = some (.int .i64 z) := (kd.cell (p := ⟨ab, ao + n, none⟩) (Nat.lt_of_lt_of_le hab hw3)).trans hac
              go_wp2_with (go_at_call 57; refine (hp _).mono ?_; rintro e w' ⟨rfl, hw'⟩; obtain rfl := hw'.symm)
              exact ⟨⟨j + 1, n + 1, _, _, by omega, by go_num, by go_num, rfl, by omega, HSz.out, HTn, HBe⟩, by simp [intOf]; omega⟩
            · skip
              have cd : ∀ q, Below wr.heap.size wr q → Calls Tryd.prog 59 #[.int .i64 ((k : Int))] q (fun e w' => ∃ sd, e = .returned (.string sd) ∧ Hid (bs sd = dig (k)) ∧ Hid (Below wr.heap.size wr w') ∧ w'.cell? ⟨g5, j, none⟩ = some (.int .i64 ((k : Int)))) := by
                intro q hq
                have h0 := digits_any (k) q (by omega)
                refine h0.mono ?_
                rintro e w' ⟨sd, h1, h2, h3⟩
                have h4 := hq.trans (h3.mono hq.size)
                exact ⟨sd, h1, h2, h4, (h4.cell (p := ⟨g5, j, none⟩) hgq).trans hcx⟩
              have hmx : max (k : Int) (IntKind.i64.wrap (-(k : Int))) = (k : Int) := by rw [wrapT (by omega) (by omega)]; omega
              have hnI : ¬ ((n : Int) < (zs.length : Int)) := by omega
              obtain ⟨sg, hsg, hgm, hsz9⟩ := gapV_get 0 (by omega)
              have HGm : Hid (bs sg ∈ gapsP) := hgm
              clear hgm hl
              go_wp2
              go_region_held3 (fun q => q.cell? ⟨g5, j, none⟩ = some (.int .i64 ((k : Int)))) (first | exact hcx | exact hcd | go_keep) (first | (go_at_call 59; refine (cd _ (by first | exact Below.refl _ _ | exact (Below.refl _ _).drew)).mono ?_; rintro e wd ⟨sd, rfl, HSd, HBd, hcd⟩))
              have hszd : sd.size ≤ 3 := by rw [size_bs, HSd.out]; exact (dig_len _).2
              have HSz : Hid ((s ++ sd ++ sg).size ≤ 14 + 13 * (n + 1)) := by
                have h1 := size_bs s
                have h2 := size_bs sd
                have h3 := size_bs sg
                unfold Hid
                rw [size_bs, bs_cat, bs_cat]
                simp only [List.length_append]
                simp
                omega
              have HTn : Hid (TxI V cs ((cs.take i).flatMap clauseWords ++ (d.take (j + 1)).map wordBy) (s ++ sd ++ sg) (ws ++ [(wordBy ((k : Int)), bs sg)])) := HMore.out _ _ (by rw [bs_cat, bs_cat, HSd.out, wordBy_pos]; simp [bs]) HGm.out
              have kd : Below W3.heap.size W3 wd := kq.trans (HBd.out.mono kq.size)
              have cg : wd.cell? ⟨w2.heap.size, 0, none⟩ = some (.string sg) := by rw [(HG3.out.below' kd).cell (i := 0) (by first | exact hpg | decide) undef, hsg]
              have HBe : Hid (Below wb.heap.size wb wd) := HBq.out.trans (HBd.out.mono hsq)
              have hpgI : ((0 : Nat) : Int) < 6 := by omega
              go_wp2
              exact ⟨⟨j + 1, n + 1, _, _, by omega, by go_num, by go_num, rfl, by omega, HSz.out, HTn, HBe⟩, by simp [intOf]; omega⟩
        · obtain rfl : j = c.length + 1 := by omega
          have HTe : Hid (TxI V cs ((cs.take (i + 1)).flatMap clauseWords) s ws) := by
            unfold Hid; rw [HTk.out]
            have := HTx.out
            rw [List.take_of_length_le (l := d) (by omega)] at this
            exact this
          have HBo : Hid (Below W3.heap.size W3 wr) := (HB.out.trans (HKb.out.mono hsB)).trans (HBq.out.mono (by omega))
          go_wp2
          exact ⟨⟨i + 1, n, s, ws, by omega, by go_num, rfl, rfl, by omega, hs, HTe, HBo⟩, by simp [intOf]; omega⟩
    · obtain rfl : i = cs.length := by omega
      have HKe : Hid (Below w.heap.size w wr) := HK3.out.trans (HB.out.mono hw3)
      have HTe : Hid (TxI V cs (cs.flatMap clauseWords) s ws) := by have := HTx.out; rw [List.take_length] at this; exact this
      go_wp2
      go_ret
      exact ⟨s, ws, rfl, HTe.out, by omega, HKe.out⟩
end Go.Proofs.YtlodenfdcckemaaDoor

/-
  Figures and numbers, on both sides.
-/

namespace Go.Proofs.YtlodenfdcckemaaDoor
open Go.RowKit

theorem value_snoc (l : Bytes) (b : UInt8) : value (l ++ [b]) = 10 * value l + (b.toNat - 48) := by simp [value]
theorem take_snoc {l : Bytes} {k : Nat} {b : UInt8} (h : l[k]? = some b) : l.take (k + 1) = l.take k ++ [b] := by rw [List.take_add_one, h]; rfl
theorem value_le (l : Bytes) (h : l.all figure = true) : value l + 1 ≤ 10 ^ l.length := by
  rw [← List.reverse_reverse l] at h ⊢
  generalize l.reverse = r at h ⊢
  induction r with
  | nil => simp [value]
  | cons b r ih =>
    simp only [List.reverse_cons, List.all_append, Bool.and_eq_true] at h
    have hb : figure b = true := by simpa using h.2
    have h1 := ih h.1
    rw [List.reverse_cons, value_snoc, List.length_append, List.length_singleton, Nat.pow_succ]
    simp [figure] at hb
    omega

/-- Behind k figures. -/
def Figd (l : Bytes) (k n : Nat) : Prop := n = value (l.take k) ∧ (l.take k).all figure = true
theorem figd_zero (l : Bytes) : Figd l 0 0 := by simp [Figd, value]
theorem figd_succ {l : Bytes} {k n : Nat} {b : UInt8} (h : Figd l k n) (hk : l[k]? = some b) (hb : figure b = true) : Figd l (k + 1) (10 * n + (b.toNat - 48)) := by
  obtain ⟨rfl, h2⟩ := h
  refine ⟨by rw [take_snoc hk, value_snoc], ?_⟩
  rw [take_snoc hk, List.all_append, h2]
  simp [hb]
theorem figd_le {l : Bytes} {k n : Nat} (h : Figd l k n) (hk : k ≤ 5) (hl : k ≤ l.length) : n ≤ 99999 := by
  obtain ⟨rfl, h2⟩ := h
  have := value_le _ h2
  rw [List.length_take, Nat.min_eq_left hl] at this
  have h3 : 10 ^ k ≤ 10 ^ 5 := Nat.pow_le_pow_right (by decide) hk
  omega
theorem figs_bad {l : Bytes} {k : Nat} {b : UInt8} (h : l[k]? = some b) (hb : figure b = false) : figs l = none := by
  have : l.all figure = false := by
    rw [List.all_eq_false]
    obtain ⟨hlt, e⟩ := List.getElem?_eq_some_iff.1 h
    exact ⟨b, e ▸ List.getElem_mem hlt, by simp [hb]⟩
  unfold figs
  split
  · rfl
  · rw [this]; rfl
theorem figs_good {l : Bytes} {n : Nat} (h : Figd l l.length n) (h1 : 1 ≤ l.length) (h6 : l.length ≤ 6) : figs l = some n := by
  obtain ⟨rfl, h2⟩ := h
  rw [List.take_length] at h2 ⊢
  unfold figs
  rw [if_neg (by omega), if_pos h2]
theorem figs_long {l : Bytes} (h : l.length < 1 ∨ 6 < l.length) : figs l = none := by unfold figs; rw [if_pos h]

theorem figs_le {l : Bytes} {n : Nat} (h : figs l = some n) : n ≤ 999999 := by
  unfold figs at h
  split at h
  · simp at h
  · rename_i hl
    split at h
    · rename_i ha
      simp at h
      have := value_le l ha
      have h3 : 10 ^ l.length ≤ 10 ^ 6 := Nat.pow_le_pow_right (by decide) (by omega)
      omega
    · simp at h

/-- -1 for none. -/
def figsI (l : Bytes) : Int := match figs l with | some n => n | none => -1

set_option maxHeartbeats 1000000 in
theorem refFigures_any (s : ByteArray) (hs : s.size ≤ 4000000) (w : World) :
    Calls Tryd.prog 90 #[.string s] w fun e w' => e = .returned (.int .i64 (figsI (bs s))) ∧ w' = w := by
  by_cases h1 : s.size < 1
  · go_enter Tryd.func90, Tryd.ntmps90
    go_wp2
    go_ret
    refine ⟨?_, rfl⟩
    rw [figsI, figs_long (Or.inl (by rw [← size_bs]; exact h1))]; rfl
  · by_cases h6 : 6 < s.size
    · go_enter Tryd.func90, Tryd.ntmps90
      go_wp2
      go_ret
      refine ⟨?_, rfl⟩
      rw [figsI, figs_long (Or.inr (by rw [← size_bs]; exact h6))]; rfl
    · go_enter Tryd.func90, Tryd.ntmps90
      go_wp2
      go_loop [3, 4] (fun n i => ∃ (k m : Nat), k ≤ s.size ∧ i = .int .i64 k ∧ n = .int .i64 m ∧ Hid (Figd (bs s) k m)) (fun _ i => s.size - (intOf i).toNat)
      case atStart => exact ⟨0, 0, by omega, rfl, rfl, figd_zero _⟩
      case round =>
        obtain ⟨k, m, hk, rfl, rfl, hf⟩ := hrel
        by_cases hlt : k < s.size
        · have hat := bs_at s k hlt
          have hm := figd_le hf.out (by omega) (by rw [← size_bs]; omega)
          generalize hbb : s[k] = b at hat
          have hb256 : b.toNat < 256 := UInt8.toNat_lt b
          by_cases hlo : b.toNat < 48
          · go_wp2
            go_ret
            refine ⟨?_, rfl⟩
            rw [figsI, figs_bad hat (by simp [figure]; omega)]; rfl
          · by_cases hhi : 57 < b.toNat
            · go_wp2
              go_ret
              refine ⟨?_, rfl⟩
              rw [figsI, figs_bad hat (by simp [figure]; omega)]; rfl
            · have hfb : figure b = true := by simp [figure]; omega
              have hnx := figd_succ hf.out hat hfb
              go_wp2
              refine ⟨⟨k + 1, 10 * m + (b.toNat - 48), by omega, by go_num, by congr 1; omega, hnx⟩, ?_⟩
              simp [intOf]; omega
        · obtain rfl : k = s.size := by omega
          go_wp2
          go_ret
          refine ⟨?_, rfl⟩
          have hff := hf.out
          rw [size_bs] at hff
          rw [figsI, figs_good hff (by rw [← size_bs]; omega) (by rw [← size_bs]; omega)]; rfl

theorem empty_bs (s : ByteArray) : s.toList.isEmpty = decide (s.size = 0) := by
  rw [Lib.toList_data, size_bs, bs]
  generalize s.data.toList = l
  cases l with
  | nil => rfl
  | cons b l => exact (decide_eq_false (by intro h; cases h)).symm

/-- The number, and whether it is one. -/
def figsN (l : Bytes) : Int := match figs l with | some n => n | none => 0

set_option maxHeartbeats 1000000 in
theorem figures_any (s : ByteArray) (hs : s.size ≤ 4000000) (w : World) :
    Calls Tryd.prog 105 #[.string s] w fun e w' => e = .returned (.tuple #[.int .i64 (figsN (bs s)), .bool (figs (bs s)).isSome]) ∧ w' = w := by
  have hemp := empty_bs s
  by_cases h1 : s.size < 1
  · have he : s.toList.isEmpty = true := by rw [hemp]; exact decide_eq_true (by omega)
    clear hemp
    go_enter Tryd.func105, Tryd.ntmps105
    go_wp2
    go_ret2
    refine ⟨?_, rfl⟩
    rw [figsN, figs_long (Or.inl (by rw [← size_bs]; exact h1))]; rfl
  · have he : s.toList.isEmpty = false := by rw [hemp]; exact decide_eq_false (by omega)
    clear hemp
    by_cases h6 : 6 < s.size
    · go_enter Tryd.func105, Tryd.ntmps105
      go_wp2
      go_ret2
      refine ⟨?_, rfl⟩
      rw [figsN, figs_long (Or.inr (by rw [← size_bs]; exact h6))]; rfl
    · go_enter Tryd.func105, Tryd.ntmps105
      go_wp2
      go_loop [4, 15] (fun n i => ∃ (k m : Nat), k ≤ s.size ∧ i = .int .i64 k ∧ n = .int .i64 m ∧ Hid (Figd (bs s) k m)) (fun _ i => s.size - (intOf i).toNat)
      case atStart => exact ⟨0, 0, by omega, rfl, rfl, figd_zero _⟩
      case round =>
        obtain ⟨k, m, hk, rfl, rfl, hf⟩ := hrel
        by_cases hlt : k < s.size
        · have hat := bs_at s k hlt
          have hm := figd_le hf.out (by omega) (by rw [← size_bs]; omega)
          generalize hbb : s[k] = b at hat
          have hb256 : b.toNat < 256 := UInt8.toNat_lt b
          by_cases hlo : b.toNat < 48
          · go_wp2
            go_ret2
            refine ⟨?_, rfl⟩
            rw [figsN, figs_bad hat (by simp [figure]; omega)]; rfl
          · by_cases hhi : 57 < b.toNat
            · go_wp2
              go_ret2
              refine ⟨?_, rfl⟩
              rw [figsN, figs_bad hat (by simp [figure]; omega)]; rfl
            · have hfb : figure b = true := by simp [figure]; omega
              have hnx := figd_succ hf.out hat hfb
              go_wp2
              refine ⟨⟨k + 1, 10 * m + (b.toNat - 48), by omega, by go_num, by congr 1; omega, hnx⟩, ?_⟩
              simp [intOf]; omega
        · obtain rfl : k = s.size := by omega
          go_wp2
          go_ret2
          refine ⟨?_, rfl⟩
          have hff := hf.out
          rw [size_bs] at hff
          rw [figsN, figs_good hff (by rw [← size_bs]; omega) (by rw [← size_bs]; omega)]; rfl

/-- The parts of a number as the document's answer tells them. -/
def numN (l : Bytes) : Int := (num l).getD 0

set_option maxHeartbeats 1000000 in
theorem refNumber_any (s : ByteArray) (hs : s.size ≤ 4000000) (h0 : bs s ≠ []) (w : World) :
    Calls Tryd.prog 65 #[.string s] w fun e w' => (∃ n m, e = .returned (.tuple #[.int .i64 n, .int .i64 m, .bool (num (bs s)).isSome]) ∧ ∀ k, num (bs s) = some k → n = k ∧ m = k.natAbs) ∧ w' = w := by
  have hpos : 0 < s.size := by rw [size_bs]; exact List.length_pos_iff.2 h0
  have hat := bs_at s 0 hpos
  obtain ⟨b, r, hbr⟩ : ∃ b r, bs s = b :: r := by
    cases hh : bs s with
    | nil => exact absurd hh h0
    | cons b r => exact ⟨b, r, rfl⟩
  have hb : s[0] = b := by rw [hbr] at hat; simpa using hat.symm
  have hx : bs (s.extract 1 s.size) = r := by rw [bs_extract, hbr, size_bs, hbr]; simp
  have hsz : (s.extract 1 s.size).size ≤ 4000000 := by
    rw [size_bs, hx]; rw [size_bs, hbr] at hs; simp at hs; omega
  have hbe := byte_eq b 45 (by decide)
  by_cases hm : b = 45
  · have h45 : ((b.toNat : Int) == 45) = true := by rw [hm]; rfl
    have hnum : num (bs s) = (figs r).map (fun (n : Nat) => -(n : Int)) := by rw [hbr]; simp [num, hm]
    rw [hnum]
    have hfi : figsI r = -1 ∨ 0 ≤ figsI r ∧ figsI r ≤ 999999 := by
      unfold figsI
      cases hh : figs r with
      | none => exact Or.inl rfl
      | some n => have := figs_le hh; right; constructor <;> simp <;> omega
    go_enter Tryd.func65, Tryd.ntmps65
    go_wp2_with (go_at_call 90; refine (refFigures_any _ hsz _).mono ?_; rintro e w' ⟨rfl, rfl⟩; rw [hx])
    go_ret3
    refine ⟨⟨-figsI r, figsI r, ?_, ?_⟩, rfl⟩
    · have : decide (0 ≤ figsI r) = ((figs r).map (fun (n : Nat) => -(n : Int))).isSome := by
        rw [figsI]
        cases figs r with
        | none => rfl
        | some n => simp
      rw [← this]
      rfl
    · intro k hk
      rw [figsI]
      cases hh : figs r with
      | none => rw [hh] at hk; simp at hk
      | some n => rw [hh] at hk; simp at hk; subst hk; simp
  · have h45 : ((b.toNat : Int) == 45) = false := by
      rw [show ((45 : Int)) = ((45 : Nat) : Int) from rfl, hbe]; simpa using hm
    have hnum : num (bs s) = (figs (bs s)).map (fun (n : Nat) => (n : Int)) := by rw [hbr]; simp [num, hm]
    rw [hnum]
    clear hbr hnum
    go_enter Tryd.func65, Tryd.ntmps65
    go_wp2_with (go_at_call 90; refine (refFigures_any _ hs _).mono ?_; rintro e w' ⟨rfl, rfl⟩)
    go_ret3
    refine ⟨⟨figsI (bs s), figsI (bs s), ?_, ?_⟩, rfl⟩
    · have : decide (0 ≤ figsI (bs s)) = ((figs (bs s)).map (fun (n : Nat) => (n : Int))).isSome := by
        rw [figsI]
        cases figs (bs s) with
        | none => rfl
        | some n => simp
      rw [← this]
      rfl
    · intro k hk
      rw [figsI]
      cases hh : figs (bs s) with
      | none => rw [hh] at hk; simp at hk
      | some n => rw [hh] at hk; simp at hk; subst hk; simp

set_option maxHeartbeats 1000000 in
theorem number_any (s : ByteArray) (hs : s.size ≤ 4000000) (h0 : bs s ≠ []) (w : World) :
    Calls Tryd.prog 123 #[.string s] w fun e w' => e = .returned (.tuple #[.int .i64 (numN (bs s)), .bool (num (bs s)).isSome]) ∧ w' = w := by
  obtain ⟨b, r, hbr⟩ : ∃ b r, bs s = b :: r := by
    cases hh : bs s with
    | nil => exact absurd hh h0
    | cons b r => exact ⟨b, r, rfl⟩
  have hlen : (b :: r).length ≤ 4000000 := by rw [← hbr, ← size_bs]; exact hs
  by_cases hm : b = 45
  · have hp : Lib.hasPrefix s.data.toList [45] = true := by rw [show s.data.toList = b :: r from hbr, hm]; rfl
    have ht : Lib.trimPrefix s.data.toList [45] = r := by unfold Lib.trimPrefix; rw [hp, if_pos rfl, show s.data.toList = b :: r from hbr]; rfl
    have hsz : (⟨r.toArray⟩ : ByteArray).size ≤ 4000000 := by rw [size_bs]; simp at hlen ⊢; omega
    have hfi : 0 ≤ figsN r ∧ figsN r ≤ 999999 := by
      unfold figsN
      cases hh : figs r with
      | none => decide
      | some n => have := figs_le hh; simp; omega
    go_enter Tryd.func123, Tryd.ntmps123
    go_wp2_with (first
      | (go_at_call 136; refine (Tryd.strings_CutPrefix _ _ _).mono ?_; rintro e w' ⟨rfl, rfl⟩; rw [hp, ht])
      | (go_at_call 105; refine (figures_any _ hsz _).mono ?_; rintro e w' ⟨rfl, rfl⟩; rw [show bs ⟨r.toArray⟩ = r from rfl]))
    go_ret2
    refine ⟨?_, rfl⟩
    have hnum : num (bs s) = (figs r).map (fun (n : Nat) => -(n : Int)) := by rw [hbr]; simp [num, hm]
    rw [numN, hnum]
    have h1 : ((figs r).map (fun (n : Nat) => -(n : Int))).getD 0 = -figsN r := by rw [figsN]; cases figs r <;> rfl
    have h2 : ((figs r).map (fun (n : Nat) => -(n : Int))).isSome = (figs r).isSome := by cases figs r <;> rfl
    rw [h1, h2]
    rfl
  · have hp : Lib.hasPrefix s.data.toList [45] = false := by
      rw [show s.data.toList = b :: r from hbr]
      simp [Lib.hasPrefix, List.isPrefixOf]
      exact fun e => hm e.symm
    have ht : Lib.trimPrefix s.data.toList [45] = s.data.toList := by unfold Lib.trimPrefix; rw [hp]; rfl
    have hmk : (⟨s.data.toList.toArray⟩ : ByteArray) = s := Lib.mk_data s
    have hnum : Hid (num (bs s) = (figs (bs s)).map (fun (n : Nat) => (n : Int))) := by
      show num (bs s) = _
      rw [hbr]; simp [num, hm]
    clear hbr
    go_enter Tryd.func123, Tryd.ntmps123
    go_wp2_with (first
      | (go_at_call 136; refine (Tryd.strings_CutPrefix _ _ _).mono ?_; rintro e w' ⟨rfl, rfl⟩; rw [hp, ht, hmk])
      | (go_at_call 105; refine (figures_any _ hs _).mono ?_; rintro e w' ⟨rfl, rfl⟩))
    go_ret2
    refine ⟨?_, rfl⟩
    rw [numN, hnum.out]
    have h1 : ((figs (bs s)).map (fun (n : Nat) => (n : Int))).getD 0 = figsN (bs s) := by rw [figsN]; cases figs (bs s) <;> rfl
    have h2 : ((figs (bs s)).map (fun (n : Nat) => (n : Int))).isSome = (figs (bs s)).isSome := by cases figs (bs s) <;> rfl
    rw [h1, h2]
    rfl
end Go.Proofs.YtlodenfdcckemaaDoor

/-
  The head's line as the document's answer reads it.
-/

namespace Go.Proofs.YtlodenfdcckemaaDoor
open Go.RowKit

def headV (l : Bytes) : Int := match headOf l with | some (v, _) => v | none => -1
def headC (l : Bytes) : Int := match headOf l with | some (_, c) => c | none => -1

/-- What lies ahead of place k is no blank. -/
def noSp (l : Bytes) (k : Nat) : Prop := ∀ b ∈ l.take k, b ≠ 32

theorem noSp_succ {l : Bytes} {k : Nat} {b : UInt8} (h : noSp l k) (hk : l[k]? = some b) (hb : b ≠ 32) : noSp l (k + 1) := by
  intro c hc
  rw [List.take_add_one, hk] at hc
  simp at hc
  rcases hc with hc | rfl
  · exact h c hc
  · exact hb

theorem sp_hit {l : Bytes} {k : Nat} (h : noSp l k) (hk : l[k]? = some 32) : l.contains 32 = true ∧ l.takeWhile (· != 32) = l.take k ∧ (l.dropWhile (· != 32)).drop 1 = l.drop (k + 1) := by
  have hd : l.drop k = 32 :: l.drop (k + 1) := by
    obtain ⟨hlt, he⟩ := List.getElem?_eq_some_iff.1 hk
    rw [List.drop_eq_getElem_cons hlt, he]
  have e : l = l.take k ++ 32 :: l.drop (k + 1) := by rw [← hd, List.take_append_drop]
  have hall : ∀ b ∈ l.take k, (b != 32) = true := fun b hb => by simpa using h b hb
  refine ⟨?_, ?_, ?_⟩
  · rw [e]; simp
  · conv => lhs; rw [e]
    rw [List.takeWhile_append_of_pos hall]
    simp
  · conv => lhs; rw [e]
    rw [List.dropWhile_append_of_pos hall]
    simp

theorem sp_none {l : Bytes} (h : noSp l l.length) : l.contains 32 = false := by
  rw [List.contains_eq_any_beq, List.any_eq_false]
  intro b hb
  have := h b (by rw [List.take_length]; exact hb)
  simp
  exact fun e => this e.symm

theorem head_short {l : Bytes} (h : l.length < 6) : headOf l = none := by unfold headOf; rw [if_pos (Or.inl h)]
theorem head_other {l : Bytes} (h : l.take 6 ≠ prefixP) : headOf l = none := by unfold headOf; rw [if_pos (Or.inr h)]
theorem head_hit {l : Bytes} {k : Nat} (h6 : 6 ≤ l.length) (hp : l.take 6 = prefixP) (h : noSp (l.drop 6) k) (hk : (l.drop 6)[k]? = some 32) :
    headOf l = match figs ((l.drop 6).take k), figs ((l.drop 6).drop (k + 1)) with | some v, some c => some (v, c) | _, _ => none := by
  obtain ⟨a, b, c⟩ := sp_hit h hk
  unfold headOf
  rw [if_neg (fun h => h.elim (fun h => absurd h (by omega)) (fun h => h hp)), if_pos a, b, c]
  cases figs (List.take k (List.drop 6 l)) <;> cases figs (List.drop (k + 1) (List.drop 6 l)) <;> rfl
theorem head_none {l : Bytes} (h : noSp (l.drop 6) (l.drop 6).length) : headOf l = none := by
  unfold headOf
  split
  · rfl
  · rw [sp_none h]; rfl

theorem figsI_neg {l : Bytes} : figsI l < 0 ↔ figs l = none := by
  unfold figsI
  cases figs l with
  | none => simp
  | some n => simp
theorem figsI_some {l : Bytes} {n : Nat} (h : figs l = some n) : figsI l = n := by unfold figsI; rw [h]
theorem figsI_le (l : Bytes) : -1 ≤ figsI l ∧ figsI l ≤ 999999 := by
  unfold figsI
  cases h : figs l with
  | none => decide
  | some n => have := figs_le h; simp; omega

theorem headV_none {l : Bytes} (h : headOf l = none) : headV l = -1 ∧ headC l = -1 := by unfold headV headC; rw [h]; exact ⟨rfl, rfl⟩

set_option maxHeartbeats 2000000 in
theorem refHead_any (s : ByteArray) (hs : s.size ≤ 4000000) (w : World) :
    Calls Tryd.prog 63 #[.string s] w fun e w' => e = .returned (.tuple #[.int .i64 (headV (bs s)), .int .i64 (headC (bs s))]) ∧ w' = w := by
  by_cases h6 : s.size < 6
  · have hE : Hid (headV (bs s) = -1 ∧ headC (bs s) = -1) := headV_none (head_short (l := bs s) (by rw [← size_bs]; exact h6))
    skip
    go_enter Tryd.func63, Tryd.ntmps63
    go_wp2
    go_ret2
    exact ⟨by rw [hE.out.1, hE.out.2]; rfl, rfl⟩
  · have hpl : (s.extract 0 6).toList = (bs s).take 6 := by rw [Lib.extract_toList]; rfl
    by_cases hp : (bs s).take 6 = prefixP
    · have hq : ((s.extract 0 6).toList == [112, 32, 99, 110, 102, 32]) = true := by rw [hpl, hp]; rfl
      have hx : bs (s.extract 6 s.size) = (bs s).drop 6 := by rw [bs_extract, size_bs, List.take_of_length_le (by simp)]
      have hxs : (s.extract 6 s.size).size ≤ 4000000 := by rw [size_bs, hx, List.length_drop, ← size_bs]; omega
      have h6' : 6 ≤ (bs s).length := by rw [← size_bs]; omega
      have hp' : Hid ((bs s).take 6 = prefixP) := hp
      clear hpl hp
      go_enter Tryd.func63, Tryd.ntmps63
      go_wp2
      clear hq
      generalize s.extract 6 s.size = s1 at *
      go_loop [4] (fun i => ∃ (k : Nat), k ≤ s1.size ∧ i = .int .i64 k ∧ Hid (noSp (bs s1) k)) (fun i => s1.size - (intOf i).toNat)
      case atStart => exact ⟨0, by omega, rfl, fun b hb => by simp at hb⟩
      case round =>
        obtain ⟨k, hk, rfl, hn⟩ := hrel
        by_cases hlt : k < s1.size
        · have hat := bs_at s1 k hlt
          generalize hbb : s1[k] = b at hat
          have hbe := byte_eq b 32 (by decide)
          by_cases h32 : b = 32
          · have hz : ((b.toNat : Int) == 32) = true := by rw [h32]; rfl
            have hA : (s1.extract 0 k).size ≤ 4000000 := by rw [size_bs, bs_extract, List.length_take, List.length_drop, ← size_bs]; omega
            have hB : (s1.extract (k + 1) s1.size).size ≤ 4000000 := by
              rw [size_bs, bs_extract, List.length_take, List.length_drop, ← size_bs]; omega
            have eA : bs (s1.extract 0 k) = ((bs s).drop 6).take k := by rw [bs_extract, hx, Nat.sub_zero, List.drop_zero]
            have eB : bs (s1.extract (k + 1) s1.size) = ((bs s).drop 6).drop (k + 1) := by rw [bs_extract, hx, List.take_of_length_le (by rw [size_bs, hx, List.length_drop]; exact Nat.le_refl _)]
            have hh := head_hit h6' hp'.out (by rw [← hx]; exact hn.out) (by rw [← hx, hat, h32])
            rw [← eA, ← eB] at hh
            have hH : Hid (headOf (bs s) = match figs (bs (s1.extract 0 k)), figs (bs (s1.extract (k + 1) s1.size)) with | some v, some c => some (v, c) | _, _ => none) := hh
            have lA := figsI_le (bs (s1.extract 0 k))
            have lB := figsI_le (bs (s1.extract (k + 1) s1.size))
            clear eA eB hh hx
            generalize hsA : s1.extract 0 k = sA at *
            generalize hsB : s1.extract (k + 1) s1.size = sB at *
            by_cases hA0 : figsI (bs sA) < 0
            · have hE : Hid (headV (bs s) = -1 ∧ headC (bs s) = -1) := headV_none (l := bs s) (by rw [hH.out, figsI_neg.1 hA0])
              skip
              go_wp2_with (first
                | (go_at_call 90; refine (refFigures_any sA hA _).mono ?_; clear hA; rintro e w' ⟨rfl, rfl⟩)
                | (go_at_call 90; refine (refFigures_any sB hB _).mono ?_; rintro e w' ⟨rfl, rfl⟩))
              go_ret2
              exact ⟨by rw [hE.out.1, hE.out.2]; rfl, rfl⟩
            · by_cases hB0 : figsI (bs sB) < 0
              · have hE : Hid (headV (bs s) = -1 ∧ headC (bs s) = -1) := headV_none (l := bs s) (by
                  rw [hH.out, figsI_neg.1 hB0]
                  cases figs (bs sA) <;> rfl)
                skip
                go_wp2_with (first
                  | (go_at_call 90; refine (refFigures_any sA hA _).mono ?_; clear hA; rintro e w' ⟨rfl, rfl⟩)
                  | (go_at_call 90; refine (refFigures_any sB hB _).mono ?_; rintro e w' ⟨rfl, rfl⟩))
                go_ret2
                exact ⟨by rw [hE.out.1, hE.out.2]; rfl, rfl⟩
              · have hv : headV (bs s) = figsI (bs sA) ∧ headC (bs s) = figsI (bs sB) := by
                  have hHo := hH.out
                  unfold headV headC
                  rw [hHo]
                  cases hfA : figs (bs sA) with
                  | none => exact absurd (figsI_neg.2 hfA) hA0
                  | some x =>
                    cases hfB : figs (bs sB) with
                    | none => exact absurd (figsI_neg.2 hfB) hB0
                    | some y => exact ⟨(figsI_some hfA).symm, (figsI_some hfB).symm⟩
                have hE : Hid (headV (bs s) = figsI (bs sA) ∧ headC (bs s) = figsI (bs sB)) := hv
                clear hv
                go_wp2_with (first
                  | (go_at_call 90; refine (refFigures_any sA hA _).mono ?_; clear hA; rintro e w' ⟨rfl, rfl⟩)
                  | (go_at_call 90; refine (refFigures_any sB hB _).mono ?_; rintro e w' ⟨rfl, rfl⟩))
                go_ret2
                exact ⟨by rw [hE.out.1, hE.out.2]; rfl, rfl⟩
          · have hz : ((b.toNat : Int) == 32) = false := by
              rw [show ((32 : Int)) = ((32 : Nat) : Int) from rfl, hbe]; simpa using h32
            go_wp2
            refine ⟨⟨k + 1, by omega, by go_num, noSp_succ hn.out hat h32⟩, ?_⟩
            simp [intOf]; omega
        · obtain rfl : k = s1.size := by omega
          have hnn := hn.out
          rw [size_bs, hx] at hnn
          have hE : Hid (headV (bs s) = -1 ∧ headC (bs s) = -1) := headV_none (head_none hnn)
          skip
          go_wp2
          go_ret2
          exact ⟨by rw [hE.out.1, hE.out.2]; rfl, rfl⟩
    · have hq : ((s.extract 0 6).toList == [112, 32, 99, 110, 102, 32]) = false := by rw [hpl]; simpa [prefixP] using hp
      have hE : Hid (headV (bs s) = -1 ∧ headC (bs s) = -1) := headV_none (head_other hp)
      clear hpl hp
      go_enter Tryd.func63, Tryd.ntmps63
      go_wp2
      go_ret2
      exact ⟨by rw [hE.out.1, hE.out.2]; rfl, rfl⟩
end Go.Proofs.YtlodenfdcckemaaDoor

/-
  The walk of Fault.
-/

namespace Go.Proofs.YtlodenfdcckemaaDoor
open Go.RowKit

set_option maxHeartbeats 400000 in
theorem fault_entry (vars : Int) (ao : Option Addr) (cap : Nat) (cs : List (List Int)) (w : World) (hc : ListsAt w w.heap.size ao cs) :
    Calls Tryd.prog 29 #[fm vars ao cap cs] w fun e w' => e = .returned (.tuple #[.int .i64 (fault vars cs).1, .int .i64 (fault vars cs).2]) ∧ Below w.heap.size w w' := by
  have hw1 : Below w.heap.size w (w.alloc (.cells #[.int .i64 vars, .slice ao cs.length cap] 31)) := (Below.refl _ _).alloc (Nat.le_refl _) _
  have B0 := blk_new w [.int .i64 vars, .slice ao cs.length cap] 31
  unfold fm
  go_enter Tryd.func29, Tryd.ntmps29
  go_wp2_with fail
  change Blk (w.alloc (.cells #[.int .i64 vars, .slice ao cs.length cap] 31)) w.heap.size 31 _ at B0
  generalize w.alloc (.cells #[.int .i64 vars, .slice ao cs.length cap] 31) = W at *
  have hc1 := (hc.below hw1 (Nat.le_refl _)).mono hw1.size
  refine (of_any vars ao cap cs W hc1).mono ?_
  rintro e w1 ⟨rfl, hb1⟩
  have hb : Below w.heap.size w w1 := hw1.trans (hb1.mono hw1.size)
  go_wp2
  go_ret2
  exact ⟨rfl, hb⟩
end Go.Proofs.YtlodenfdcckemaaDoor
