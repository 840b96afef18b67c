/-
  The walk of text.
-/
import Derived.Test.YtlodenfdcckemaaDoorH11
import Derived.Test.YtlodenfdcckemaaDoorH55
import Derived.Laws.OwnMore
namespace Go.Proofs.YtlodenfdcckemaaDoor
open Go.RowKit

/-- 'append(s, x...)', x a list that lies in memory, none or some. -/
theorem wpList_append_src {P : Program} {w : World} {ops : Array Oper} {rest : List Oper} {a : Act} {Q : Exit → Act → World → Prop} {dst : Option Tmp} {type : TypeId} {pos : String} {after : Array Edge} (s x : Operand) (t e : TypeId) (z : Value) (bytes : Nat)
    (hu : P.underlying t = some (.slice e)) (hinfo : (P.info? e).map (fun i => (i.zero, i.size, i.bytes)) = some (some z, 1, bytes)) (hz1 : z.cells.size = 1) (base : Nat) (v : Value) (xs : List Value) (hs : a.eval s = v) (ho : Own w base e v xs)
    (b2 : Nat) (u : Value) (news : List Value) (hx : a.eval x = u) (hu2 : Own w b2 e u news) (h1 : ∀ y ∈ news, y.oneCell' = true) (h63 : xs.length + news.length ≤ maxLen) (hby : (xs.length + news.length) * bytes ≤ 140737488355328) (hbase : base ≤ w.heap.size)
    (hK : ∀ v' w', Own w' base e v' (xs ++ news) → w.grownBy w' v.ownBlock → wpList P ops Q rest (a.put dst v') w') :
    wpList P ops Q (⟨dst, .call { callee := .builtin .append, args := #[s, x], argTypes := #[t, t] }, type, pos, after, none⟩ :: rest) a w := by
  obtain ⟨i, hi, hzz⟩ := Option.map_eq_some_iff.1 hinfo
  simp only [Prod.mk.injEq] at hzz
  obtain ⟨hz, hsz, hb⟩ := hzz
  refine wpList_plain rfl fun K hK' => ?_
  rcases hu2 with ⟨rfl, hn⟩ | ⟨g, cap, rfl, _, _, hr⟩
  · subst hn
    have hrun := run_append_owned_none (P := P) (w := w) base t type e i 1 hu hi v xs.length xs ho.own
    unfold Oper.wp
    simp only [execOp, resolve, invoke, builtin, Sem.run_bind, Sem.run_pure, Result.andThen_ok, List.map_toArray, List.map_cons, List.map_nil, hs, hx, hrun]
    exact hK' _ _ (hK v w (by simpa using ho) ⟨rfl, rfl, rfl, Nat.le_refl _, fun _ _ _ => rfl⟩)
  · have hnews : ∀ j y, news[j]? = some y → w.cell? ((⟨g, 0, none⟩ : Addr).add j) = some y := fun j y hj => by
      have hadd : (⟨g, 0, none⟩ : Addr).add j = ⟨g, j, none⟩ := by unfold Addr.add; split <;> simp_all
      obtain ⟨hlt, hy⟩ := List.getElem?_eq_some_iff.1 hj
      rw [hadd, hr.cell hlt undef, getD_lt _ _ _ hlt, hy]
    obtain ⟨v', w', hrun, h2, h3, _, _⟩ := run_append_own_at (P := P) w base t type e i z 1 bytes hu hi hz hsz hb hz1 (by decide) v xs.length xs ho.own ⟨g, 0, none⟩ news.length cap news (by omega) hnews h1 h63 hby hbase
    unfold Oper.wp
    simp only [execOp, resolve, invoke, builtin, Sem.run_bind, Sem.run_pure, Result.andThen_ok, List.map_toArray, List.map_cons, List.map_nil, hs, hx, hrun]
    refine hK' _ _ (hK v' w' ?_ h3)
    have h2' := h2
    obtain ⟨hl, ⟨rfl, h0⟩ | ⟨g', cap', cur, rfl, _⟩⟩ := h2'
    · exact Or.inl ⟨rfl, List.eq_nil_of_length_eq_zero (by rw [hl, h0])⟩
    · exact own_of h2


theorem wrapT {x : Int} (h0 : -9223372036854775808 ≤ x) (h1 : x ≤ 9223372036854775807) : IntKind.i64.wrap x = x := by
  rw [@IntKind.wrap_i64 x]
  omega

/-- What stands between two words. -/
def gapV : List Value := [.string ⟨#[32]⟩, .string ⟨#[10]⟩, .string ⟨#[9]⟩, .string ⟨#[32, 32]⟩, .string ⟨#[10, 99, 32, 49, 32, 50, 32, 48, 10]⟩, .string ⟨#[32, 10, 32]⟩]

theorem gapV_get (g : Nat) (h : g < 6) : ∃ s, gapV.getD g undef = .string s ∧ bs s ∈ gapsP ∧ s.size ≤ 9 := by
  rcases (show g = 0 ∨ g = 1 ∨ g = 2 ∨ g = 3 ∨ g = 4 ∨ g = 5 by omega) with rfl | rfl | rfl | rfl | rfl | rfl <;> exact ⟨_, rfl, by decide, by decide⟩

/-- The text so far: the head's line, and words with what stands behind them. -/
structure TxI (V : Nat) (cs : List (List Int)) (done : List Bytes) (s : ByteArray) (ws : List (Bytes × Bytes)) : Prop where
  text : bs s = headBy V cs.length ++ (10 :: spell ws)
  words : ws.map (·.1) = done
  gaps : ∀ p ∈ ws, p.2 ∈ gapsP

theorem spell_more (ws : List (Bytes × Bytes)) (a b : Bytes) : spell (ws ++ [(a, b)]) = spell ws ++ (a ++ b) := by unfold spell; simp

theorem TxI.more {V : Nat} {cs : List (List Int)} {done : List Bytes} {s t : ByteArray} {ws : List (Bytes × Bytes)} {a g : Bytes} (h : TxI V cs done s ws) (ht : bs t = bs s ++ (a ++ g)) (hg : g ∈ gapsP) : TxI V cs (done ++ [a]) t (ws ++ [(a, g)]) := by
  refine ⟨?_, ?_, ?_⟩
  · rw [ht, h.text, spell_more]; simp
  · rw [List.map_append, h.words]; rfl
  · intro p hp
    rcases List.mem_append.1 hp with hp | hp
    · exact h.gaps p hp
    · have : p = (a, g) := by simpa using hp
      rw [this]; exact hg

theorem wordBy_neg (n : Nat) : wordBy (-((n : Int) + 1)) = 45 :: dig (n + 1) := by
  unfold wordBy
  rw [if_pos (by omega), show (-((n : Int) + 1)).natAbs = n + 1 by omega]
theorem wordBy_pos (n : Nat) : wordBy (n : Int) = dig n := by
  unfold wordBy
  rw [if_neg (by omega), Int.natAbs_natCast]

set_option maxRecDepth 100000 in
set_option maxHeartbeats 8000000 in
theorem text_any (V : Nat) (v : Value) (vs : List Value) (cs : List (List Int)) (base : Nat) (ap : Option Addr) (acap : Nat) (zs : List Int) (w : World) (hM : MadeL w base v vs cs) (hg : Good V cs) (h60 : cs.length ≤ 60) (h4 : ∀ c ∈ cs, c.length ≤ 4) (hz : IntsAt w w.heap.size ap zs) (hzb : ∀ z ∈ zs, -9223372036854775808 ≤ z ∧ z ≤ 9223372036854775807) (hzl : zs.length ≤ 4611686018427387904) :
    Calls Tryd.prog 28 #[.agg #[.int .i64 V, v], .slice ap zs.length acap] w fun e w' => ∃ s ws, e = .returned (.string s) ∧ TxI V cs (cs.flatMap clauseWords) s ws ∧ s.size ≤ 5000 ∧ Below w.heap.size w w' := by
  obtain ⟨va, vc, hv⟩ := hM.oe.shape
  have hlen := hM.len
  rw [hlen] at hv
  subst hv
  have hV20 := hg.vars
  have b0 := alloc_below w (.cells #[.int .i64 V, .slice va cs.length vc] 31)
  have B0 := blk_new w [.int .i64 V, .slice va cs.length vc] 31
  have s0 := alloc_size w (.cells #[.int .i64 V, .slice va cs.length vc] 31)
  dsimp only [List.toArray] at B0
  have dV := fun W => digits_any V W (by omega)
  have dC := fun W => digits_any cs.length W (by omega)
  go_enter Tryd.func28, Tryd.ntmps28
  go_wp2_with fail
  generalize w.alloc (.cells #[.int .i64 V, .slice va cs.length vc] 31) = W0 at *
  refine (dV W0).mono ?_
  rintro e w1 ⟨sv, rfl, hsv, hb1⟩
  have B1 := B0.below' hb1
  have s1 := hb1.size
  have c1 : w1.cell? ⟨w.heap.size, 1, none⟩ = some (.slice va cs.length vc) := B1.cell (i := 1) (by simp) undef
  have l1 := B1.lt
  go_wp2_with fail
  refine (dC w1).mono ?_
  rintro e w2 ⟨sc, rfl, hsc, hb2⟩
  have s2 := hb2.size
  have B2 := B1.below' hb2
  have l2 := B2.lt
  have hk2 : Below w.heap.size w w2 := (b0.trans (hb1.mono (by omega))).trans (hb2.mono (by omega))
  have hsv3 : sv.size ≤ 3 := by rw [size_bs, hsv]; exact (dig_len V).2
  have hsc3 : sc.size ≤ 3 := by rw [size_bs, hsc]; exact (dig_len _).2
  clear c1 dV dC
  have HTx0 : Hid (TxI V cs [] (⟨#[112, 32, 99, 110, 102, 32]⟩ ++ sv ++ ⟨#[32]⟩ ++ sc ++ ⟨#[10]⟩) []) := by
    refine ⟨?_, rfl, fun p hp => by cases hp⟩
    rw [bs_cat, bs_cat, bs_cat, bs_cat, hsv, hsc]
    unfold headBy
    simp [bs, spell, prefixP]
  have hS0 : (⟨#[112, 32, 99, 110, 102, 32]⟩ ++ sv ++ ⟨#[32]⟩ ++ sc ++ ⟨#[10]⟩ : ByteArray).size ≤ 14 := by
    have h1 := size_bs sv
    have h2 := size_bs sc
    rw [size_bs, bs_cat, bs_cat, bs_cat, bs_cat]
    simp only [List.length_append]
    simp
    omega
  have BG : Blk (w2.alloc (.cells #[.string ⟨#[32]⟩, .string ⟨#[10]⟩, .string ⟨#[9]⟩, .string ⟨#[32, 32]⟩, .string ⟨#[10, 99, 32, 49, 32, 50, 32, 48, 10]⟩, .string ⟨#[32, 10, 32]⟩] 9)) w2.heap.size 9 gapV := blk_new w2 gapV 9
  have bG := alloc_below w2 (.cells #[.string ⟨#[32]⟩, .string ⟨#[10]⟩, .string ⟨#[9]⟩, .string ⟨#[32, 32]⟩, .string ⟨#[10, 99, 32, 49, 32, 50, 32, 48, 10]⟩, .string ⟨#[32, 10, 32]⟩] 9)
  have sG := alloc_size w2 (.cells #[.string ⟨#[32]⟩, .string ⟨#[10]⟩, .string ⟨#[9]⟩, .string ⟨#[32, 32]⟩, .string ⟨#[10, 99, 32, 49, 32, 50, 32, 48, 10]⟩, .string ⟨#[32, 10, 32]⟩] 9)
  go_wp2
  generalize w2.alloc (.cells #[.string ⟨#[32]⟩, .string ⟨#[10]⟩, .string ⟨#[9]⟩, .string ⟨#[32, 32]⟩, .string ⟨#[10, 99, 32, 49, 32, 50, 32, 48, 10]⟩, .string ⟨#[32, 10, 32]⟩] 9) = W3 at *
  generalize (⟨#[112, 32, 99, 110, 102, 32]⟩ ++ sv ++ ⟨#[32]⟩ ++ sc ++ ⟨#[10]⟩ : ByteArray) = S0 at *
  have HK3 : Hid (Below w.heap.size w W3) := hk2.trans (bG.mono (by omega))
  have HM3 : Hid (MadeL W3 base (.slice va cs.length vc) vs cs) := hM.below' HK3.out
  have HF3 : Hid (Blk W3 w.heap.size 31 [.int .i64 V, .slice va cs.length vc]) := B2.below' bG
  have HG3 : Hid (Blk W3 w2.heap.size 9 gapV) := BG
  have HZ3 : Hid (IntsAt W3 w.heap.size ap zs) := hz.below HK3.out (Nat.le_refl _)
  have HZb : Hid (∀ z ∈ zs, -9223372036854775808 ≤ z ∧ z ≤ 9223372036854775807) := hzb
  have H4 : Hid (∀ c ∈ cs, c.length ≤ 4) := h4
  have HLi : Hid (∀ c ∈ cs, ∀ l ∈ c, IsLit V l) := hg.lits
  have hw3 := HK3.out.size
  have hlt3 : w.heap.size < W3.heap.size := HF3.out.lt
  have hlg3 : w2.heap.size < W3.heap.size := HG3.out.lt
  clear hM hz hzb h4 hg b0 B0 hb1 B1 hb2 B2 hk2 bG BG hsv hsc hsv3 hsc3 s0 s1 s2 sG l1 l2
  go_loopw [7, 9, 10] (fun xs xn xi wr => ∃ (i n : Nat) (s : ByteArray) (ws : List (Bytes × Bytes)), i ≤ cs.length ∧ xi = .int .i64 i ∧ xn = .int .i64 n ∧ xs = .string s ∧ n ≤ 5 * i ∧ s.size ≤ 14 + 13 * n ∧ Hid (TxI V cs ((cs.take i).flatMap clauseWords) s ws) ∧ Hid (Below W3.heap.size W3 wr)) (fun _ _ x _ => cs.length - (intOf x).toNat)
  case atStart => exact ⟨0, 0, S0, [], Nat.zero_le _, rfl, rfl, rfl, Nat.zero_le _, by omega, HTx0, Below.refl _ _⟩
  case round =>
    clear HTx0 hS0
    obtain ⟨i, n, s, ws, hi, rfl, rfl, rfl, hn, hs, HTx, HB⟩ := hrel
    have hsB := HB.out.size
    have c1 : wr.cell? ⟨w.heap.size, 1, none⟩ = some (.slice va cs.length vc) := (HF3.out.below' HB.out).cell (i := 1) (by simp) undef
    by_cases hlt : i < cs.length
    · have hMr := HM3.out.below' HB.out
      obtain ⟨ga, gc, he, hga, hcells⟩ := hMr.oe.at (by omega)
      have hck := hcells i (by omega)
      have hov := hMr.ls i (by omega)
      simp only [Value.slice.injEq] at he
      obtain ⟨rfl, -, rfl⟩ := he
      have hmem : cs.getD i [] ∈ cs := by rw [getD_lt _ _ _ hlt]; exact List.getElem_mem hlt
      have hc4 := H4.out _ hmem
      have HL : Hid (∀ l ∈ cs.getD i [], IsLit V l) := HLi.out _ hmem
      have HTk : Hid ((cs.take (i + 1)).flatMap clauseWords = (cs.take i).flatMap clauseWords ++ ((cs.getD i []) ++ [0]).map wordBy) := by
        unfold Hid
        rw [List.take_succ_eq_append_getElem hlt, List.flatMap_append, getD_lt _ _ _ hlt]
        simp [clauseWords]
      generalize cs.getD i [] = c at *
      generalize vs.getD i undef = vi at *
      obtain ⟨xa, xc, hxs⟩ := hov.shape
      rw [List.length_map] at hxs
      subst hxs
      have hil : (ints c).length = c.length := List.length_map _
      have hltI : (i : Int) < (cs.length : Int) := by omega
      clear hcells hMr hmem
      obtain ⟨wo, hwo⟩ : ∃ wo, wo = wr := ⟨wr, rfl⟩
      subst hwo
      go_wp2_with (first
        | (at_builtin; refine wpList_append_src (.tmp 36) (.tmp 41) 24 3 (.int .i64 0) 8 Tryd.underlying24 Tryd.info3 rfl wo.heap.size _ [] (by rfl) (Own.nil _ _ _) base _ (ints c) (by rfl) hov (ints_one c) (by unfold maxLen; simp only [List.length_nil, hil]; omega) (by simp only [List.length_nil, hil]; omega) (Nat.le_refl _) ?_; intro v1 wa hO1 hg1; rw [List.nil_append] at hO1; obtain ⟨xa1, xc1, hx1⟩ := hO1.shape; rw [List.length_map] at hx1; subst hx1; have OA := hO1.alloc (.cells #[.int .i64 0] 3); have NA := blk_new wa [.int .i64 0] 3; have HKa : Hid (Below wo.heap.size wo wa) := ⟨hg1.os, hg1.tape, hg1.output, hg1.size, fun q hq => hg1.block q hq (fun e => by cases e)⟩; have hsa := HKa.out.size; have HO1 : Hid (Own wa wo.heap.size 3 (.slice xa1 c.length xc1) (ints c)) := hO1; clear hO1 hg1)
        | (at_builtin; refine wpList_append_new (.tmp 43) (.tmp 44) 24 3 (.int .i64 0) 8 Tryd.underlying24 Tryd.info3 rfl wo.heap.size wa.heap.size _ (ints c) [.int .i64 0] 1 c.length hil rfl (by decide) (by rfl) (by rfl) OA NA (by intro u hu; simp at hu; rw [hu]; rfl) (by unfold maxLen; omega) (by omega) (by simp; omega) ?_; intro g5 cap5 wb hO5 hgr5 hat5 hlt5; have HKb : Hid (Below wo.heap.size wo wb) := grown_more (fun q e => (HO1.out.lt e).1) HKa.out hgr5; have HO5 : Hid (Own wb wo.heap.size 3 (.slice (some ⟨g5, 0, none⟩) (c.length + 1) cap5) (ints c ++ [.int .i64 0])) := hO5; clear hO5 hgr5 OA NA))
      have HD5 : Hid (∀ q, q < c.length + 1 → wb.cell? ⟨g5, q, none⟩ = some (.int .i64 ((c ++ [0]).getD q 0))) := by
        intro q hq
        obtain ⟨gg, gcap, hge, hgl, hgc⟩ := HO5.out.at (by simp)
        simp only [Value.slice.injEq, Option.some.injEq, Addr.mk.injEq, and_true] at hge
        obtain ⟨rfl, -, rfl⟩ := hge
        rw [hgc q (by simp; omega)]
        congr 1
        rw [show ints c ++ [Value.int .i64 0] = ints (c ++ [0]) by simp [ints], getD_lt _ _ _ (by simp; omega), getD_lt _ _ _ (by simp; omega)]
        simp only [ints, List.getElem_map]
      have hg5 : g5 < wb.heap.size := hlt5
      have HLd : Hid (∀ l ∈ c ++ [0], l ≤ 20 ∧ -20 ≤ l) := by
        intro l hl
        rcases List.mem_append.1 hl with hl | hl
        · have h1 := HL.out l hl; unfold IsLit at h1; omega
        · have : l = 0 := by simpa using hl
          omega
      have hdl : (c ++ [0]).length = c.length + 1 := by simp
      have hsb := HKb.out.size
      generalize c ++ [0] = d at *
      clear HO5 HO1 hov hat5
      go_loopw [7, 9, 12] (fun xs xn xj wq => ∃ (j n : Nat) (s : ByteArray) (ws : List (Bytes × Bytes)), j ≤ c.length + 1 ∧ xj = .int .i64 j ∧ xn = .int .i64 n ∧ xs = .string s ∧ n ≤ 5 * i + j ∧ s.size ≤ 14 + 13 * n ∧ Hid (TxI V cs ((cs.take i).flatMap clauseWords ++ (d.take j).map wordBy) s ws) ∧ Hid (Below wb.heap.size wb wq)) (fun _ _ x _ => c.length + 1 - (intOf x).toNat)
      case atStart => exact ⟨0, n, s, ws, Nat.zero_le _, rfl, rfl, rfl, by omega, hs, by unfold Hid; simpa using HTx.out, Below.refl _ _⟩
      case round =>
        clear hs hn HTx
        obtain ⟨j, n, s, ws, hj, rfl, rfl, rfl, hn, hs, HTx, HBq⟩ := hrel
        have hsq := HBq.out.size
        by_cases hlj : j < c.length + 1
        · have hjd : j < d.length := by omega
          have hcx := (HBq.out.cell (p := ⟨g5, j, none⟩) hg5).trans (HD5.out j hlj)
          have hl := HLd.out (d.getD j 0) (by rw [getD_lt _ _ _ hjd]; exact List.getElem_mem hjd)
          have HT : Hid ((d.take (j + 1)).map wordBy = (d.take j).map wordBy ++ [wordBy (d.getD j 0)]) := by
            unfold Hid; rw [List.take_succ_eq_append_getElem hjd, List.map_append, getD_lt _ _ _ hjd]; rfl
          generalize d.getD j 0 = x at *
          have HMore : Hid (∀ (t : ByteArray) (g : Bytes), bs t = bs s ++ (wordBy x ++ g) → g ∈ gapsP → Hid (TxI V cs ((cs.take i).flatMap clauseWords ++ (d.take (j + 1)).map wordBy) t (ws ++ [(wordBy x, g)]))) := by
            intro t g ht hgm
            have := HTx.out.more ht hgm
            unfold Hid; rw [HT.out, ← List.append_assoc]; exact this
          have kq : Below W3.heap.size W3 wr := (HB.out.trans (HKb.out.mono hsB)).trans (HBq.out.mono (by omega))
          have hjI : (j : Int) < (c.length : Int) + 1 := by omega
          have hgq : g5 < wr.heap.size := by omega
          obtain ⟨z, pg, hpg, hpick, hzc⟩ : ∃ (z : Int) (pg : Nat), pg < 6 ∧ (n < zs.length → ∀ W, Calls Tryd.prog 57 #[.int .i64 z, .int .i64 6] W fun e w' => e = .returned (.int .i64 pg) ∧ w' = W) ∧ (n < zs.length → ∃ b o, ap = some ⟨b, o, none⟩ ∧ b < w.heap.size ∧ W3.cell? ⟨b, o + n, none⟩ = some (.int .i64 z)) := by
            by_cases hnz : n < zs.length
            · obtain ⟨b, o, h1, h2, h3⟩ := HZ3.out (by intro h; rw [h] at hnz; simp at hnz)
              have hzm := HZb.out (zs.getD n 0) (by rw [getD_lt _ _ _ hnz]; exact List.getElem_mem hnz)
              have hr := pickOf_range (zs.getD n 0) (show (0 : Int) < 6 by omega)
              refine ⟨zs.getD n 0, (pickOf (zs.getD n 0) 6).toNat, by omega, fun _ W => ?_, fun _ => ⟨b, o, h1, h2, h3 n hnz⟩⟩
              rw [show (((pickOf (zs.getD n 0) 6).toNat : Nat) : Int) = pickOf (zs.getD n 0) 6 by omega]
              exact pick_any _ 6 W hzm.1 hzm.2 (by omega) (by omega)
            · exact ⟨0, 0, by omega, fun h => absurd h hnz, fun h => absurd h hnz⟩
          rcases (show (∃ k : Nat, x = -((k : Int) + 1)) ∨ ∃ k : Nat, x = (k : Int) by
            by_cases h0 : x < 0
            · exact Or.inl ⟨(-x - 1).toNat, by omega⟩
            · exact Or.inr ⟨x.toNat, by omega⟩) with ⟨k, rfl⟩ | ⟨k, rfl⟩
          · by_cases hnz : n < zs.length
            · skip
              have cd : ∀ q, Below wr.heap.size wr q → Calls Tryd.prog 59 #[.int .i64 ((k : Int) + 1)] q (fun e w' => ∃ sd, e = .returned (.string sd) ∧ Hid (bs sd = dig (k + 1)) ∧ Hid (Below wr.heap.size wr w') ∧ w'.cell? ⟨g5, j, none⟩ = some (.int .i64 (-((k : Int) + 1)))) := by
                intro q hq
                have h0 := digits_any (k + 1) q (by omega)
                rw [show ((k + 1 : Nat) : Int) = (k : Int) + 1 by omega] at h0
                refine h0.mono ?_
                rintro e w' ⟨sd, h1, h2, h3⟩
                have h4 := hq.trans (h3.mono hq.size)
                exact ⟨sd, h1, h2, h4, (h4.cell (p := ⟨g5, j, none⟩) hgq).trans hcx⟩
              have hmx : max (-((k : Int) + 1)) (IntKind.i64.wrap ((k : Int) + 1)) = (k : Int) + 1 := by rw [wrapT (by omega) (by omega)]; omega
              obtain ⟨ab, ao, hap, hab, hac⟩ := hzc hnz
              subst hap
              have hp := hpick hnz
              have hnI : (n : Int) < (zs.length : Int) := by omega
              obtain ⟨sg, hsg, hgm, hsz9⟩ := gapV_get pg hpg
              have HGm : Hid (bs sg ∈ gapsP) := hgm
              clear hgm hl
              go_wp2
              go_region_held3 (fun q => q.cell? ⟨g5, j, none⟩ = some (.int .i64 (-((k : Int) + 1)))) (first | exact hcx | exact hcd | go_keep) (first | (go_at_call 59; refine (cd _ (by first | exact Below.refl _ _ | exact (Below.refl _ _).drew)).mono ?_; rintro e wd ⟨sd, rfl, HSd, HBd, hcd⟩))
              have hszd : sd.size ≤ 3 := by rw [size_bs, HSd.out]; exact (dig_len _).2
              have HSz : Hid ((s ++ ⟨#[45]⟩ ++ sd ++ sg).size ≤ 14 + 13 * (n + 1)) := by
                have h1 := size_bs s
                have h2 := size_bs sd
                have h3 := size_bs sg
                unfold Hid
                rw [size_bs, bs_cat, bs_cat, bs_cat]
                simp only [List.length_append]
                simp
                omega
              have HTn : Hid (TxI V cs ((cs.take i).flatMap clauseWords ++ (d.take (j + 1)).map wordBy) (s ++ ⟨#[45]⟩ ++ sd ++ sg) (ws ++ [(wordBy (-((k : Int) + 1)), bs sg)])) := HMore.out _ _ (by rw [bs_cat, bs_cat, bs_cat, HSd.out, wordBy_neg]; simp [bs]) HGm.out
              have kd : Below W3.heap.size W3 wd := kq.trans (HBd.out.mono kq.size)
              have cg : wd.cell? ⟨w2.heap.size, pg, none⟩ = some (.string sg) := by rw [(HG3.out.below' kd).cell (i := pg) (by first | exact hpg | decide) undef, hsg]
              have HBe : Hid (Below wb.heap.size wb wd) := HBq.out.trans (HBd.out.mono hsq)
              have hpgI : ((pg : Nat) : Int) < 6 := by omega
              have ca : wd.cell? ⟨ab, ao + n, none⟩ = some (.int .i64 z) := (kd.cell (p := ⟨ab, ao + n, none⟩) (Nat.lt_of_lt_of_le hab hw3)).trans hac
              go_wp2_with (go_at_call 57; refine (hp _).mono ?_; rintro e w' ⟨rfl, hw'⟩; obtain rfl := hw'.symm)
              exact ⟨⟨j + 1, n + 1, _, _, by omega, by go_num, by go_num, rfl, by omega, HSz.out, HTn, HBe⟩, by simp [intOf]; omega⟩
            · skip
              have cd : ∀ q, Below wr.heap.size wr q → Calls Tryd.prog 59 #[.int .i64 ((k : Int) + 1)] q (fun e w' => ∃ sd, e = .returned (.string sd) ∧ Hid (bs sd = dig (k + 1)) ∧ Hid (Below wr.heap.size wr w') ∧ w'.cell? ⟨g5, j, none⟩ = some (.int .i64 (-((k : Int) + 1)))) := by
                intro q hq
                have h0 := digits_any (k + 1) q (by omega)
                rw [show ((k + 1 : Nat) : Int) = (k : Int) + 1 by omega] at h0
                refine h0.mono ?_
                rintro e w' ⟨sd, h1, h2, h3⟩
                have h4 := hq.trans (h3.mono hq.size)
                exact ⟨sd, h1, h2, h4, (h4.cell (p := ⟨g5, j, none⟩) hgq).trans hcx⟩
              have hmx : max (-((k : Int) + 1)) (IntKind.i64.wrap ((k : Int) + 1)) = (k : Int) + 1 := by rw [wrapT (by omega) (by omega)]; omega
              have hnI : ¬ ((n : Int) < (zs.length : Int)) := by omega
              obtain ⟨sg, hsg, hgm, hsz9⟩ := gapV_get 0 (by omega)
              have HGm : Hid (bs sg ∈ gapsP) := hgm
              clear hgm hl
              go_wp2
              go_region_held3 (fun q => q.cell? ⟨g5, j, none⟩ = some (.int .i64 (-((k : Int) + 1)))) (first | exact hcx | exact hcd | go_keep) (first | (go_at_call 59; refine (cd _ (by first | exact Below.refl _ _ | exact (Below.refl _ _).drew)).mono ?_; rintro e wd ⟨sd, rfl, HSd, HBd, hcd⟩))
              have hszd : sd.size ≤ 3 := by rw [size_bs, HSd.out]; exact (dig_len _).2
              have HSz : Hid ((s ++ ⟨#[45]⟩ ++ sd ++ sg).size ≤ 14 + 13 * (n + 1)) := by
                have h1 := size_bs s
                have h2 := size_bs sd
                have h3 := size_bs sg
                unfold Hid
                rw [size_bs, bs_cat, bs_cat, bs_cat]
                simp only [List.length_append]
                simp
                omega
              have HTn : Hid (TxI V cs ((cs.take i).flatMap clauseWords ++ (d.take (j + 1)).map wordBy) (s ++ ⟨#[45]⟩ ++ sd ++ sg) (ws ++ [(wordBy (-((k : Int) + 1)), bs sg)])) := HMore.out _ _ (by rw [bs_cat, bs_cat, bs_cat, HSd.out, wordBy_neg]; simp [bs]) HGm.out
              have kd : Below W3.heap.size W3 wd := kq.trans (HBd.out.mono kq.size)
              have cg : wd.cell? ⟨w2.heap.size, 0, none⟩ = some (.string sg) := by rw [(HG3.out.below' kd).cell (i := 0) (by first | exact hpg | decide) undef, hsg]
              have HBe : Hid (Below wb.heap.size wb wd) := HBq.out.trans (HBd.out.mono hsq)
              have hpgI : ((0 : Nat) : Int) < 6 := by omega
              go_wp2
              exact ⟨⟨j + 1, n + 1, _, _, by omega, by go_num, by go_num, rfl, by omega, HSz.out, HTn, HBe⟩, by simp [intOf]; omega⟩
          · by_cases hnz : n < zs.length
            · skip
              have cd : ∀ q, Below wr.heap.size wr q → Calls Tryd.prog 59 #[.int .i64 ((k : Int))] q (fun e w' => ∃ sd, e = .returned (.string sd) ∧ Hid (bs sd = dig (k)) ∧ Hid (Below wr.heap.size wr w') ∧ w'.cell? ⟨g5, j, none⟩ = some (.int .i64 ((k : Int)))) := by
                intro q hq
                have h0 := digits_any (k) q (by omega)
                refine h0.mono ?_
                rintro e w' ⟨sd, h1, h2, h3⟩
                have h4 := hq.trans (h3.mono hq.size)
                exact ⟨sd, h1, h2, h4, (h4.cell (p := ⟨g5, j, none⟩) hgq).trans hcx⟩
              have hmx : max (k : Int) (IntKind.i64.wrap (-(k : Int))) = (k : Int) := by rw [wrapT (by omega) (by omega)]; omega
              obtain ⟨ab, ao, hap, hab, hac⟩ := hzc hnz
              subst hap
              have hp := hpick hnz
              have hnI : (n : Int) < (zs.length : Int) := by omega
              obtain ⟨sg, hsg, hgm, hsz9⟩ := gapV_get pg hpg
              have HGm : Hid (bs sg ∈ gapsP) := hgm
              clear hgm hl
              go_wp2
              go_region_held3 (fun q => q.cell? ⟨g5, j, none⟩ = some (.int .i64 ((k : Int)))) (first | exact hcx | exact hcd | go_keep) (first | (go_at_call 59; refine (cd _ (by first | exact Below.refl _ _ | exact (Below.refl _ _).drew)).mono ?_; rintro e wd ⟨sd, rfl, HSd, HBd, hcd⟩))
              have hszd : sd.size ≤ 3 := by rw [size_bs, HSd.out]; exact (dig_len _).2
              have HSz : Hid ((s ++ sd ++ sg).size ≤ 14 + 13 * (n + 1)) := by
                have h1 := size_bs s
                have h2 := size_bs sd
                have h3 := size_bs sg
                unfold Hid
                rw [size_bs, bs_cat, bs_cat]
                simp only [List.length_append]
                simp
                omega
              have HTn : Hid (TxI V cs ((cs.take i).flatMap clauseWords ++ (d.take (j + 1)).map wordBy) (s ++ sd ++ sg) (ws ++ [(wordBy ((k : Int)), bs sg)])) := HMore.out _ _ (by rw [bs_cat, bs_cat, HSd.out, wordBy_pos]; simp [bs]) HGm.out
              have kd : Below W3.heap.size W3 wd := kq.trans (HBd.out.mono kq.size)
              have cg : wd.cell? ⟨w2.heap.size, pg, none⟩ = some (.string sg) := by rw [(HG3.out.below' kd).cell (i := pg) (by first | exact hpg | decide) undef, hsg]
              have HBe : Hid (Below wb.heap.size wb wd) := HBq.out.trans (HBd.out.mono hsq)
              have hpgI : ((pg : Nat) : Int) < 6 := by omega
              have ca : wd.cell? ⟨ab, ao + n, none⟩ = some (.int .i64 z) := (kd.cell (p := ⟨ab, ao + n, none⟩) (Nat.lt_of_lt_of_le hab hw3)).trans hac
              go_wp2_with (go_at_call 57; refine (hp _).mono ?_; rintro e w' ⟨rfl, hw'⟩; obtain rfl := hw'.symm)
              exact ⟨⟨j + 1, n + 1, _, _, by omega, by go_num, by go_num, rfl, by omega, HSz.out, HTn, HBe⟩, by simp [intOf]; omega⟩
            · skip
              have cd : ∀ q, Below wr.heap.size wr q → Calls Tryd.prog 59 #[.int .i64 ((k : Int))] q (fun e w' => ∃ sd, e = .returned (.string sd) ∧ Hid (bs sd = dig (k)) ∧ Hid (Below wr.heap.size wr w') ∧ w'.cell? ⟨g5, j, none⟩ = some (.int .i64 ((k : Int)))) := by
                intro q hq
                have h0 := digits_any (k) q (by omega)
                refine h0.mono ?_
                rintro e w' ⟨sd, h1, h2, h3⟩
                have h4 := hq.trans (h3.mono hq.size)
                exact ⟨sd, h1, h2, h4, (h4.cell (p := ⟨g5, j, none⟩) hgq).trans hcx⟩
              have hmx : max (k : Int) (IntKind.i64.wrap (-(k : Int))) = (k : Int) := by rw [wrapT (by omega) (by omega)]; omega
              have hnI : ¬ ((n : Int) < (zs.length : Int)) := by omega
              obtain ⟨sg, hsg, hgm, hsz9⟩ := gapV_get 0 (by omega)
              have HGm : Hid (bs sg ∈ gapsP) := hgm
              clear hgm hl
              go_wp2
              go_region_held3 (fun q => q.cell? ⟨g5, j, none⟩ = some (.int .i64 ((k : Int)))) (first | exact hcx | exact hcd | go_keep) (first | (go_at_call 59; refine (cd _ (by first | exact Below.refl _ _ | exact (Below.refl _ _).drew)).mono ?_; rintro e wd ⟨sd, rfl, HSd, HBd, hcd⟩))
              have hszd : sd.size ≤ 3 := by rw [size_bs, HSd.out]; exact (dig_len _).2
              have HSz : Hid ((s ++ sd ++ sg).size ≤ 14 + 13 * (n + 1)) := by
                have h1 := size_bs s
                have h2 := size_bs sd
                have h3 := size_bs sg
                unfold Hid
                rw [size_bs, bs_cat, bs_cat]
                simp only [List.length_append]
                simp
                omega
              have HTn : Hid (TxI V cs ((cs.take i).flatMap clauseWords ++ (d.take (j + 1)).map wordBy) (s ++ sd ++ sg) (ws ++ [(wordBy ((k : Int)), bs sg)])) := HMore.out _ _ (by rw [bs_cat, bs_cat, HSd.out, wordBy_pos]; simp [bs]) HGm.out
              have kd : Below W3.heap.size W3 wd := kq.trans (HBd.out.mono kq.size)
              have cg : wd.cell? ⟨w2.heap.size, 0, none⟩ = some (.string sg) := by rw [(HG3.out.below' kd).cell (i := 0) (by first | exact hpg | decide) undef, hsg]
              have HBe : Hid (Below wb.heap.size wb wd) := HBq.out.trans (HBd.out.mono hsq)
              have hpgI : ((0 : Nat) : Int) < 6 := by omega
              go_wp2
              exact ⟨⟨j + 1, n + 1, _, _, by omega, by go_num, by go_num, rfl, by omega, HSz.out, HTn, HBe⟩, by simp [intOf]; omega⟩
        · obtain rfl : j = c.length + 1 := by omega
          have HTe : Hid (TxI V cs ((cs.take (i + 1)).flatMap clauseWords) s ws) := by
            unfold Hid; rw [HTk.out]
            have := HTx.out
            rw [List.take_of_length_le (l := d) (by omega)] at this
            exact this
          have HBo : Hid (Below W3.heap.size W3 wr) := (HB.out.trans (HKb.out.mono hsB)).trans (HBq.out.mono (by omega))
          go_wp2
          exact ⟨⟨i + 1, n, s, ws, by omega, by go_num, rfl, rfl, by omega, hs, HTe, HBo⟩, by simp [intOf]; omega⟩
    · obtain rfl : i = cs.length := by omega
      have HKe : Hid (Below w.heap.size w wr) := HK3.out.trans (HB.out.mono hw3)
      have HTe : Hid (TxI V cs (cs.flatMap clauseWords) s ws) := by have := HTx.out; rw [List.take_length] at this; exact this
      go_wp2
      go_ret
      exact ⟨s, ws, rfl, HTe.out, by omega, HKe.out⟩
end Go.Proofs.YtlodenfdcckemaaDoor
