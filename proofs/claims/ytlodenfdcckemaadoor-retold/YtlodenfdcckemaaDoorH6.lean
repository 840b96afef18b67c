/-
  Blocks of cells that the calls make, said whole; 'make' as a law that leaves such a block in a world that is a variable.
-/
import Derived.Test.YtlodenfdcckemaaDoorH5
import Derived.Deep.OwnRows
import Derived.Laws.CopyOwn
namespace Go.Proofs.YtlodenfdcckemaaDoor
open Go.RowKit

/-- Block g is a row of the cells L, of type t, none frozen. -/
def Blk (w : World) (g : Nat) (t : TypeId) (L : List Value) : Prop := w.heap[g]? = some (.cells L.toArray t (0, 0))

namespace Blk
variable {w w' : World} {g : Nat} {t : TypeId} {L : List Value}

theorem cell (h : Blk w g t L) {i : Nat} (hi : i < L.length) (d : Value) : w.cell? ⟨g, i, none⟩ = some (L.getD i d) := by
  unfold Blk at h
  simp [World.cell?, h, hi]

theorem frozen (h : Blk w g t L) (i : Nat) : w.frozen? ⟨g, i, none⟩ = false := by
  unfold Blk at h
  simp [World.frozen?, h]

theorem lt (h : Blk w g t L) : g < w.heap.size := by
  obtain ⟨hlt, _⟩ := Array.getElem?_eq_some_iff.1 h
  exact hlt

theorem of_block (h : Blk w g t L) (e : w'.heap[g]? = w.heap[g]?) : Blk w' g t L := e.trans h

theorem below {B : Nat} (h : Blk w g t L) (hb : Below B w w') (hB : g < B) : Blk w' g t L := (hb.block g hB).trans h

theorem below' (h : Blk w g t L) (hb : Below w.heap.size w w') : Blk w' g t L := h.below hb h.lt

theorem set (h : Blk w g t L) (i : Nat) (v : Value) : Blk (w.setCell ⟨g, i, none⟩ v) g t (L.set i v) := by
  unfold Blk at *
  simp [World.setCell, Array.getElem?_modify, h]

theorem setOther (h : Blk w g t L) {a : Addr} (ha : g ≠ a.block) (v : Value) : Blk (w.setCell a v) g t L := h.of_block (Below.heap_setCell _ _ _ _ ha)

theorem alloc (h : Blk w g t L) (o : Obj) : Blk (w.alloc o) g t L := h.of_block (Below.heap_alloc _ _ _ h.lt)

theorem drew (h : Blk w g t L) : Blk w.drew g t L := h
theorem drewN (h : Blk w g t L) (n : Nat) : Blk (w.drewN n) g t L := h

theorem grown (h : Blk w g t L) {row : Option Nat} (hg : w.grownBy w' row) (hne : row ≠ some g) : Blk w' g t L :=
  h.of_block (hg.block g h.lt (fun e => hne e.symm))

end Blk

theorem blk_new (w : World) (L : List Value) (t : TypeId) : Blk (w.alloc (.cells L.toArray t)) w.heap.size t L := by
  show (w.heap.push _)[w.heap.size]? = _
  simp

/-- 'make([]T, n)', T of one cell: a new block of n zero values. -/
theorem wpList_make_blk {P : Program} (w : World) {ops : Array Oper} {rest : List Oper} {o : Oper} {a : Act} {Q : Exit → Act → World → Prop}
    (hg : o.guard = none) (l c : Operand) (t : TypeId) (hop : o.op = Op.makeSlice t l c)
    (e : TypeId) (z : Value) (bytes : Nat) (ht : P.underlying t = some (.slice e)) (hinfo : (P.info? e).map (fun i => (i.zero, i.size, i.bytes)) = some (some z, 1, bytes)) (hz1 : z.cells = #[z])
    (kl kc : IntKind) (n : Nat) (N M : Int) (hl : a.eval l = .int kl N) (hc : a.eval c = .int kc M) (hN : N = (n : Int)) (hM : M = (n : Int)) (hbytes : bytes * n ≤ 281474976710656) (h63 : n ≤ 9223372036854775807)
    (hK : ∀ w', Blk w' w.heap.size e (List.replicate n z) → Below w.heap.size w w' → w'.heap.size = w.heap.size + 1 → wpList P ops Q rest (a.put o.dst (.slice (some ⟨w.heap.size, 0, none⟩) n n)) w') :
    wpList P ops Q (o :: rest) a w := by
  obtain ⟨i, hi, hzz⟩ := Option.map_eq_some_iff.1 hinfo
  simp only [Prod.mk.injEq] at hzz
  obtain ⟨hz, hs, hb⟩ := hzz
  refine wpList_make_row w hg l c t hop e i z ht hi hz hs hz1 kl kc n (by rw [hl, hN]) (by rw [hc, hM]) (by rw [hb]; exact hbytes) h63 ?_
  have hL : madeCells #[z] n = (List.replicate n z).toArray := by
    rw [← toList_madeCells_one]
  rw [hL]
  refine hK _ (blk_new _ _ _) ((Below.refl _ _).alloc (Nat.le_refl _) _) ?_
  show (w.heap.push _).size = _
  simp

/-- 'make([]T, n, m)', T of one cell, n ≤ m. -/
theorem wpList_make_blk2 {P : Program} (w : World) {ops : Array Oper} {rest : List Oper} {o : Oper} {a : Act} {Q : Exit → Act → World → Prop}
    (hg : o.guard = none) (l c : Operand) (t : TypeId) (hop : o.op = Op.makeSlice t l c)
    (e : TypeId) (z : Value) (bytes : Nat) (ht : P.underlying t = some (.slice e)) (hinfo : (P.info? e).map (fun i => (i.zero, i.size, i.bytes)) = some (some z, 1, bytes)) (hz1 : z.cells = #[z])
    (kl kc : IntKind) (n m : Nat) (N M : Int) (hl : a.eval l = .int kl N) (hc : a.eval c = .int kc M) (hN : N = (n : Int)) (hM : M = (m : Int)) (hnm : n ≤ m) (hbytes : bytes * m ≤ 281474976710656) (h63 : m ≤ 9223372036854775807)
    (hK : ∀ w', Blk w' w.heap.size e (List.replicate m z) → Below w.heap.size w w' → w'.heap.size = w.heap.size + 1 → wpList P ops Q rest (a.put o.dst (.slice (some ⟨w.heap.size, 0, none⟩) n m)) w') :
    wpList P ops Q (o :: rest) a w := by
  obtain ⟨i, hi, hzz⟩ := Option.map_eq_some_iff.1 hinfo
  simp only [Prod.mk.injEq] at hzz
  obtain ⟨hz, hs, hb⟩ := hzz
  have hb' : (i.bytes : Int) * (m : Int) ≤ 281474976710656 := by
    have h : ((i.bytes * m : Nat) : Int) ≤ 281474976710656 := by rw [hb]; omega
    rwa [Int.natCast_mul] at h
  have hr := run_make (P := P) w t e i z ht hi hz kl kc (n : Int) (m : Int) (by omega) (by omega) hb' (by omega)
  simp only [Int.toNat_natCast, hs, Nat.mul_one, hz1] at hr
  refine wpList_plain hg fun K hK' => ?_
  unfold Oper.wp
  simp [execOp, hop, hl, hc, hN, hM, hr, Result.andThen]
  have hL : madeCells #[z] m = (List.replicate m z).toArray := by
    rw [← toList_madeCells_one]
  rw [hL]
  refine hK' _ _ (hK _ (blk_new _ _ _) ((Below.refl _ _).alloc (Nat.le_refl _) _) ?_)
  show (w.heap.push _).size = _
  simp

/-- 'copy(dst, src)', the operation written out: dst from its block's head on. -/
theorem wpList_copy_lit {P : Program} {w : World} {ops : Array Oper} {rest : List Oper} {a : Act} {Q : Exit → Act → World → Prop} {dst : Option Tmp} {type : TypeId} {pos : String} {after : Array Edge} (d s : Operand) (dT sT : TypeId)
    (elem : TypeId) (hu : P.underlying dT = some (.slice elem)) (hsz : (P.info? elem).map (·.size) = some 1)
    (g dLen dCap : Nat) (sp : Option Addr) (sLen sCap : Nat) (hd : a.eval d = .slice (some ⟨g, 0, none⟩) dLen dCap) (hs : a.eval s = .slice sp sLen sCap)
    (cur : List Value) (t : TypeId) (hg : Blk w g t cur) (cs : List Value) (hn : cs.length = Nat.min sLen dLen)
    (hpos : 0 < cs.length → ∃ ad, sp = some ad ∧ ∀ j v, cs[j]? = some v → w.cell? (ad.add j) = some v)
    (hfit : cs.length ≤ cur.length) (h1 : ∀ v ∈ cs, v.oneCell' = true) (B : Nat) (w0 : World) (hb : Below B w0 w) (hBg : B ≤ g)
    (h : ∀ w', Blk w' g t (splice cur 0 cs) → Below B w0 w' → wpList P ops Q rest (a.put dst (goInt cs.length)) w') :
    wpList P ops Q (⟨dst, .call { callee := .builtin .copy, args := #[d, s], argTypes := #[dT, sT] }, type, pos, after, none⟩ :: rest) a w :=
  wpList_copy_splice rfl d s dT sT rfl elem hu hsz _ sp dLen dCap sLen sCap hd hs g 0 cur t hg cs hn (fun h0 => ⟨rfl, hpos h0⟩) (by omega) h1 B w0 hb hBg (fun w' h1 h2 => h w' h1 h2)

theorem add_at (b o j : Nat) : (⟨b, o, none⟩ : Addr).add j = ⟨b, o + j, none⟩ := by
  unfold Addr.add
  split
  · rename_i h; rw [h]; rfl
  · rfl

theorem ints_one (zs : List Int) : ∀ v ∈ zs.map (Value.int .i64), v.oneCell' = true := by
  intro v hv
  obtain ⟨z, _, rfl⟩ := List.mem_map.1 hv
  rfl

theorem IntsAt.src {w : World} {B : Nat} {ao : Option Addr} {zs : List Int} (h : IntsAt w B ao zs) (hpos : 0 < zs.length) : ∃ ad, ao = some ad ∧ ∀ j v, (zs.map (Value.int .i64))[j]? = some v → w.cell? (ad.add j) = some v := by
  obtain ⟨b, o, rfl, _, hc⟩ := h (by intro e; rw [e] at hpos; simp at hpos)
  refine ⟨_, rfl, fun j v hv => ?_⟩
  have hj : j < zs.length := by
    have := (List.getElem?_eq_some_iff.1 hv).1
    simpa using this
  rw [add_at, hc j hj]
  simp [hj] at hv
  simp [hj, hv]

theorem run_store_float {P : Program} {w : World} {a : Addr} {m : Mode} (k : FloatKind) (n : Nat) : (store a (.float k n) m).run P w = stored P w a (.float k n) m := run_store P w a _ m rfl

theorem Tryd.info3 : (Tryd.prog.info? 3).map (fun i => (i.zero, i.size, i.bytes)) = some (some (.int .i64 0), 1, 8) := by kernel_rfl
theorem Tryd.info24 : (Tryd.prog.info? 24).map (fun i => (i.zero, i.size, i.bytes)) = some (some (.slice none 0 0), 1, 24) := by kernel_rfl

end Go.Proofs.YtlodenfdcckemaaDoor
