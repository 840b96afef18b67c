/-
  Several texts, one behind the other.
-/
import Derived.RangeFuncNested
import Derived.RangeFuncBound
import Derived.RangeFuncCalls
import Derived.RangeFuncLeaves
import Derived.Shelf.Abstract
import Derived.Shelf.RegionOpen
import Derived.OwnWalkIn
import Derived.TacticsInMore
import Derived.LoopNIn
import Derived.LoopIn
import Derived.Test.YtlodenfdcckemaaDoorH31
/-
  The library's walk over the words of a line: its contract.
-/

namespace Go.Proofs.YtlodenfdcckemaaDoor
open Go.RowKit Go.Shelf

attribute [local go_sem] Oper.semAt_some

/-- Is a sign a blank? -/
def blankR (r : Nat) : Bool := r == 32 || r == 9

set_option maxHeartbeats 400000 in
theorem parts_any (r : Nat) (w : World) : Calls Tryd.prog 107 #[.int .i32 r] w fun e w' => e = .returned (.bool (blankR r)) ∧ w' = w := by
  by_cases h1 : r = 32
  · subst h1
    go_enter Tryd.func107, Tryd.ntmps107
    go_wp2
    go_ret
    exact ⟨rfl, rfl⟩
  · have h1' : ((r : Int) == 32) = false := by simp; omega
    have hb : blankR r = ((r : Int) == 9) := by
      unfold blankR
      rw [Bool.eq_iff_iff]
      simp
      omega
    rw [hb]
    go_enter Tryd.func107, Tryd.ntmps107
    go_wp2
    go_ret
    exact ⟨rfl, rfl⟩

theorem get_bang (s : ByteArray) (j : Nat) (b : UInt8) (h : (bs s)[j]? = some b) : s.get! j = b := by
  obtain ⟨⟨l⟩⟩ := s
  simp [bs] at h
  simp [ByteArray.get!, h]

/-- A sign: a blank of one byte, or none of whose bytes is a blank. -/
theorem dec (s : ByteArray) (h0 : 0 < s.size) : 1 ≤ (Lib.decodeGo s).2 ∧ (Lib.decodeGo s).2 ≤ s.size ∧ (Lib.decodeGo s).1 ≤ 1114111 ∧
    ((blankR (Lib.decodeGo s).1 = true ∧ (Lib.decodeGo s).2 = 1 ∧ ∃ b, (bs s)[0]? = some b ∧ blank b = true) ∨ (blankR (Lib.decodeGo s).1 = false ∧ ∀ j b, j < (Lib.decodeGo s).2 → (bs s)[j]? = some b → blank b = false)) := by
  have hat := bs_at s 0 h0
  have hdec : Lib.decodeGo s = Lib.decodeN s.size (s.get! 0).toNat (s.get! 1).toNat (s.get! 2).toNat (s.get! 3).toNat := by
    unfold Lib.decodeGo
    rw [if_neg (by omega), Lib.decode_at]
    rfl
  have hb0 := get_bang s 0 _ hat
  have key : ∀ j b, (bs s)[j]? = some b → blank b = true → (s.get! j).toNat = 32 ∨ (s.get! j).toNat = 9 := by
    intro j b hj hb
    rw [get_bang s j b hj]
    simp [blank] at hb
    rcases hb with rfl | rfl
    · exact Or.inl rfl
    · exact Or.inr rfl
  have lt1 : ∀ j, (s.get! j).toNat < 256 := fun j => UInt8.toNat_lt _
  have l0 := lt1 0
  have l1 := lt1 1
  have l2 := lt1 2
  have l3 := lt1 3
  have key0 := fun b => key 0 b
  have key1 := fun b => key 1 b
  have key2 := fun b => key 2 b
  have key3 := fun b => key 3 b
  have conv : ((s.get! 0).toNat = 32 ∨ (s.get! 0).toNat = 9) → blank s[0] = true := by
    rw [hb0]
    intro h
    unfold blank
    rcases h with h | h
    · have : s[0] = 32 := UInt8.toNat_inj.1 h
      rw [this]; rfl
    · have : s[0] = 9 := UInt8.toNat_inj.1 h
      rw [this]; rfl
  rw [hdec]
  generalize (s.get! 0).toNat = b0 at *
  generalize (s.get! 1).toNat = b1 at *
  generalize (s.get! 2).toNat = b2 at *
  generalize (s.get! 3).toNat = b3 at *
  have fin : ∀ (r k : Nat), 1 ≤ k → k ≤ s.size → r ≤ 1114111 → (b0 < 128 → r = b0 ∧ k = 1) → (128 ≤ b0 → 128 ≤ r ∧ (1 < k → 128 ≤ b1) ∧ (2 < k → 128 ≤ b2) ∧ (3 < k → 128 ≤ b3) ∧ k ≤ 4) →
      1 ≤ k ∧ k ≤ s.size ∧ r ≤ 1114111 ∧ ((blankR r = true ∧ k = 1 ∧ ∃ b, (bs s)[0]? = some b ∧ blank b = true) ∨ (blankR r = false ∧ ∀ j b, j < k → (bs s)[j]? = some b → blank b = false)) := by
    intro r k h1 h2 h3 h4 h5
    refine ⟨h1, h2, h3, ?_⟩
    by_cases hlo : b0 < 128
    · obtain ⟨rfl, rfl⟩ := h4 hlo
      cases hbr : blankR r with
      | true => exact Or.inl ⟨rfl, rfl, s[0], hat, conv (by simpa [blankR] using hbr)⟩
      | false =>
        refine Or.inr ⟨rfl, fun j b hj hjb => ?_⟩
        obtain rfl : j = 0 := by omega
        cases hbb : blank b with
        | false => rfl
        | true => have := key0 b hjb hbb; simp [blankR] at hbr; omega
    · obtain ⟨g1, g2, g3, g4, g5⟩ := h5 (by omega)
      refine Or.inr ⟨by simp [blankR]; omega, fun j b hj hjb => ?_⟩
      cases hbb : blank b with
      | false => rfl
      | true =>
        exfalso
        match j, hj, hjb with
        | 0, _, hjb => have := key0 b hjb hbb; omega
        | 1, hj, hjb => have := key1 b hjb hbb; have := g2 hj; omega
        | 2, hj, hjb => have := key2 b hjb hbb; have := g3 hj; omega
        | 3, hj, hjb => have := key3 b hjb hbb; have := g4 hj; omega
        | j + 4, hj, _ => omega
  clear key key0 key1 key2 key3 conv hat hb0 hdec lt1
  unfold Lib.decodeN
  repeat' split
  all_goals (apply fin <;> first | omega | (intros; exact ⟨rfl, rfl⟩) | (simp only; omega))

theorem fields_skip (cur xs l : Bytes) (h : ∀ b ∈ xs, blank b = false) : fields cur (xs ++ l) = fields (cur ++ xs) l := by
  induction xs generalizing cur with
  | nil => simp
  | cons b xs ih =>
    rw [List.cons_append, fields, if_neg (by rw [h b (by simp)]; simp), ih _ (fun c hc => h c (by simp [hc]))]
    simp


theorem abides_below {β : Type} {B : Nat} {J : β → World → Prop} (h : AbidesFrom B J) {s : β} {w w' : World} (hs : J s w) (hb : Below w.heap.size w w') : J s w' :=
  h s w w' none hs ⟨hb.os, hb.tape, hb.output, hb.size, fun k hk _ => hb.block k hk⟩ (fun r e => by cases e)

/-- A word. -/
abbrev Wd := { x : ByteArray // x.size ≤ 4000000 ∧ bs x ≠ [] }
abbrev wbs (xs : List Wd) : List Bytes := xs.map fun x => bs x.1

/-- What the walk over the words reads. -/
def Rd (Bs Bf k : Nat) : Prop := k = Bs ∨ k = Bf ∨ k = 2 ∨ k = 3
structure Reads (Bs Bf : Nat) (s : ByteArray) (w : World) : Prop where
  line : w.cell? ⟨Bs, 0, none⟩ = some (.string s)
  fn : w.cell? ⟨Bf, 0, none⟩ = some (.func (.func 107) #[] #[])
  tabs : Lib.Utf8Tabs 2 3 w
def Kept (Bs Bf : Nat) (w w' : World) : Prop := ∀ k, Rd Bs Bf k → w'.heap[k]? = w.heap[k]?
theorem tabs_of {w w' : World} (h : Lib.Utf8Tabs 2 3 w) (h1 : w'.heap[2]? = w.heap[2]?) (h2 : w'.heap[3]? = w.heap[3]?) : Lib.Utf8Tabs 2 3 w' :=
  ⟨fun b hb => (World.cell?_of_block (w := w) h1).trans (h.1 b hb), fun i hi => ⟨(World.cell?_of_block (w := w) h2).trans (h.2 i hi).1, (World.cell?_of_block (w := w) h2).trans (h.2 i hi).2⟩⟩
theorem Reads.kept {Bs Bf : Nat} {s : ByteArray} {w w' : World} (h : Reads Bs Bf s w) (hk : Kept Bs Bf w w') : Reads Bs Bf s w' :=
  ⟨(World.cell?_of_block (w := w) (hk Bs (Or.inl rfl))).trans h.line, (World.cell?_of_block (w := w) (hk Bf (Or.inr (Or.inl rfl)))).trans h.fn, tabs_of h.tabs (hk 2 (Or.inr (Or.inr (Or.inl rfl)))) (hk 3 (Or.inr (Or.inr (Or.inr rfl))))⟩
theorem Reads.below {Bs Bf : Nat} {s : ByteArray} {w w' : World} (h : Reads Bs Bf s w) (hb : Below w.heap.size w w') : Reads Bs Bf s w' := by
  have hl : Bs < w.heap.size := World.block_lt_of_cell? _ _ h.line
  have hf : Bf < w.heap.size := World.block_lt_of_cell? _ _ h.fn
  have h1 : 2 < w.heap.size := World.block_lt_of_cell? _ _ (h.tabs.1 0 (by decide))
  have h2 : 3 < w.heap.size := World.block_lt_of_cell? _ _ (h.tabs.2 0 (by decide)).1
  refine h.kept fun k hk => hb.block k ?_
  rcases hk with rfl | rfl | rfl | rfl <;> assumption

/-- The word that is under way. -/
def curOf (l : Bytes) (start : Int) (i : Nat) : Bytes := if start < 0 then [] else (l.take i).drop start.toNat

/-- Where the walk over the words stands. -/
def Stands (l : Bytes) (start : Int) (i : Nat) (pre : List Bytes) : Prop :=
  i ≤ l.length ∧ -1 ≤ start ∧ (0 ≤ start → start < i) ∧ fields [] l = pre ++ fields (curOf l start i) (l.drop i)

theorem Stands.zero (l : Bytes) : Stands l (-1) 0 [] := ⟨by omega, by omega, by omega, by simp [curOf]⟩

theorem curOf_ne {l : Bytes} {start : Int} {i : Nat} (h0 : 0 ≤ start) (hs : start < i) (hi : i ≤ l.length) : curOf l start i ≠ [] := by
  unfold curOf
  rw [if_neg (by omega)]
  intro e
  have := congrArg List.length e
  rw [List.length_drop, List.length_take] at this
  simp at this
  omega

theorem drop_cons {l : Bytes} {i : Nat} {b : UInt8} (h : (l.drop i)[0]? = some b) : l.drop i = b :: l.drop (i + 1) ∧ i < l.length := by
  rw [List.getElem?_drop] at h
  obtain ⟨hlt, e⟩ := List.getElem?_eq_some_iff.1 h
  exact ⟨by rw [List.drop_eq_getElem_cons (by omega)]; simp at e; rw [e], by omega⟩

/-- A blank, no word under way. -/
theorem Stands.blank0 {l : Bytes} {start : Int} {i : Nat} {pre : List Bytes} {b : UInt8} (h : Stands l start i pre) (hs : start < 0) (hb : (l.drop i)[0]? = some b) (hbl : blank b = true) : Stands l start (i + 1) pre := by
  obtain ⟨h1, h2, h3, h4⟩ := h
  obtain ⟨hd, hlt⟩ := drop_cons hb
  refine ⟨by omega, h2, by omega, ?_⟩
  rw [h4, hd]
  simp [curOf, hs, fields, hbl]

/-- A blank behind a word. -/
theorem Stands.blank1 {l : Bytes} {start : Int} {i : Nat} {pre : List Bytes} {b : UInt8} (h : Stands l start i pre) (hs : 0 ≤ start) (hb : (l.drop i)[0]? = some b) (hbl : blank b = true) : Stands l (-1) (i + 1) (pre ++ [curOf l start i]) ∧ (pre ++ [curOf l start i]) <+: fields [] l := by
  obtain ⟨h1, h2, h3, h4⟩ := h
  obtain ⟨hd, hlt⟩ := drop_cons hb
  have hne := curOf_ne hs (h3 hs) h1
  have he : fields [] l = (pre ++ [curOf l start i]) ++ fields (curOf l (-1) (i + 1)) (l.drop (i + 1)) := by
    rw [h4, hd]
    generalize curOf l start i = cur at hne ⊢
    have hce : cur.isEmpty = false := by cases cur <;> simp at hne ⊢
    simp [curOf, fields, hbl, hce]
  exact ⟨⟨by omega, by omega, by omega, he⟩, ⟨_, he.symm⟩⟩

/-- A sign that is no blank. -/
theorem Stands.more {l : Bytes} {start : Int} {i k : Nat} {pre : List Bytes} (h : Stands l start i pre) (hk : 1 ≤ k) (hik : i + k ≤ l.length) (hb : ∀ j b, j < k → (l.drop i)[j]? = some b → blank b = false) :
    Stands l (if start < 0 then (i : Int) else start) (i + k) pre := by
  obtain ⟨h1, h2, h3, h4⟩ := h
  have hsp : l.drop i = (l.drop i).take k ++ l.drop (i + k) := by rw [← List.drop_drop, List.take_append_drop]
  have hall : ∀ b ∈ (l.drop i).take k, blank b = false := by
    intro b hb'
    obtain ⟨j, hj, e⟩ := List.getElem_of_mem hb'
    rw [List.length_take] at hj
    refine hb j b (by omega) ?_
    rw [← e, List.getElem_take]
    exact List.getElem?_eq_getElem _
  have hcur : curOf l (if start < 0 then (i : Int) else start) (i + k) = curOf l start i ++ (l.drop i).take k := by
    unfold curOf
    split
    · rename_i hs
      rw [if_neg (by omega)]
      simp
      rw [List.drop_take]
      congr 1
      omega
    · rename_i hs
      rw [← List.take_append_drop i (l.take (i + k))]
      have e1 : (l.take (i + k)).take i = l.take i := by rw [List.take_take]; congr 1; omega
      have e2 : (l.take (i + k)).drop i = (l.drop i).take k := by rw [List.drop_take]; congr 1; omega
      rw [e1, e2, List.drop_append_of_le_length (by rw [List.length_take]; have := h3 (by omega); omega)]
  refine ⟨hik, ?_, ?_, ?_⟩
  · split <;> omega
  · split <;> omega
  · have e : fields (curOf l start i) (l.drop i) = fields (curOf l start i ++ (l.drop i).take k) (l.drop (i + k)) := by
      conv => lhs; rw [hsp]
      exact fields_skip _ _ _ hall
    rw [h4, hcur, e]

theorem bs_extract' (s : ByteArray) (start : Int) (i : Nat) (h : 0 ≤ start) : bs (s.extract start.toNat i) = curOf (bs s) start i := by
  rw [bs_extract, curOf, if_neg (by omega), List.drop_take]

/-- The end. -/
theorem Stands.done {l : Bytes} {start : Int} {i : Nat} {pre : List Bytes} (h : Stands l start i pre) (hi : i = l.length) : (start < 0 → fields [] l = pre) ∧ (0 ≤ start → fields [] l = pre ++ [curOf l start i]) := by
  obtain ⟨h1, h2, h3, h4⟩ := h
  subst hi
  rw [List.drop_length] at h4
  refine ⟨fun hs => ?_, fun hs => ?_⟩
  · rw [h4]; simp [curOf, hs, fields]
  · have hne := curOf_ne hs (h3 hs) h1
    rw [h4]
    generalize curOf l start l.length = cur at hne ⊢
    have hce : cur.isEmpty = false := by cases cur <;> simp at hne ⊢
    simp [fields, hce]

set_option maxRecDepth 100000 in
set_option maxHeartbeats 4000000 in
theorem seq_stops (n Bs Bf : Nat) (hn : 2 ≤ n) (s : ByteArray) (hs : s.size ≤ 2000000) (w : World) (hR : Reads Bs Bf s w) :
    SeqStopsK Fence.wide n Tryd.prog 121 #[.pointer (some ⟨Bs, 0, none⟩), .pointer (some ⟨Bf, 0, none⟩)] (fun x : Wd => #[.string x.1]) (Kept Bs Bf) (fun xs => wbs xs = fields [] (bs s)) (fun pre => wbs pre <+: fields [] (bs s)) (fields [] (bs s)).length w := by
  intro l J Jx W hb hJ hJx hY h0
  have hn1 : 1 ≤ n := by omega
  have hRW := hR.below hb
  refine callsIn_of_wp Tryd.func121 rfl trivial ?_ rfl
  simp only [Tryd.ntmps121, List.size_toArray, List.length_cons, List.length_nil, Nat.reduceAdd, Nat.reduceSub, Array.replicate_succ, Array.replicate_zero, List.push_toArray, List.append_toArray, List.nil_append, List.cons_append]
  gi_wp2
  gi_loopw [4, 5] (fun vs vi wr => ∃ (start : Int) (i : Nat) (pre : List Wd), vs = .int .i64 start ∧ vi = .int .i64 i ∧ Hid (Stands (bs s) start i (wbs pre)) ∧ Reads Bs Bf s wr ∧ J pre wr) (fun _ vi _ => s.size - (intOf vi).toNat)
  case atStart => exact ⟨-1, 0, [], rfl, rfl, Stands.zero _, hRW, h0⟩
  case round =>
    obtain ⟨start, i, pre, rfl, rfl, hst, hRd, hJp⟩ := hrel
    have c1 := hRd.line
    have c2 := hRd.fn
    have hT := hRd.tabs
    have hst' := hst.out
    obtain ⟨hS1, hS2, hS3, -⟩ := hst'
    by_cases hlt : i < s.size
    · have hx : bs (s.extract i s.size) = (bs s).drop i := by rw [bs_extract, size_bs, List.take_of_length_le (by simp)]
      have hxs : (s.extract i s.size).size = s.size - i := by rw [size_bs, hx, List.length_drop, size_bs]
      obtain ⟨d1, d2, d3, d4⟩ := dec (s.extract i s.size) (by omega)
      obtain ⟨r, k, hrk⟩ : ∃ r k, Lib.decodeGo (s.extract i s.size) = (r, k) := ⟨_, _, rfl⟩
      rw [hrk, hx] at d4
      rw [hrk] at d1 d2 d3
      rw [hxs] at d2
      simp only at d1 d2 d3 d4
      rcases d4 with ⟨hbl, rfl, b, hb0, hbb⟩ | ⟨hbl, hnb⟩
      · by_cases hs0 : start < 0
        · have hnx := hst.out.blank0 hs0 hb0 hbb
          gi_wp2_with (first
            | (refine ⟨trivial, ?_⟩; gi_at_call 122; refine (callsIn_wide.2 (Tryd.utf8_DecodeRuneInString _ _ hT)).mono ?_; rintro e w1 ⟨rfl, hb1⟩; rw [hrk]; have hR1 := hRd.below hb1; have hJ1 := abides_below hJ hJp hb1; have e1 := hR1.line; have e2 := hR1.fn)
            | (refine ⟨trivial, ?_⟩; gi_at_call 107; refine (callsIn_wide.2 (parts_any _ _)).mono ?_; rintro e w' ⟨rfl, rfl⟩; rw [hbl]))
          go_roundw
          case rel => exact ⟨start, i + 1, pre, rfl, by go_num, hnx, hR1, hJ1⟩
          case measure => simp [intOf]; omega
        · obtain ⟨hnx, hpre⟩ := hst.out.blank1 (by omega) hb0 hbb
          have hsl := hS3 (by omega)
          have hcx := bs_extract' s start i (by omega)
          have hxx : (s.extract start.toNat i).size ≤ 4000000 ∧ bs (s.extract start.toNat i) ≠ [] := by
            refine ⟨?_, by rw [hcx]; exact curOf_ne (by omega) hsl hS1⟩
            rw [size_bs, bs_extract, List.length_take, List.length_drop, ← size_bs]; omega
          have hlen : pre.length < (fields [] (bs s)).length := by
            have := hpre.length_le
            simp at this
            omega
          have hnx' : Hid (Stands (bs s) (-1) (i + 1) (wbs (pre ++ [⟨s.extract start.toNat i, hxx⟩]))) := by
            show Stands _ _ _ _
            simp only [wbs, List.map_append, List.map_cons, List.map_nil]
            rw [hcx]
            exact hnx
          have hpre' : Hid (wbs (pre ++ [⟨s.extract start.toNat i, hxx⟩]) <+: fields [] (bs s)) := by
            show _ <+: _
            simp only [wbs, List.map_append, List.map_cons, List.map_nil]
            rw [hcx]
            exact hpre
          clear hnx hpre hcx
          gi_wp2_with (first
            | (refine ⟨trivial, ?_⟩; gi_at_call 122; refine (callsIn_wide.2 (Tryd.utf8_DecodeRuneInString _ _ hT)).mono ?_; rintro e w1 ⟨rfl, hb1⟩; rw [hrk]; have hR1 := hRd.below hb1; have hJ1 := abides_below hJ hJp hb1; have e1 := hR1.line; have e2 := hR1.fn; obtain ⟨fn, tmps, assign, body, hy, hRy⟩ := hY pre ⟨s.extract start.toNat i, hxx⟩ w1 hJ1 hlen; dsimp only at hy)
            | (refine ⟨trivial, ?_⟩; gi_at_call 107; refine (callsIn_wide.2 (parts_any _ _)).mono ?_; rintro e w' ⟨rfl, rfl⟩; rw [hbl]))
          refine hRy.mono ?_
          rintro e W' (⟨rfl, hJ', hk⟩ | ⟨rfl, hJx'⟩)
          · gi_wp2
            go_roundw
            case rel => exact ⟨-1, i + 1, _, rfl, by go_num, hnx', hR1.kept hk, hJ'⟩
            case measure => simp [intOf]; omega
          · gi_wp2
            refine bodyPost_ret (results_none rfl _ _ _) rfl ?_
            exact ⟨⟨_, rfl⟩, .inr ⟨_, hpre'.out, hJx'⟩⟩
      · have hnx := hst.out.more d1 (by rw [← size_bs]; omega) hnb
        by_cases hs0 : start < 0
        · rw [if_pos hs0] at hnx
          gi_wp2_with (first
            | (refine ⟨trivial, ?_⟩; gi_at_call 122; refine (callsIn_wide.2 (Tryd.utf8_DecodeRuneInString _ _ hT)).mono ?_; rintro e w1 ⟨rfl, hb1⟩; rw [hrk]; have hR1 := hRd.below hb1; have hJ1 := abides_below hJ hJp hb1; have e1 := hR1.line; have e2 := hR1.fn)
            | (refine ⟨trivial, ?_⟩; gi_at_call 107; refine (callsIn_wide.2 (parts_any _ _)).mono ?_; rintro e w' ⟨rfl, rfl⟩; rw [hbl]))
          go_roundw
          case rel => exact ⟨i, i + k, pre, rfl, by go_num, hnx, hR1, hJ1⟩
          case measure => simp [intOf]; omega
        · rw [if_neg hs0] at hnx
          gi_wp2_with (first
            | (refine ⟨trivial, ?_⟩; gi_at_call 122; refine (callsIn_wide.2 (Tryd.utf8_DecodeRuneInString _ _ hT)).mono ?_; rintro e w1 ⟨rfl, hb1⟩; rw [hrk]; have hR1 := hRd.below hb1; have hJ1 := abides_below hJ hJp hb1; have e1 := hR1.line; have e2 := hR1.fn)
            | (refine ⟨trivial, ?_⟩; gi_at_call 107; refine (callsIn_wide.2 (parts_any _ _)).mono ?_; rintro e w' ⟨rfl, rfl⟩; rw [hbl]))
          go_roundw
          case rel => exact ⟨start, i + k, pre, rfl, by go_num, hnx, hR1, hJ1⟩
          case measure => simp [intOf]; omega
    · have hil : i = (bs s).length := by rw [← size_bs]; rw [← size_bs] at hS1; omega
      obtain ⟨hdn, hds⟩ := hst.out.done hil
      by_cases hs0 : start < 0
      · have hdn' : Hid (fields [] (bs s) = wbs pre) := hdn hs0
        clear hdn hds
        gi_wp2
        go_end0
        exact ⟨⟨_, rfl⟩, .inl ⟨pre, hdn'.out.symm, hJp⟩⟩
      · have hsl := hS3 (by omega)
        have hcx := bs_extract' s start i (by omega)
        have hxx : (s.extract start.toNat i).size ≤ 4000000 ∧ bs (s.extract start.toNat i) ≠ [] := by
          refine ⟨?_, by rw [hcx]; exact curOf_ne (by omega) hsl hS1⟩
          rw [size_bs, bs_extract, List.length_take, List.length_drop, ← size_bs]; omega
        have hds' : Hid (fields [] (bs s) = wbs (pre ++ [⟨s.extract start.toNat i, hxx⟩])) := by
          show _ = _
          simp only [wbs, List.map_append, List.map_cons, List.map_nil]
          rw [hcx]
          exact hds (by omega)
        have hlen : pre.length < (fields [] (bs s)).length := by rw [hds'.out]; simp
        obtain ⟨fn, tmps, assign, body, hy, hRy⟩ := hY pre ⟨s.extract start.toNat i, hxx⟩ wr hJp hlen
        dsimp only at hy
        clear hdn hds hcx
        have hi' : i = s.size := by rw [size_bs]; exact hil
        rw [hi'] at hy
        gi_wp2
        refine hRy.mono ?_
        rintro e W' (⟨rfl, hJ', hk⟩ | ⟨rfl, hJx'⟩)
        · gi_wp2
          go_end0
          exact ⟨⟨_, rfl⟩, .inl ⟨_, hds'.out.symm, hJ'⟩⟩
        · gi_wp2
          go_end0
          exact ⟨⟨_, rfl⟩, .inr ⟨_, by rw [hds'.out]; exact List.prefix_refl _, hJx'⟩⟩
end Go.Proofs.YtlodenfdcckemaaDoor

/-
  What lies in memory while the program takes all words.
-/

namespace Go.Proofs.YtlodenfdcckemaaDoor
open Go.RowKit Go.Shelf

/-- Whatever is cells lies as it lay, and so does all below n0. -/
structure Same (n0 : Nat) (W W' : World) : Prop where
  os : W'.os = W.os
  tape : W'.tape = W.tape
  output : W'.output = W.output
  size : W.heap.size ≤ W'.heap.size
  cells : ∀ (k : Nat) (o : Obj), W.heap[k]? = some o → o.isCells = true → W'.heap[k]? = some o
  low : ∀ k, k < n0 → W'.heap[k]? = W.heap[k]?

namespace Same
variable {n0 : Nat} {A B C : World}
theorem refl (n0 : Nat) (A : World) : Same n0 A A := ⟨rfl, rfl, rfl, Nat.le_refl _, fun _ _ h _ => h, fun _ _ => rfl⟩
theorem trans (h : Same n0 A B) (k : Same n0 B C) : Same n0 A C :=
  ⟨k.os.trans h.os, k.tape.trans h.tape, k.output.trans h.output, Nat.le_trans h.size k.size, fun i o hi ho => k.cells i o (h.cells i o hi ho) ho, fun i hi => (k.low i hi).trans (h.low i hi)⟩
theorem of_below (h : Below A.heap.size A B) (hn : n0 ≤ A.heap.size) : Same n0 A B :=
  ⟨h.os, h.tape, h.output, h.size, fun i _ hi _ => (h.block i (Array.getElem?_eq_some_iff.1 hi).1).trans hi, fun i hi => h.block i (by omega)⟩
theorem of_grown {r : Option Nat} (h : A.grownBy B r) (hn : n0 ≤ A.heap.size) (hr : ∀ k, r = some k → n0 ≤ k ∧ ∃ o : Obj, A.heap[k]? = some o ∧ o.isCells = false) : Same n0 A B :=
  ⟨h.os, h.tape, h.output, h.size, fun i o hi ho => (h.block i (Array.getElem?_eq_some_iff.1 hi).1 (fun e => by obtain ⟨_, o', ho', hc⟩ := hr i e.symm; rw [hi] at ho'; cases ho'; rw [ho] at hc; cases hc)).trans hi,
    fun i hi => h.block i (by omega) (fun e => by have := (hr i e.symm).1; omega)⟩
end Same

theorem Blk.same {n0 : Nat} {W W' : World} {g : Nat} {t : TypeId} {L : List Value} (h : Blk W g t L) (hs : Same n0 W W') : Blk W' g t L := hs.cells g _ h rfl
theorem Row1.same {n0 : Nat} {W W' : World} {g cap : Nat} {t : TypeId} {xs : List Value} (h : Row1 W g t cap xs) (hs : Same n0 W W') : Row1 W' g t cap xs := h.elim fun r hr => ⟨r, hr.1.same hs, hr.2⟩
theorem Own.same {n0 : Nat} {W W' : World} {base : Nat} {t : TypeId} {v : Value} {xs : List Value} (h : Own W base t v xs) (hs : Same n0 W W') : Own W' base t v xs := by
  rcases h with h | ⟨g, cap, rfl, h1, h2, hr⟩
  · exact Or.inl h
  · exact Or.inr ⟨g, cap, rfl, h1, h2, hr.same hs⟩
theorem Made.same {n0 : Nat} {W W' : World} {base : Nat} {vE vO : Value} {vs : List Value} {s : St} (h : Made W base vE vO vs s) (hs : Same n0 W W') : Made W' base vE vO vs s :=
  ⟨h.oe.same hs, h.len, fun i hi => (h.ls i hi).same hs, h.oo.same hs, h.nd⟩
theorem Chg.same {S : Nat → Prop} {w W W' : World} (h : Chg S w W) (hs : Same w.heap.size W W') : Chg S w W' :=
  ⟨hs.os.trans h.os, hs.tape.trans h.tape, hs.output.trans h.output, Nat.le_trans h.size hs.size, fun i hi hn => (hs.low i hi).trans (h.block i hi hn),
    fun i o hi ho => (hs.low i (Array.getElem?_eq_some_iff.1 hi).1).trans (h.others i o hi ho)⟩

/-- The blocks and numbers of one call. -/
structure Fx where
  w0 : World
  B : Nat
  L : Nat
  base : Nat
  Bb : Nat
  Be : Nat
  Ba : Nat
  Bc : Nat
  v : Nat
  c : Nat
  m : Int

/-- Which blocks that were there may turn. -/
def Fx.S (f : Fx) (k : Nat) : Prop := k = f.B ∨ k = f.L ∨ f.base ≤ k

structure Fx.Ok (f : Fx) : Prop where
  base : f.base ≤ f.w0.heap.size
  b : 3 < f.B ∧ f.B < f.base
  l : 3 < f.L ∧ f.L < f.base
  new : f.w0.heap.size ≤ f.Bb ∧ f.w0.heap.size ≤ f.Be ∧ f.w0.heap.size ≤ f.Ba ∧ f.w0.heap.size ≤ f.Bc
  ne : f.Ba ≠ f.Bc
  c200 : f.c ≤ 200

structure Fr (f : Fx) (W : World) (s' : ByteArray) (k cnt : Int) (st : St) (vE vO : Value) (vs : List Value) : Prop where
  bb : Blk W f.Bb 148 [.pointer (some ⟨f.B, 0, none⟩)]
  be : Blk W f.Be 34 [.int .i64 0]
  ba : Blk W f.Ba 3 [.int .i64 0]
  bc : Blk W f.Bc 3 [.int .i64 cnt]
  hB : Blk W f.B 123 [.int .i64 f.v, .int .i64 f.c, vE, vO]
  hL : Blk W f.L 117 [.string s', .int .i64 k]
  made : Made W f.base vE vO vs st
  nob : ∀ k, OB vs vO k → k ≠ f.Bc ∧ k ≠ f.Ba
  tabs : Lib.Utf8Tabs 2 3 W
  m0 : W.cell? ⟨1, 0, none⟩ = some (.int .i64 f.m)
  chg : Chg f.S f.w0 W

theorem blk_ne {w : World} {g g' : Nat} {t t' : TypeId} {L L' : List Value} (h : Blk w g t L) (h' : Blk w g' t' L') (ht : t ≠ t') : g ≠ g' := by
  intro e
  subst e
  unfold Blk at h h'
  rw [h] at h'
  simp at h'
  exact ht h'.2

theorem size2 {w : World} (h : Lib.Utf8Tabs 2 3 w) : 3 < w.heap.size := World.block_lt_of_cell? _ _ (h.2 0 (by decide)).1

namespace Fr
variable {f : Fx} {W W' : World} {s' s'' : ByteArray} {k k' cnt : Int} {st st' : St} {vE vO vE' vO' : Value} {vs vs' : List Value}

theorem same (h : Fr f W s' k cnt st vE vO vs) (hs : Same f.w0.heap.size W W') (h2 : 3 < f.w0.heap.size) : Fr f W' s' k cnt st vE vO vs :=
  ⟨h.bb.same hs, h.be.same hs, h.ba.same hs, h.bc.same hs, h.hB.same hs, h.hL.same hs, h.made.same hs, h.nob, tabs_of h.tabs (hs.low 2 (by omega)) (hs.low 3 (by omega)), (World.cell?_of_block (w := W) (hs.low 1 (by omega))).trans h.m0, h.chg.same hs⟩

/-- The next line has been asked for. -/
theorem nexts (h : Fr f W s' k cnt st vE vO vs) (ok : f.Ok) (hc : Chg (· = f.L) W W') (hL : Blk W' f.L 117 [.string s'', .int .i64 k']) : Fr f W' s'' k' cnt st vE vO vs := by
  have l := ok.l
  refine ⟨h.bb.chg hc (blk_ne h.bb h.hL (by decide)), h.be.chg hc (blk_ne h.be h.hL (by decide)), h.ba.chg hc (blk_ne h.ba h.hL (by decide)), h.bc.chg hc (blk_ne h.bc h.hL (by decide)), h.hB.chg hc (blk_ne h.hB h.hL (by decide)), hL, ?_, h.nob, ?_, ?_, ?_⟩
  · exact h.made.chg' hc (fun k e e' => own_blk h.made.oe h.hL (by decide) (by rw [e, e'])) (fun k e e' => h.made.ob_ne h.hL (by decide) (by rw [← e']; exact e))
  · have hs2 := size2 h.tabs
    exact tabs_of h.tabs (hc.block 2 (by omega) (by omega)) (hc.block 3 (by omega) (by omega))
  · exact hc.cell (by omega) h.m0
  · exact h.chg.trans (hc.mono fun k _ e => Or.inr (Or.inl e))

/-- The count has turned. -/
theorem counted (h : Fr f W s' k cnt st vE vO vs) (ok : f.Ok) (n : Int) : Fr f (W.setCell ⟨f.Bc, 0, none⟩ (.int .i64 n)) s' k n st vE vO vs := by
  have hc : Chg (· = f.Bc) W (W.setCell ⟨f.Bc, 0, none⟩ (.int .i64 n)) := (Chg.refl (· = f.Bc) W).setB f.Bc 0 rfl _
  have hset := h.bc.set 0 (.int .i64 n)
  have nw := ok.new
  have bs' := ok.base
  have hw0 := h.chg.size
  have lb := ok.b
  have ll := ok.l
  refine ⟨h.bb.chg hc (blk_ne h.bb h.bc (by decide)), h.be.chg hc (blk_ne h.be h.bc (by decide)), h.ba.chg hc ok.ne, hset, h.hB.chg hc (blk_ne h.hB h.bc (by decide)), h.hL.chg hc (blk_ne h.hL h.bc (by decide)), ?_, h.nob, ?_, ?_, ?_⟩
  · exact h.made.chg' hc (fun k e e' => own_blk h.made.oe h.bc (by decide) (by rw [e, e'])) (fun k e e' => (h.nob k e).1 e')
  · have hs2 := size2 h.tabs
    exact tabs_of h.tabs (hc.block 2 (by omega) (by omega)) (hc.block 3 (by omega) (by omega))
  · exact hc.cell (by omega) h.m0
  · exact h.chg.trans (hc.mono fun k _ e => Or.inr (Or.inr (by omega)))

/-- A word has been taken. -/
theorem took (h : Fr f W s' k cnt st vE vO vs) (ok : f.Ok) (hB : Blk W' f.B 123 [.int .i64 f.v, .int .i64 f.c, vE', vO']) (hM : Made W' f.base vE' vO' vs' st') (hc : Chg (fun k => k = f.B ∨ vE.ownBlock = some k ∨ vO.ownBlock = some k) W W') (ho : ∀ k, OB vs' vO' k → OB vs vO k ∨ W.heap.size ≤ k) : Fr f W' s' k cnt st' vE' vO' vs' := by
  have lb := ok.b
  have ll := ok.l
  have hbl := h.bc.lt
  have hal := h.ba.lt
  have key : ∀ {g : Nat} {t : TypeId} {L : List Value}, Blk W g t L → t ≠ 123 → t ≠ 24 → t ≠ 3 → ¬ (g = f.B ∨ vE.ownBlock = some g ∨ vO.ownBlock = some g) := by
    intro g t L hg h1 h2 h3 e
    rcases e with e | e | e
    · exact blk_ne hg h.hB h1 e
    · exact own_blk h.made.oe hg (fun e => h2 e.symm) e
    · exact own_blk h.made.oo hg (fun e => h3 e.symm) e
  have low : ∀ g, g ≤ 3 → ¬ (g = f.B ∨ vE.ownBlock = some g ∨ vO.ownBlock = some g) := by
    intro g hg e
    rcases e with e | e | e
    · omega
    · have := (h.made.oe.lt e).1; omega
    · have := (h.made.oo.lt e).1; omega
  have three : ∀ g, Blk W g 3 [.int .i64 cnt] ∨ Blk W g 3 [.int .i64 0] → (¬ OB vs vO g) → ¬ (g = f.B ∨ vE.ownBlock = some g ∨ vO.ownBlock = some g) := by
    intro g hg hn e
    rcases e with e | e | e
    · rcases hg with hg | hg
      · exact blk_ne hg h.hB (by decide) e
      · exact blk_ne hg h.hB (by decide) e
    · rcases hg with hg | hg
      · exact own_blk h.made.oe hg (by decide) e
      · exact own_blk h.made.oe hg (by decide) e
    · exact hn (OB.last e)
  refine ⟨h.bb.chg hc (key h.bb (by decide) (by decide) (by decide)), h.be.chg hc (key h.be (by decide) (by decide) (by decide)), h.ba.chg hc (three _ (Or.inr h.ba) (fun e => (h.nob _ e).2 rfl)), h.bc.chg hc (three _ (Or.inl h.bc) (fun e => (h.nob _ e).1 rfl)), hB, h.hL.chg hc (key h.hL (by decide) (by decide) (by decide)), hM, ?_, ?_, ?_, ?_⟩
  · intro k hk
    rcases ho k hk with h1 | h1
    · exact h.nob k h1
    · exact ⟨by omega, by omega⟩
  · have hs2 := size2 h.tabs
    exact tabs_of h.tabs (hc.block 2 (by omega) (low 2 (by omega))) (hc.block 3 (by omega) (low 3 (by omega)))
  · exact hc.cell (low 1 (by omega)) h.m0
  · refine h.chg.trans (hc.mono fun k _ e => ?_)
    rcases e with e | e | e
    · exact Or.inl e
    · exact Or.inr (Or.inr (h.made.oe.lt e).1)
    · exact Or.inr (Or.inr (h.made.oo.lt e).1)
end Fr

/-- The marks of the loops that are over. -/
def Mks (n0 n1 : Nat) (Ds : List Nat) (W : World) : Prop := Ds.Nodup ∧ ∀ D ∈ Ds, n0 ≤ D ∧ D < n1 ∧ W.heap[D]? = some (.deferred (some []))

def dmark (D : Nat) : Deferred := { target := .collected D, args := #[] }

theorem Mks.keeps {n0 n1 : Nat} {Ds : List Nat} {W W' : World} (h : Mks n0 n1 Ds W) (hk : KeepsOthers W W') : Mks n0 n1 Ds W' :=
  ⟨h.1, fun D hD => ⟨(h.2 D hD).1, (h.2 D hD).2.1, hk.same D _ (h.2 D hD).2.2 rfl⟩⟩
theorem Mks.mono {n0 n1 n2 : Nat} {Ds : List Nat} {W : World} (h : Mks n0 n1 Ds W) (hn : n1 ≤ n2) : Mks n0 n2 Ds W := ⟨h.1, fun D hD => ⟨(h.2 D hD).1, by have := (h.2 D hD).2.1; omega, (h.2 D hD).2.2⟩⟩
theorem Mks.cons {n0 n1 n2 D : Nat} {Ds : List Nat} {W : World} (h : Mks n0 n1 Ds W) (h0 : n0 ≤ n1) (h1 : n1 ≤ D) (h2 : D < n2) (hD : W.heap[D]? = some (.deferred (some []))) : Mks n0 n2 (D :: Ds) W := by
  refine ⟨List.nodup_cons.2 ⟨fun e => by have := (h.2 D e).2.1; omega, h.1⟩, fun E hE => ?_⟩
  rcases List.mem_cons.1 hE with rfl | hE
  · exact ⟨by omega, h2, hD⟩
  · exact ⟨(h.2 E hE).1, by have := (h.2 E hE).2.1; omega, (h.2 E hE).2.2⟩
theorem Mks.own {n0 n1 : Nat} {Ds : List Nat} {W W' : World} {row : Option Nat} (h : Mks n0 n1 Ds W) (hg : W.grownBy W' row) (hr : ∀ r, row = some r → n1 ≤ r) : Mks n0 n1 Ds W' :=
  ⟨h.1, fun D hD => ⟨(h.2 D hD).1, (h.2 D hD).2.1, (hg.block D (Array.getElem?_eq_some_iff.1 (h.2 D hD).2.2).1 (fun e => by have := hr D e.symm; have := (h.2 D hD).2.1; omega)).trans (h.2 D hD).2.2⟩⟩

/-- A function leaves over its marks. -/
theorem leave_marks {F : Fence} {n : Nat} {P : Program} {fn : Func} {tmps : Array Value} {R : Ending → World → Prop} {n0 n1 : Nat} (Ds : List Nat) (W : World) (hM : Mks n0 n1 Ds W)
    (h : ∀ W', Same n0 W W' → LeavesInM F n P fn tmps R [] .returning W') : LeavesInM F n P fn tmps R (Ds.map dmark) .returning W := by
  induction Ds generalizing W with
  | nil => exact h W (Same.refl _ _)
  | cons D Ds ih =>
    obtain ⟨hnd, hall⟩ := hM
    have hD := hall D (by simp)
    have hDs := List.nodup_cons.1 hnd
    refine ⟨by simp, .inl ⟨D, _, rfl, run_takeDeferred hD.2.2, ?_⟩⟩
    have hg := grownBy_putObj' W D (.deferred none)
    refine ih _ ⟨hDs.2, fun E hE => ?_⟩ (fun W' hs => h W' (Same.trans ⟨hg.os, hg.tape, hg.output, hg.size, fun i o hi ho => (hg.block i (Array.getElem?_eq_some_iff.1 hi).1 (fun e => by have e' : i = D := (by simpa using e); rw [e', hD.2.2] at hi; cases hi; cases ho)).trans hi, fun i hi => hg.block i (by have := (Array.getElem?_eq_some_iff.1 hD.2.2).1; omega) (fun e => by have e' : i = D := (by simpa using e); omega)⟩ hs))
    have hE' := hall E (by simp [hE])
    refine ⟨hE'.1, hE'.2.1, (hg.block E (Array.getElem?_eq_some_iff.1 hE'.2.2).1 ?_).trans hE'.2.2⟩
    intro e
    have : E = D := by simpa using e
    exact hDs.1 (this ▸ hE)
end Go.Proofs.YtlodenfdcckemaaDoor

/-
  The program takes all words.
-/

namespace Go.Proofs.YtlodenfdcckemaaDoor
open Go.RowKit Go.Shelf

attribute [local go_sem] Oper.semAt_some

set_option maxHeartbeats 400000 in
theorem seq_any (s : ByteArray) (w : World) : Calls Tryd.prog 106 #[.string s, .func (.func 107) #[] #[]] w fun e w' => ∃ Bs Bf, e = .returned (.func (.func 121) #[] #[.pointer (some ⟨Bs, 0, none⟩), .pointer (some ⟨Bf, 0, none⟩)]) ∧
    w.heap.size ≤ Bs ∧ w.heap.size ≤ Bf ∧ Blk w' Bs 9 [.string s] ∧ Blk w' Bf 152 [.func (.func 107) #[] #[]] ∧ Below w.heap.size w w' := by
  have h1 := blk_new w [.string s] 9
  have h2 := blk_new (w.alloc (.cells #[.string s] 9)) [.func (.func 107) #[] #[]] 152
  have h3 := h1.alloc (.cells #[.func (.func 107) #[] #[]] 152)
  have hb := ((Below.refl w.heap.size w).alloc (Nat.le_refl _) (.cells #[.string s] 9)).alloc (by simp) (.cells #[.func (.func 107) #[] #[]] 152)
  rw [World.size_alloc] at h2
  go_enter Tryd.func106, Tryd.ntmps106
  go_wp2
  go_ret
  exact ⟨w.heap.size, w.heap.size + 1, rfl, Nat.le_refl _, by omega, h3, h2, hb⟩

/-- What taking all words answers. -/
def TookAll (f : Fx) (ws : List Bytes) (e : Ending) (w' : World) : Prop :=
  e = .returned (.tuple #[.int .i64 (takeAllW f.v f.c ws).1, .int .i64 (takeAllW f.v f.c ws).2.1]) ∧
  ((takeAllW f.v f.c ws).1 = 0 → ∃ vE vO vs, Blk w' f.B 123 [.int .i64 f.v, .int .i64 f.c, vE, vO] ∧ Made w' f.base vE vO vs (takeAllW f.v f.c ws).2.2) ∧ Chg f.S f.w0 w'

theorem fr_start (B L base v c : Nat) (s : ByteArray) (k m : Int) (w : World) (hB : Blk w B 123 [.int .i64 v, .int .i64 c, .slice none 0 0, .slice none 0 0]) (hL : Blk w L 117 [.string s, .int .i64 k]) (hT : Lib.Utf8Tabs 2 3 w) (hm : w.cell? ⟨1, 0, none⟩ = some (.int .i64 m)) :
    Fr ⟨w, B, L, base, w.heap.size, w.heap.size + 1, w.heap.size + 1 + 1, w.heap.size + 1 + 1 + 1, v, c, m⟩ ((((w.alloc (.cells #[.pointer (some ⟨B, 0, none⟩)] 148)).alloc (.cells #[.int .i64 0] 34)).alloc (.cells #[.int .i64 0] 3)).alloc (.cells #[.int .i64 0] 3)) s k 0 ⟨[], []⟩ (.slice none 0 0) (.slice none 0 0) [] := by
  have hb1 := alloc_below' w (.cells #[.pointer (some ⟨B, 0, none⟩)] 148)
  have n1 := blk_new w [.pointer (some ⟨B, 0, none⟩)] 148
  have z1 : (w.alloc (.cells #[.pointer (some ⟨B, 0, none⟩)] 148)).heap.size = w.heap.size + 1 := by simp
  generalize w.alloc (.cells #[.pointer (some ⟨B, 0, none⟩)] 148) = w1 at *
  have hb2 := alloc_below' w1 (.cells #[.int .i64 0] 34)
  have n2 := blk_new w1 [.int .i64 0] 34
  have z2 : (w1.alloc (.cells #[.int .i64 0] 34)).heap.size = w1.heap.size + 1 := by simp
  generalize w1.alloc (.cells #[.int .i64 0] 34) = w2 at *
  have hb3 := alloc_below' w2 (.cells #[.int .i64 0] 3)
  have n3 := blk_new w2 [.int .i64 0] 3
  have z3 : (w2.alloc (.cells #[.int .i64 0] 3)).heap.size = w2.heap.size + 1 := by simp
  generalize w2.alloc (.cells #[.int .i64 0] 3) = w3 at *
  have hb4 := alloc_below' w3 (.cells #[.int .i64 0] 3)
  have n4 := blk_new w3 [.int .i64 0] 3
  generalize w3.alloc (.cells #[.int .i64 0] 3) = w4 at *
  rw [z3, z2, z1] at n4
  rw [z2, z1] at n3
  rw [z1] at n2
  have hb : Below w.heap.size w w4 := hb1.trans ((hb2.trans ((hb3.trans (hb4.mono (by omega))).mono (by omega))).mono (by omega))
  have hs2 := size2 hT
  exact ⟨((n1.below' hb2).below' hb3).below' hb4, (n2.below' hb3).below' hb4, n3.below' hb4, n4, hB.below' hb, hL.below' hb, Made.start _ _, fun k e => by (obtain ⟨y, hy, e⟩ := e; simp at hy; rw [hy] at e; simp [Value.ownBlock] at e), tabs_of hT (hb.block 2 (by omega)) (hb.block 3 (by omega)), (hb.cell (p := ⟨1, 0, none⟩) (show 1 < w.heap.size by omega)).trans hm, Chg.of_below hb⟩

theorem fin19 {n : Nat} {tmps : Array Value} {W : World} {Be Ba : Nat} {e a : Int} {R : Ending → World → Prop} (hbe : Blk W Be 34 [.int .i64 e]) (hba : Blk W Ba 3 [.int .i64 a]) (h4 : tmps[4]? = some (.pointer (some ⟨Be, 0, none⟩))) (h5 : tmps[5]? = some (.pointer (some ⟨Ba, 0, none⟩)))
    (h : R (.returned (.tuple #[.int .i64 e, .int .i64 a])) W) : LeavesInM Fence.wide n Tryd.prog Tryd.f88 tmps R [] .returning W := by
  have c0 : W.cell? ⟨Be, 0, none⟩ = some (.int .i64 e) := hbe.cell (i := 0) (by simp) undef
  have c1 : W.cell? ⟨Ba, 0, none⟩ = some (.int .i64 a) := hba.cell (i := 0) (by simp) undef
  refine ⟨_, ?_, h⟩
  simp [results, Tryd.results88, go_sem, h4, h5, c0, c1]

/-- It leaves, its results told. -/
theorem leave19 {f : Fx} {n n1 : Nat} {W : World} {Ds : List Nat} {e a : Int} {ws : List Bytes} {tmps : Array Value} (hbe : Blk W f.Be 34 [.int .i64 e]) (hba : Blk W f.Ba 3 [.int .i64 a]) (hC : Chg f.S f.w0 W) (hM : Mks f.w0.heap.size n1 Ds W)
    (h1 : (takeAllW f.v f.c ws).1 = e) (h2 : (takeAllW f.v f.c ws).2.1 = a) (h3 : e = 0 → ∃ vE vO vs, Blk W f.B 123 [.int .i64 f.v, .int .i64 f.c, vE, vO] ∧ Made W f.base vE vO vs (takeAllW f.v f.c ws).2.2)
    (h4 : tmps[4]? = some (.pointer (some ⟨f.Be, 0, none⟩))) (h5 : tmps[5]? = some (.pointer (some ⟨f.Ba, 0, none⟩))) :
    LeavesInM Fence.wide n Tryd.prog Tryd.f88 tmps (fun e w' => ∃ f' : Fx, f'.w0 = f.w0 ∧ f'.B = f.B ∧ f'.L = f.L ∧ f'.base = f.base ∧ f'.v = f.v ∧ f'.c = f.c ∧ TookAll f' ws e w') (Ds.map dmark) .returning W := by
  refine leave_marks Ds W hM fun W' hs => fin19 (hbe.same hs) (hba.same hs) h4 h5 ⟨f, rfl, rfl, rfl, rfl, rfl, rfl, ?_, ?_, hC.same hs⟩
  · rw [h1, h2]
  · intro h0
    obtain ⟨vE, vO, vs, hB, hMd⟩ := h3 (h1 ▸ h0)
    exact ⟨vE, vO, vs, hB.same hs, hMd.same hs⟩

/-- The results are laid. -/
theorem Fr.put {f : Fx} {W : World} {s' : ByteArray} {k cnt : Int} {st : St} {vE vO : Value} {vs : List Value} (h : Fr f W s' k cnt st vE vO vs) (ok : f.Ok) (e a : Int) :
    Blk ((W.setCell ⟨f.Be, 0, none⟩ (.int .i64 e)).setCell ⟨f.Ba, 0, none⟩ (.int .i64 a)) f.Be 34 [.int .i64 e] ∧ Blk ((W.setCell ⟨f.Be, 0, none⟩ (.int .i64 e)).setCell ⟨f.Ba, 0, none⟩ (.int .i64 a)) f.Ba 3 [.int .i64 a] ∧
    Chg (fun k => k = f.Be ∨ k = f.Ba) W ((W.setCell ⟨f.Be, 0, none⟩ (.int .i64 e)).setCell ⟨f.Ba, 0, none⟩ (.int .i64 a)) ∧ Chg f.S f.w0 ((W.setCell ⟨f.Be, 0, none⟩ (.int .i64 e)).setCell ⟨f.Ba, 0, none⟩ (.int .i64 a)) ∧
    Blk ((W.setCell ⟨f.Be, 0, none⟩ (.int .i64 e)).setCell ⟨f.Ba, 0, none⟩ (.int .i64 a)) f.B 123 [.int .i64 f.v, .int .i64 f.c, vE, vO] ∧ Made ((W.setCell ⟨f.Be, 0, none⟩ (.int .i64 e)).setCell ⟨f.Ba, 0, none⟩ (.int .i64 a)) f.base vE vO vs st := by
  have hc : Chg (fun k => k = f.Be ∨ k = f.Ba) W ((W.setCell ⟨f.Be, 0, none⟩ (.int .i64 e)).setCell ⟨f.Ba, 0, none⟩ (.int .i64 a)) := ((Chg.refl (fun k => k = f.Be ∨ k = f.Ba) W).setB f.Be 0 (Or.inl rfl) _).setB f.Ba 0 (Or.inr rfl) _
  have hne : f.Be ≠ f.Ba := blk_ne h.be h.ba (by decide)
  have nw := ok.new
  have bs' := ok.base
  refine ⟨(h.be.set 0 _).setOther hne _, (h.ba.setOther (fun e => hne e.symm) _).set 0 _, hc, h.chg.trans (hc.mono fun k _ e => Or.inr (Or.inr (by rcases e with e | e <;> omega))), ?_, ?_⟩
  · exact h.hB.chg hc (fun e => e.elim (blk_ne h.hB h.be (by decide)) (blk_ne h.hB h.ba (by decide)))
  · refine h.made.chg' hc (fun k e e' => ?_) (fun k e e' => ?_)
    · rcases e' with e' | e'
      · exact own_blk h.made.oe h.be (by decide) (by rw [e, e'])
      · exact own_blk h.made.oe h.ba (by decide) (by rw [e, e'])
    · rcases e' with e' | e'
      · exact h.made.ob_ne h.be (by decide) (by rw [← e']; exact e)
      · exact (h.nob k e).2 e'

def okOf (v : Value) : Bool := match v with | .bool b => b | _ => false

/-- Between two lines. -/
def Between (f : Fx) (all : List Bytes) (lv : ByteArray) (ok : Bool) (W : World) (Ds : List Nat) : Prop := ∃ (s' : ByteArray) (k : Int) (done : List Bytes) (st : St) (vE vO : Value) (vs : List Value),
  Fr f W s' k done.length st vE vO vs ∧ Mks f.w0.heap.size W.heap.size Ds W ∧ takeW f.v f.c 0 ⟨[], []⟩ done = (0, 0, st) ∧ all = done ++ (if ok then fields [] (bs lv) ++ wordsOf (rows (bs s')) else []) ∧ (ok = true → lv.size ≤ 1100000 ∧ s'.size ≤ 1100000 ∧ 0 ≤ k ∧ k + s'.size ≤ 2200000)

def LoopInv (f : Fx) (all : List Bytes) (a : Act) (W : World) : Prop := ∃ (lv : ByteArray) (ok : Bool) (Ds : List Nat) (u9 u10 u11 u12 u13 u14 u15 u16 u17 u18 u19 u20 u21 u22 u23 u24 u25 u26 u27 u28 u29 u30 u31 u32 u33 u34 u35 u36 u37 u38 u39 u40 u41 : Value),
  Between f all lv ok W Ds ∧ a = { tmps := #[.pointer (some ⟨f.B, 0, none⟩), .pointer (some ⟨f.L, 0, none⟩), .pointer (some ⟨f.Bb, 0, none⟩), undef, .pointer (some ⟨f.Be, 0, none⟩), .pointer (some ⟨f.Ba, 0, none⟩), .pointer (some ⟨f.Bc, 0, none⟩), .string lv, .bool ok, u9, u10, u11, u12, u13, u14, u15, u16, u17, u18, u19, u20, u21, u22, u23, u24, u25, u26, u27, u28, u29, u30, u31, u32, u33, u34, u35, u36, u37, u38, u39, u40, u41], defers := Ds.map dmark }

def meas (f : Fx) (a : Act) (W : World) : Nat := if okOf (a.tmps.getD 8 undef) then leftOf W f.L + 1 else 0

/-- The next line has been asked for: between two lines. -/
theorem between_next {f : Fx} (ok : f.Ok) {all done : List Bytes} {s' : ByteArray} {k : Int} {st : St} {vE vO : Value} {vs : List Value} {Ds : List Nat} {W W' : World} {e : Ending} (hF : Fr f W s' k done.length st vE vO vs) (hM : Mks f.w0.heap.size W.heap.size Ds W) (hd : takeW f.v f.c 0 ⟨[], []⟩ done = (0, 0, st)) (hall : all = done ++ wordsOf (rows (bs s'))) (hs : s'.size ≤ 1100000) (hk : 0 ≤ k ∧ k + s'.size ≤ 2200000)
    (hn : Next f.L k s' e W') (hc : Chg (· = f.L) W W') : ∃ lv b, e = .returned (.tuple #[.string lv, .bool b]) ∧ Between f all lv b W' Ds ∧ (if b then leftOf W' f.L + 1 else 0) < leftOf W f.L + 1 := by
  obtain ⟨s'', hle, h | ⟨a, h1, h2, h3, h4, h5⟩⟩ := hn
  · obtain ⟨h1, h2, h3⟩ := h
    refine ⟨_, _, h2, ⟨s'', _, done, st, vE, vO, vs, hF.nexts ok hc h3, (hM.keeps hc.keeps).mono hc.size, hd, ?_, fun h => by cases h⟩, by simp⟩
    rw [hall, wordsOf_drop, h1]
    rfl
  · have hF' := hF.nexts ok hc h5
    refine ⟨a, true, h4, ⟨s'', _, done, st, vE, vO, vs, hF', (hM.keeps hc.keeps).mono hc.size, hd, ?_, fun _ => ⟨by omega, by omega, by omega, by omega⟩⟩, ?_⟩
    · rw [hall, wordsOf_drop, h1, wordsOf_cons]
      have hr : remark (bs a) = false := by
        have := List.head?_dropWhile_not remark (rows (bs s'))
        rw [h1] at this
        simpa using this
      rw [hr]
      rfl
    · simp
      rw [leftOf_eq hF'.hL, leftOf_eq hF.hL]
      omega

/-- Between two words of a line. -/
def InWord (f : Fx) (Bs Bf : Nat) (lv s' : ByteArray) (k : Int) (dn : Nat) (st0 : St) (n1 : Nat) (Ds : List Nat) (pre : List Wd) (W : World) : Prop := ∃ (cnt : Int) (st : St) (vE vO : Value) (vs : List Value),
  cnt = (dn : Int) + pre.length ∧ Fr f W s' k cnt st vE vO vs ∧ takeW f.v f.c dn st0 (wbs pre) = (0, 0, st) ∧ Mks f.w0.heap.size n1 Ds W ∧ Blk W Bs 9 [.string lv] ∧ Blk W Bf 152 [.func (.func 107) #[] #[]]

/-- A word has been refused. -/
def OutWord (f : Fx) (dn : Nat) (st0 : St) (n1 : Nat) (Ds : List Nat) (cd : Code) (pre : List Wd) (W : World) : Prop := cd = .ret ∧ ∃ e : Int, e ≠ 0 ∧ (takeW f.v f.c dn st0 (wbs pre)).1 = e ∧ (takeW f.v f.c dn st0 (wbs pre)).2.1 = (dn : Int) + pre.length ∧
  Blk W f.Be 34 [.int .i64 e] ∧ Blk W f.Ba 3 [.int .i64 ((dn : Int) + pre.length)] ∧ Chg f.S f.w0 W ∧ Mks f.w0.heap.size n1 Ds W

theorem inWord_own {f : Fx} {Bs Bf : Nat} {lv s' : ByteArray} {k : Int} {dn : Nat} {st0 : St} {n1 : Nat} {Ds : List Nat} (h2 : 3 < f.w0.heap.size) (hn : f.w0.heap.size ≤ n1) : OwnFrom n1 (InWord f Bs Bf lv s' k dn st0 n1 Ds) := by
  rintro pre A B row ⟨cnt, st, vE, vO, vs, hc, hF, ht, hM, b1, b2⟩ hg hr
  have hs : Same f.w0.heap.size A B := Same.of_grown hg hF.chg.size (fun k e => ⟨by have := (hr k e).1; omega, (hr k e).2⟩)
  exact ⟨cnt, st, vE, vO, vs, hc, hF.same hs h2, ht, hM.own hg (fun r e => (hr r e).1), b1.same hs, b2.same hs⟩

theorem outWord_own {f : Fx} {dn : Nat} {st0 : St} {n1 : Nat} {Ds : List Nat} {cd : Code} (hn : f.w0.heap.size ≤ n1) : OwnFrom n1 (OutWord f dn st0 n1 Ds cd) := by
  rintro pre A B row ⟨hcd, e, h1, h2, h3, h4, h5, h6, h7⟩ hg hr
  have hs : Same f.w0.heap.size A B := Same.of_grown hg h6.size (fun k e => ⟨by have := (hr k e).1; omega, (hr k e).2⟩)
  exact ⟨hcd, e, h1, h2, h3, h4.same hs, h5.same hs, h6.same hs, h7.own hg (fun r e => (hr r e).1)⟩

theorem takeW_snoc {v c k : Nat} {s st : St} {ws : List Bytes} (x : Bytes) (h : takeW v c k s ws = (0, 0, st)) :
    takeW v c k s (ws ++ [x]) = if (take1 v c st x).1 = 0 then (0, 0, (take1 v c st x).2) else ((take1 v c st x).1, ((k + ws.length : Nat) : Int) + 1, st) := by
  rw [takeW_append _ _ _ _ _ _ (by rw [h]), h]
  unfold takeW
  split
  · rfl
  · rfl

theorem word_on {f : Fx} (ok : f.Ok) {W w' : World} {Bs Bf : Nat} {lv s' : ByteArray} {k cnt : Int} {st st' : St} {vE vO vE' vO' : Value} {vs vs' : List Value} (hF : Fr f W s' k cnt st vE vO vs) (kBs : Blk W Bs 9 [.string lv]) (kBf : Blk W Bf 152 [.func (.func 107) #[] #[]])
    (hB' : Blk w' f.B 123 [.int .i64 f.v, .int .i64 f.c, vE', vO']) (hM' : Made w' f.base vE' vO' vs' st') (hC' : Chg (fun k => k = f.B ∨ vE.ownBlock = some k ∨ vO.ownBlock = some k) (W.setCell ⟨f.Bc, 0, none⟩ (.int .i64 (cnt + 1))) w')
    (hO' : ∀ k, OB vs' vO' k → OB vs vO k ∨ (W.setCell ⟨f.Bc, 0, none⟩ (.int .i64 (cnt + 1))).heap.size ≤ k) :
    Fr f w' s' k (cnt + 1) st' vE' vO' vs' ∧ KeepsOthers W w' ∧ Kept Bs Bf W w' ∧ Blk w' Bs 9 [.string lv] ∧ Blk w' Bf 152 [.func (.func 107) #[] #[]] := by
  have hF1 := hF.counted ok (cnt + 1)
  have hF2 := hF1.took ok hB' hM' hC' hO'
  have hc : Chg (· = f.Bc) W (W.setCell ⟨f.Bc, 0, none⟩ (.int .i64 (cnt + 1))) := (Chg.refl (· = f.Bc) W).setB f.Bc 0 rfl _
  have b1 := kBs.chg hc (blk_ne kBs hF.bc (by decide))
  have b2 := kBf.chg hc (blk_ne kBf hF.bc (by decide))
  have key : ∀ {g : Nat} {t : TypeId} {L : List Value}, Blk (W.setCell ⟨f.Bc, 0, none⟩ (.int .i64 (cnt + 1))) g t L → t ≠ 123 → t ≠ 24 → t ≠ 3 → ¬ (g = f.B ∨ vE.ownBlock = some g ∨ vO.ownBlock = some g) := by
    intro g t L hg h1 h2 h3 e
    rcases e with e | e | e
    · exact blk_ne hg hF1.hB h1 e
    · exact own_blk hF1.made.oe hg (fun e => h2 e.symm) e
    · exact own_blk hF1.made.oo hg (fun e => h3 e.symm) e
  have d1 := b1.chg hC' (key b1 (by decide) (by decide) (by decide))
  have d2 := b2.chg hC' (key b2 (by decide) (by decide) (by decide))
  have lb := ok.b
  have nw := ok.new
  have hw0 := hF.chg.size
  have hbs := ok.base
  have low : ∀ g, g ≤ 3 → w'.heap[g]? = W.heap[g]? := by
    intro g hg
    have hs2 := size2 hF.tabs
    refine (hC'.block g ?_ ?_).trans (hc.block g (by omega) (by omega))
    · have := hc.size; omega
    · intro e
      rcases e with e | e | e
      · omega
      · have := (hF1.made.oe.lt e).1; omega
      · have := (hF1.made.oo.lt e).1; omega
  refine ⟨hF2, hc.keeps.trans hC'.keeps, ?_, d1, d2⟩
  intro g hg
  rcases hg with rfl | rfl | rfl | rfl
  · exact d1.trans kBs.symm
  · exact d2.trans kBf.symm
  · exact low 2 (by omega)
  · exact low 3 (by omega)

theorem takeAll_stop {v c : Nat} {done ws us : List Bytes} {st0 : St} {e a : Int} (hd : takeW v c 0 ⟨[], []⟩ done = (0, 0, st0)) (h1 : (takeW v c done.length st0 ws).1 = e) (h0 : e ≠ 0) (h2 : (takeW v c done.length st0 ws).2.1 = a) :
    (takeAllW v c (done ++ (ws ++ us))).1 = e ∧ (takeAllW v c (done ++ (ws ++ us))).2.1 = a := by
  have : takeW v c 0 ⟨[], []⟩ (done ++ (ws ++ us)) = takeW v c done.length st0 ws := by
    rw [takeW_append _ _ _ _ _ _ (by rw [hd]), hd]
    simp only [Nat.zero_add]
    exact takeW_stop _ _ _ _ _ _ (by rw [h1]; exact h0)
  unfold takeAllW
  simp only [this]
  rw [if_neg (by rw [h1]; exact h0)]
  exact ⟨h1, h2⟩

theorem kept_trans {Bs Bf : Nat} {A B C : World} (h : Kept Bs Bf A B) (k : Kept Bs Bf B C) : Kept Bs Bf A C := fun i hi => (k i hi).trans (h i hi)
theorem kept_put {Bs Bf : Nat} {w : World} (h1 : Bs < w.heap.size) (h2 : Bf < w.heap.size) (h3 : 3 < w.heap.size) (W : World) (l : Nat) (o o' : Obj) (hl : w.heap.size ≤ l) (h : W.heap[l]? = some o) (_ : o.isCells = false) (_ : o.isWalk = false) : Kept Bs Bf W (W.putObj l o') := by
  intro k hk
  refine (grownBy_putObj' W l o').block k ?_ ?_
  · have := (Array.getElem?_eq_some_iff.1 h).1
    rcases hk with rfl | rfl | rfl | rfl <;> omega
  · intro e
    have e' : k = l := by simpa using e
    rcases hk with rfl | rfl | rfl | rfl <;> omega

set_option maxRecDepth 100000 in
set_option maxHeartbeats 4000000 in
theorem takeAll_any (B L base v c : Nat) (s : ByteArray) (k m : Int) (w : World) (hB : Blk w B 123 [.int .i64 v, .int .i64 c, .slice none 0 0, .slice none 0 0]) (hL : Blk w L 117 [.string s, .int .i64 k]) (hb : 3 < B ∧ B < base) (hl : 3 < L ∧ L < base) (hbase : base ≤ w.heap.size) (hc : c ≤ 200)
    (hs : s.size ≤ 1100000) (hk : 0 ≤ k ∧ k ≤ 1100000) (hT : Lib.Utf8Tabs 2 3 w) (hm : w.cell? ⟨1, 0, none⟩ = some (.int .i64 m)) :
    Calls Tryd.prog 88 #[.pointer (some ⟨B, 0, none⟩), .pointer (some ⟨L, 0, none⟩)] w fun e w' => ∃ f : Fx, f.w0 = w ∧ f.B = B ∧ f.L = L ∧ f.base = base ∧ f.v = v ∧ f.c = c ∧ TookAll f (wordsOf (rows (bs s))) e w' := by
  refine (callsIn_wide (n := 9)).1 ?_
  refine callsIn_of_wp_marks Tryd.func88 rfl trivial ?_ rfl
  simp only [Tryd.ntmps88, List.size_toArray, List.length_cons, List.length_nil, Nat.reduceAdd, Nat.reduceSub, Array.replicate_succ, Array.replicate_zero, List.push_toArray, List.append_toArray, List.nil_append, List.cons_append]
  have F0 := fr_start B L base v c s k m w hB hL hT hm
  have ok : Fx.Ok ⟨w, B, L, base, w.heap.size, w.heap.size + 1, w.heap.size + 1 + 1, w.heap.size + 1 + 1 + 1, v, c, m⟩ := ⟨hbase, hb, hl, ⟨Nat.le_refl _, by show w.heap.size ≤ w.heap.size + 1; omega, by show w.heap.size ≤ w.heap.size + 1 + 1; omega, by show w.heap.size ≤ w.heap.size + 1 + 1 + 1; omega⟩, by show w.heap.size + 1 + 1 ≠ w.heap.size + 1 + 1 + 1; omega, hc⟩
  gi_wp2_with fail
  refine ⟨trivial, ?_⟩
  generalize ((((w.alloc (.cells #[.pointer (some ⟨B, 0, none⟩)] 148)).alloc (.cells #[.int .i64 0] 34)).alloc (.cells #[.int .i64 0] 3)).alloc (.cells #[.int .i64 0] 3)) = W0 at *
  refine (callsIn_wide.2 (next_any L s k m W0 F0.hL (by omega) (by omega) F0.m0 (by omega))).mono ?_
  rintro e W1 ⟨hnx, hcx⟩
  obtain ⟨lv, b, rfl, hBt, -⟩ := between_next ok F0 (Ds := []) (done := []) ⟨List.nodup_nil, fun D h => by simp at h⟩ rfl (by rfl) hs (by omega) hnx hcx
  gi_wp2
  refine wpIn_loop (LoopInv ⟨w, B, L, base, w.heap.size, w.heap.size + 1, w.heap.size + 1 + 1, w.heap.size + 1 + 1 + 1, v, c, m⟩ (wordsOf (rows (bs s)))) (meas ⟨w, B, L, base, w.heap.size, w.heap.size + 1, w.heap.size + 1 + 1, w.heap.size + 1 + 1 + 1, v, c, m⟩) ?start ?round
  case start => exact ⟨lv, b, [], _, _, _, _, _, _, _, _, _, _, _, _, _, _, _, _, _, _, _, _, _, _, _, _, _, _, _, _, _, _, _, _, _, hBt, rfl⟩
  case round =>
    clear F0 hnx hcx hBt
    rintro a W ⟨lv, b, Ds, u9, u10, u11, u12, u13, u14, u15, u16, u17, u18, u19, u20, u21, u22, u23, u24, u25, u26, u27, u28, u29, u30, u31, u32, u33, u34, u35, u36, u37, u38, u39, u40, u41, hBt, rfl⟩
    dsimp only
    cases b with
    | false =>
      obtain ⟨s', k', done, st, vE, vO, vs, hF, hM, hd, hall, -⟩ := hBt
      have cb : W.cell? ⟨w.heap.size, 0, none⟩ = some (.pointer (some ⟨B, 0, none⟩)) := hF.bb.cell (i := 0) (by simp) undef
      have hbl' := lacks_any B base v c vE vO vs st W hF.hB hF.made
      have hst : Hid (takeAllW v c (wordsOf (rows (bs s))) = if lacks c st = 0 then (0, 0, st) else (lacks c st, (done.length : Int) + 1, st)) := by
        show _ = _
        have : wordsOf (rows (bs s)) = done := by rw [hall]; simp
        rw [this]
        unfold takeAllW
        simp only
        rw [hd]
        simp
      have h2w : 3 < w.heap.size := size2 hT
      have hdl : done.length ≤ 1200000 := by
        have h1 := words_count (rows (bs s))
        have h2 := bulk_rows (bs s)
        rw [hall, List.length_append] at h1
        rw [← size_bs] at h2
        omega
      have hwr : wrap64 ((done.length : Int) + 1) = (done.length : Int) + 1 := by unfold wrap64; omega
      by_cases hz : lacks c st = 0
      · rw [hz] at hbl'
        have hst' : Hid (takeAllW v c (wordsOf (rows (bs s))) = (0, 0, st)) := by show _ = _; rw [hst.out, if_pos hz]
        clear hst hall hd
        gi_wp2_with (refine ⟨trivial, ?_⟩; gi_at_call 109; refine (callsIn_wide.2 hbl').mono ?_; rintro e w' ⟨rfl, hbl⟩; have hF' := hF.same (Same.of_below hbl hF.chg.size) h2w; have hM' := hM.keeps (Chg.of_below (S := fun _ => False) hbl).keeps; have g4 : w'.cell? ⟨w.heap.size + 1, 0, none⟩ = some (.int .i64 0) := hF'.be.cell (i := 0) (by simp) undef; have g5 : w'.cell? ⟨w.heap.size + 1 + 1, 0, none⟩ = some (.int .i64 0) := hF'.ba.cell (i := 0) (by simp) undef; have r4 : w'.frozen? ⟨w.heap.size + 1, 0, none⟩ = false := hF'.be.frozen 0; have r5 : w'.frozen? ⟨w.heap.size + 1 + 1, 0, none⟩ = false := hF'.ba.frozen 0)
        obtain ⟨p1, p2, p3, p4, p5, p6⟩ := hF'.put ok 0 0
        exact leave19 (f := ⟨w, B, L, base, w.heap.size, w.heap.size + 1, w.heap.size + 1 + 1, w.heap.size + 1 + 1 + 1, v, c, m⟩) p1 p2 p4 (hM'.keeps p3.keeps) (by rw [show takeAllW _ _ _ = _ from hst'.out]) (by rw [show takeAllW _ _ _ = _ from hst'.out]) (fun _ => ⟨vE, vO, vs, p5, by rw [show takeAllW _ _ _ = _ from hst'.out]; exact p6⟩) rfl rfl
      · have hst' : Hid (takeAllW v c (wordsOf (rows (bs s))) = (lacks c st, (done.length : Int) + 1, st)) := by show _ = _; rw [hst.out, if_neg hz]
        have hz' : (lacks c st != 0) = true := by simp [hz]
        clear hst hall hd
        gi_wp2_with (refine ⟨trivial, ?_⟩; gi_at_call 109; refine (callsIn_wide.2 hbl').mono ?_; rintro e w' ⟨rfl, hbl⟩; have hF' := hF.same (Same.of_below hbl hF.chg.size) h2w; have hM' := hM.keeps (Chg.of_below (S := fun _ => False) hbl).keeps; have g4 : w'.cell? ⟨w.heap.size + 1, 0, none⟩ = some (.int .i64 0) := hF'.be.cell (i := 0) (by simp) undef; have g5 : w'.cell? ⟨w.heap.size + 1 + 1, 0, none⟩ = some (.int .i64 0) := hF'.ba.cell (i := 0) (by simp) undef; have g6 : w'.cell? ⟨w.heap.size + 1 + 1 + 1, 0, none⟩ = some (.int .i64 (done.length : Int)) := hF'.bc.cell (i := 0) (by simp) undef; have r4 : w'.frozen? ⟨w.heap.size + 1, 0, none⟩ = false := hF'.be.frozen 0; have r5 : w'.frozen? ⟨w.heap.size + 1 + 1, 0, none⟩ = false := hF'.ba.frozen 0)
        gi_region
        all_goals gi_wp2
        all_goals
          obtain ⟨p1, p2, p3, p4, p5, p6⟩ := hF'.put ok (lacks c st) ((done.length : Int) + 1)
          exact leave19 (f := ⟨w, B, L, base, w.heap.size, w.heap.size + 1, w.heap.size + 1 + 1, w.heap.size + 1 + 1 + 1, v, c, m⟩) p1.drew p2.drew p4.drew (hM'.keeps p3.drew.keeps) (by rw [show takeAllW _ _ _ = _ from hst'.out]) (by rw [show takeAllW _ _ _ = _ from hst'.out]) (fun h => absurd h hz) rfl rfl
    | true =>
      obtain ⟨s', k', done, st, vE, vO, vs, hF, hM, hd, hall, hbd⟩ := hBt
      obtain ⟨hlv, hs', hk0, hk'⟩ := hbd rfl
      have h2w : 3 < w.heap.size := size2 hT
      have hsq := seq_any lv W
      gi_wp2_with (refine ⟨trivial, ?_⟩; gi_at_call 106; refine (callsIn_wide.2 hsq).mono ?_; clear hsq; rintro e W2 ⟨Bs, Bf, rfl, hBs, hBf, kBs, kBf, hb2⟩)
      have hF2 := hF.same (Same.of_below hb2 hF.chg.size) h2w
      have hM2 := (hM.keeps (Chg.of_below (S := fun _ => False) hb2).keeps).mono hb2.size
      have hn1 : w.heap.size ≤ W2.heap.size := hF2.chg.size
      have hRd : Reads Bs Bf lv W2 := ⟨kBs.cell (i := 0) (by simp) undef, kBf.cell (i := 0) (by simp) undef, hF2.tabs⟩
      have hds : Hid (takeW v c 0 ⟨[], []⟩ done = (0, 0, st)) := hd
      have hal : Hid (wordsOf (rows (bs s)) = done ++ (fields [] (bs lv) ++ wordsOf (rows (bs s')))) := hall
      clear hd hall hbd
      refine wpIn_rangeFunc_ownF rfl (by omega) (gf := 121) (lb := #[.pointer (some ⟨Bs, 0, none⟩), .pointer (some ⟨Bf, 0, none⟩)]) rfl trivial (enters_of Tryd.func121 (by kernel_rfl) rfl)
        (seq_stops 8 Bs Bf (by omega) lv (by omega) W2 hRd) (fun h k => kept_trans h k) (kept_put kBs.lt kBf.lt (by omega)) (Below.refl _ _) (fun _ => rfl)
        (InWord ⟨w, B, L, base, w.heap.size, w.heap.size + 1, w.heap.size + 1 + 1, w.heap.size + 1 + 1 + 1, v, c, m⟩ Bs Bf lv s' k' done.length st W2.heap.size Ds) (OutWord ⟨w, B, L, base, w.heap.size, w.heap.size + 1, w.heap.size + 1 + 1, w.heap.size + 1 + 1 + 1, v, c, m⟩ done.length st W2.heap.size Ds)
        (inWord_own h2w hn1) (fun _ => outWord_own hn1)
        ⟨_, st, vE, vO, vs, rfl, by simpa using hF2, rfl, hM2, kBs, kBf⟩
        (fun x => { tmps := #[.pointer (some ⟨B, 0, none⟩), .pointer (some ⟨L, 0, none⟩), .pointer (some ⟨w.heap.size, 0, none⟩), undef, .pointer (some ⟨w.heap.size + 1, 0, none⟩), .pointer (some ⟨w.heap.size + 1 + 1, 0, none⟩), .pointer (some ⟨w.heap.size + 1 + 1 + 1, 0, none⟩), .string lv, .bool true, .string x.1, u10, u11, u12, u13, u14, u15, u16, .bool true, u18, u19, u20, u21, u22, .string lv, .func (.func 121) #[] #[.pointer (some ⟨Bs, 0, none⟩), .pointer (some ⟨Bf, 0, none⟩)], .string x.1, u26, u27, u28, u29, u30, u31, u32, u33, u34, u35, u36, u37, u38, u39, u40, u41], defers := [] }) ?assign ?body ?done ?stop
      case assign =>
        intro l x W3 K hK
        gi_wp2
        exact hK
      case body =>
        rintro l pre x W3 ⟨cnt, st3, vE3, vO3, vs3, hcnt, hF3, hT3, hM3, b1, b2⟩ hlen
        have hF1 := hF3.counted ok (cnt + 1)
        have hlen2 := takeW_len v c 0 ⟨[], []⟩ done (by simp) (by simp) (by simp)
        rw [hds.out] at hlen2
        have hlen3 := takeW_len v c done.length st (wbs pre) hlen2.1 hlen2.2.1 hlen2.2.2
        rw [show takeW v c done.length st (wbs pre) = (0, 0, st3) from hT3] at hlen3
        have hcb : 0 ≤ cnt ∧ cnt ≤ 1200000 := by
          have h1 := words_count (rows (bs s))
          have h2 := bulk_rows (bs s)
          rw [hal.out, List.length_append, List.length_append] at h1
          rw [← size_bs] at h2
          omega
        have g2 : W3.cell? ⟨w.heap.size, 0, none⟩ = some (.pointer (some ⟨B, 0, none⟩)) := hF3.bb.cell (i := 0) (by simp) undef
        have g6 : W3.cell? ⟨w.heap.size + 1 + 1 + 1, 0, none⟩ = some (.int .i64 cnt) := hF3.bc.cell (i := 0) (by simp) undef
        have r6 : W3.frozen? ⟨w.heap.size + 1 + 1 + 1, 0, none⟩ = false := hF3.bc.frozen 0
        have g2' : (W3.setCell ⟨w.heap.size + 1 + 1 + 1, 0, none⟩ (.int .i64 (cnt + 1))).cell? ⟨w.heap.size, 0, none⟩ = some (.pointer (some ⟨B, 0, none⟩)) := hF1.bb.cell (i := 0) (by simp) undef
        have hbz : base ≤ (W3.setCell ⟨w.heap.size + 1 + 1 + 1, 0, none⟩ (.int .i64 (cnt + 1))).heap.size := by have := hF1.chg.size; dsimp only at this; omega
        have t1 := take1_any B base v c x.1 vE3 vO3 vs3 st3 (W3.setCell ⟨w.heap.size + 1 + 1 + 1, 0, none⟩ (.int .i64 (cnt + 1))) hF1.hB hF1.made hc hlen3.2.1 hlen3.1 hbz hb.2 x.2.1 x.2.2
        have hsn := takeW_snoc (bs x.1) (show takeW v c done.length st (wbs pre) = (0, 0, st3) from hT3)
        have hwx : wbs (pre ++ [x]) = wbs pre ++ [bs x.1] := by simp [wbs]
        have hCnt : Hid (cnt = (done.length : Int) + pre.length) := hcnt
        have hX : Hid (takeW v c done.length st (wbs (pre ++ [x])) = if (take1 v c st3 (bs x.1)).1 = 0 then (0, 0, (take1 v c st3 (bs x.1)).2) else ((take1 v c st3 (bs x.1)).1, ((done.length + (wbs pre).length : Nat) : Int) + 1, st3)) := by
          show _ = _
          rw [hwx]
          exact hsn
        clear hsn hwx hlen2 hlen3 hT3 hcnt hlen
        by_cases h0 : (take1 v c st3 (bs x.1)).1 = 0
        · rw [h0] at t1
          have hX' : Hid (takeW v c done.length st (wbs (pre ++ [x])) = (0, 0, (take1 v c st3 (bs x.1)).2)) := by show _ = _; rw [hX.out, if_pos h0]
          clear hX
          gi_wp2_with (refine ⟨trivial, ?_⟩; gi_at_call 108; refine (CallsIn.inRound l (callsIn_wide.2 t1)).mono ?_; clear t1; rintro e w' ⟨rfl, vE', vO', vs', hB', hM', hC', hO'⟩)
          obtain ⟨q1, q2, q3, q4, q5⟩ := word_on (f := ⟨w, B, L, base, w.heap.size, w.heap.size + 1, w.heap.size + 1 + 1, w.heap.size + 1 + 1 + 1, v, c, m⟩) ok hF3 b1 b2 hB' hM' hC' hO'
          exact ⟨q2, q3, cnt + 1, _, vE', vO', vs', by rw [hCnt.out]; simp; omega, q1, hX'.out, hM3.keeps q2, q4, q5⟩
        · have hX' : Hid (takeW v c done.length st (wbs (pre ++ [x])) = ((take1 v c st3 (bs x.1)).1, ((done.length + (wbs pre).length : Nat) : Int) + 1, st3)) := by show _ = _; rw [hX.out, if_neg h0]
          clear hX
          have h0' : ((take1 v c st3 (bs x.1)).1 != 0) = true := by simp [h0]
          have HZ : Hid ((take1 v c st3 (bs x.1)).1 ≠ 0) := h0
          clear h0
          gi_wp2_with (refine ⟨trivial, ?_⟩; gi_at_call 108; refine (CallsIn.inRound l (callsIn_wide.2 t1)).mono ?_; clear t1; rintro e w' ⟨rfl, vE', vO', vs', hB', hM', hC', hO'⟩; obtain ⟨q1, q2, q3, q4, q5⟩ := word_on (f := ⟨w, B, L, base, w.heap.size, w.heap.size + 1, w.heap.size + 1 + 1, w.heap.size + 1 + 1 + 1, v, c, m⟩) ok hF3 b1 b2 hB' hM' hC' hO'; have y4 : w'.cell? ⟨w.heap.size + 1, 0, none⟩ = some (.int .i64 0) := q1.be.cell (i := 0) (by simp) undef; have y5 : w'.cell? ⟨w.heap.size + 1 + 1, 0, none⟩ = some (.int .i64 0) := q1.ba.cell (i := 0) (by simp) undef; have y6 : w'.cell? ⟨w.heap.size + 1 + 1 + 1, 0, none⟩ = some (.int .i64 (cnt + 1)) := q1.bc.cell (i := 0) (by simp) undef; have z4 : w'.frozen? ⟨w.heap.size + 1, 0, none⟩ = false := q1.be.frozen 0; have z5 : w'.frozen? ⟨w.heap.size + 1 + 1, 0, none⟩ = false := q1.ba.frozen 0)
          gi_region
          all_goals gi_wp2
          all_goals
            obtain ⟨p1, p2, p3, p4, p5, p6⟩ := q1.put ok (take1 v c st3 (bs x.1)).1 (cnt + 1)
            refine ⟨q2.trans p3.drew.keeps, rfl, _, HZ.out, by rw [show takeW _ _ _ _ _ = _ from hX'.out], ?_, p1.drew, ?_, p4.drew, (hM3.keeps q2).keeps p3.drew.keeps⟩
            · rw [show takeW _ _ _ _ _ = _ from hX'.out]; simp; omega
            · have hcc : ((done.length : Int) + ((pre ++ [x]).length : Nat)) = cnt + 1 := by rw [hCnt.out]; simp; omega
              rw [hcc]
              exact p2.drew
      case done =>
        rintro D xs W3 hD hS ⟨cnt, st3, vE3, vO3, vs3, hcnt, hF3, hT3, hM3, b1, b2⟩ hK
        have hd' : takeW v c 0 ⟨[], []⟩ (done ++ fields [] (bs lv)) = (0, 0, st3) := by
          rw [takeW_append _ _ _ _ _ _ (by rw [hds.out]), hds.out, ← hS]
          simp only [Nat.zero_add]
          exact hT3
        have hxl : xs.length = (fields [] (bs lv)).length := by rw [← hS]; simp
        have hF3' : Fr ⟨w, B, L, base, w.heap.size, w.heap.size + 1, w.heap.size + 1 + 1, w.heap.size + 1 + 1 + 1, v, c, m⟩ W3 s' k' ((done ++ fields [] (bs lv)).length) st3 vE3 vO3 vs3 := by
          have : cnt = (((done ++ fields [] (bs lv)).length : Nat) : Int) := by rw [hcnt, List.length_append, hxl]; simp
          rw [← this]; exact hF3
        have hM3' : Mks w.heap.size W3.heap.size (D :: Ds) W3 := hM3.cons hn1 hD (Array.getElem?_eq_some_iff.1 hK).1 hK
        have hall' : wordsOf (rows (bs s)) = (done ++ fields [] (bs lv)) ++ wordsOf (rows (bs s')) := by rw [hal.out, List.append_assoc]
        have hlf : leftOf W3 L = leftOf W L := by rw [leftOf_eq hF3'.hL, leftOf_eq hF.hL]
        have nx := next_any L s' k' m W3 hF3'.hL (by omega) (by omega) hF3'.m0 (by omega)
        dsimp only
        gi_wp2_with (refine ⟨trivial, ?_⟩; gi_at_call 86; refine (callsIn_wide.2 nx).mono ?_; clear nx; rintro e W4 ⟨hnx, hcx⟩; obtain ⟨lv', b', rfl, hBt', hlt⟩ := between_next ok hF3' hM3' hd' hall' hs' ⟨hk0, hk'⟩ hnx hcx)
        refine ⟨⟨lv', b', D :: Ds, _, _, _, _, _, _, _, _, _, _, _, _, _, _, _, _, _, _, _, _, _, _, _, _, _, _, _, _, _, _, _, _, _, hBt', rfl⟩, ?_⟩
        show (if okOf (.bool b') = true then leftOf W4 L + 1 else 0) < (if okOf (.bool true) = true then leftOf W L + 1 else 0)
        rw [← hlf]
        exact hlt
      case stop =>
        rintro D cd pre W3 hD hS ⟨rfl, e, he0, h1, h2, hbe, hba, hC3, hM3⟩ hK
        gi_wp2
        have hMk : Mks w.heap.size (D + 1) (D :: Ds) W3 := hM3.cons hn1 hD (Nat.lt_succ_self _) hK
        obtain ⟨t, ht⟩ := hS
        obtain ⟨z1, z2⟩ := takeAll_stop (us := t ++ wordsOf (rows (bs s'))) hds.out h1 he0 h2
        have hal2 : wordsOf (rows (bs s)) = done ++ (wbs pre ++ (t ++ wordsOf (rows (bs s')))) := by rw [hal.out, ← ht, List.append_assoc]
        exact leave19 (f := ⟨w, B, L, base, w.heap.size, w.heap.size + 1, w.heap.size + 1 + 1, w.heap.size + 1 + 1 + 1, v, c, m⟩) (Ds := D :: Ds) hbe hba hC3 hMk (by rw [hal2]; exact z1) (by rw [hal2]; exact z2) (fun h => absurd h he0) rfl rfl
end Go.Proofs.YtlodenfdcckemaaDoor

/-
  The program reads a text.
-/

namespace Go.Proofs.YtlodenfdcckemaaDoor
open Go.RowKit Go.Shelf

/-- Lists of lists that a call has made. -/
def Lists (W : World) (base : Nat) (v : Value) (vs : List Value) (cs : List (List Int)) : Prop := Made W base v (.slice none 0 0) vs ⟨cs, []⟩

theorem Own.down {w : World} {b b' : Nat} {t : TypeId} {v : Value} {xs : List Value} (h : Own w b t v xs) (hb : b' ≤ b) : Own w b' t v xs := by
  rcases h with h | ⟨g, cap, rfl, h1, h2, hr⟩
  · exact Or.inl h
  · exact Or.inr ⟨g, cap, rfl, by omega, h2, hr⟩

theorem Made.close {W : World} {b b' : Nat} {vE vO : Value} {vs : List Value} {s : St} (h : Made W b vE vO vs s) (hb : b' ≤ b) : Lists W b' vE vs s.ended := by
  refine ⟨h.oe.down hb, h.len, fun i hi => (h.ls i hi).down hb, Own.nil _ _ _, ?_⟩
  have hnd := h.nd
  rw [List.filterMap_append] at hnd ⊢
  rw [show List.filterMap Value.ownBlock [Value.slice none 0 0] = [] from rfl, List.append_nil]
  exact (List.nodup_append.1 hnd).1

/-- What reading a text answers. -/
def Read (s : ByteArray) (w : World) (e : Ending) (w' : World) : Prop := ∃ vC vs, e = .returned (.tuple #[.agg #[.int .i64 (parse (bs s)).vars, vC], .int .i64 (parse (bs s)).err, .int .i64 (parse (bs s)).place]) ∧ Lists w' w.heap.size vC vs (parse (bs s)).clauses ∧ Below w.heap.size w w'

theorem lists_none (W : World) (base : Nat) : Lists W base (.slice none 0 0) [] [] := Made.start W base

theorem res31 {fn : Func} {tmps : Array Value} {W : World} {R : Nat} {a : Int} {ao : Option Addr} {n cap : Nat} {x y : Int} (hf : fn.results = #[.cell 2 31, .tmp 3, .tmp 4]) (hB : Blk W R 31 [.int .i64 a, .slice ao n cap]) (h2 : tmps[2]? = some (.pointer (some ⟨R, 0, none⟩))) (h3 : tmps[3]? = some (.int .i64 x)) (h4 : tmps[4]? = some (.int .i64 y)) :
    (results fn tmps).run Tryd.prog W = .ok (.tuple #[.agg #[.int .i64 a, .slice ao n cap], .int .i64 x, .int .i64 y]) W := by
  have c0 : W.cell? ⟨R, 0, none⟩ = some (.int .i64 a) := hB.cell (i := 0) (by simp) undef
  have c1 : W.cell? ⟨R, 1, none⟩ = some (.slice ao n cap) := hB.cell (i := 1) (by simp) undef
  simp [results, hf, go_sem, c0, c1, h2, h3, h4]

theorem parse_none {l : Bytes} (h : (rows l).dropWhile remark = []) : parse l = Said.no 1 ((rows l).length + 1) := by unfold parse; rw [h]
theorem parse_head {l r : Bytes} {rs : List Bytes} (h : (rows l).dropWhile remark = r :: rs) (he : headErr (headOf r) ≠ 0) : parse l = Said.no (headErr (headOf r)) (((rows l).takeWhile remark).length + 1) := by unfold parse; rw [h]; simp only; rw [if_neg he]
theorem parse_body {l r : Bytes} {rs : List Bytes} {v c : Nat} (h : (rows l).dropWhile remark = r :: rs) (he : headErr (headOf r) = 0) (hh : headOf r = some (v, c)) : parse l = bodyOf v c rs := by unfold parse; rw [h]; simp only; rw [if_pos he, hh]

theorem head_ok {r : Bytes} (h : headErr (headOf r) = 0) : ∃ v c : Nat, headOf r = some (v, c) ∧ v ≤ 20 ∧ c ≤ 200 ∧ headX r = v ∧ headY r = c := by
  cases hh : headOf r with
  | none => rw [hh] at h; simp [headErr] at h
  | some p =>
    obtain ⟨v, c⟩ := p
    obtain ⟨e1, e2, e3⟩ := headX_some hh
    rw [e1] at h
    refine ⟨v, c, rfl, ?_, ?_, ?_, ?_⟩
    · split at h
      · cases h
      · omega
    · split at h
      · cases h
      · split at h
        · cases h
        · omega
    · unfold headX; rw [e1, h, if_pos rfl, e2]
    · unfold headY; rw [e1, h, if_pos rfl, e3]

theorem read_no {s : ByteArray} {w W : World} {e p : Int} (h : parse (bs s) = Said.no e p) (hb : Below w.heap.size w W) : Read s w (.returned (.tuple #[.agg #[.int .i64 0, .slice none 0 0], .int .i64 e, .int .i64 p])) W :=
  ⟨.slice none 0 0, [], by rw [h]; rfl, by rw [h]; exact lists_none _ _, hb⟩

theorem lacks_zero {c : Nat} {s : St} (h : lacks c s = 0) : s.opened = [] := by
  unfold lacks at h
  split at h
  · cases h
  · rename_i hn
    exact List.length_eq_zero_iff.1 (by omega)

theorem all_closed {v c : Nat} {ws : List Bytes} (h : (takeAllW v c ws).1 = 0) : (takeAllW v c ws).2.1 = 0 := by
  have key : ∀ (ws : List Bytes) (k : Nat) (s : St), (takeW v c k s ws).1 = 0 → (takeW v c k s ws).2.1 = 0 := by
    intro ws
    induction ws with
    | nil => intro k s _; rfl
    | cons w ws ih =>
      intro k s h
      unfold takeW at h ⊢
      split
      · rename_i h0; rw [if_pos h0] at h; exact ih _ _ h
      · rename_i h0; rw [if_neg h0] at h; exact absurd h h0
  unfold takeAllW at h ⊢
  simp only at h ⊢
  split
  · rename_i h0
    rw [if_pos h0] at h
    split
    · exact key _ _ _ h0
    · rename_i h1; rw [if_neg h1] at h; exact absurd h h1
  · rename_i h0; rw [if_neg h0] at h; exact absurd h h0

set_option maxRecDepth 100000 in
set_option maxHeartbeats 2000000 in
theorem formula_any (s : ByteArray) (m : Int) (w : World) (hs : s.size ≤ 1100000) (hT : Lib.Utf8Tabs 2 3 w) (hm : w.cell? ⟨1, 0, none⟩ = some (.int .i64 m)) :
    Calls Tryd.prog 58 #[.string s] w fun e w' => Read s w e w' := by
  have h2 := size2 hT
  go_enter Tryd.func58, Tryd.ntmps58
  have n1 := blk_new w [.int .i64 0, .slice none 0 0] 31
  have z1 : (w.alloc (.cells #[.int .i64 0, .slice none 0 0] 31)).heap.size = w.heap.size + 1 := by simp
  have n2 := blk_new (w.alloc (.cells #[.int .i64 0, .slice none 0 0] 31)) [.string s, .int .i64 0] 117
  have n1' := n1.alloc (.cells #[.string s, .int .i64 0] 117)
  have hb0 : Below w.heap.size w ((w.alloc (.cells #[.int .i64 0, .slice none 0 0] 31)).alloc (.cells #[.string s, .int .i64 0] 117)) := ((Below.refl _ w).alloc (Nat.le_refl _) _).alloc (by simp) _
  rw [z1] at n2
  clear z1 n1
  go_wp2_with fail
  generalize ((w.alloc (.cells #[.int .i64 0, .slice none 0 0] 31)).alloc (.cells #[.string s, .int .i64 0] 117)) = W0 at *
  refine (next_any (w.heap.size + 1) s 0 m W0 n2 (by omega) (by omega) ((hb0.cell (p := ⟨1, 0, none⟩) (show 1 < w.heap.size by omega)).trans hm) (by omega)).mono ?_
  rintro e W1 ⟨⟨s', hle, hnx⟩, hcx⟩
  have k1 := n1'.chg hcx (by omega)
  have hbz : Below w.heap.size w W1 := hb0.trans (hcx.below hb0.size (fun k e => by omega))
  have r0 : W1.cell? ⟨w.heap.size, 0, none⟩ = some (.int .i64 0) := k1.cell (i := 0) (by simp) undef
  have r1 : W1.cell? ⟨w.heap.size, 1, none⟩ = some (.slice none 0 0) := k1.cell (i := 1) (by simp) undef
  have f0 := k1.frozen 0
  have f1 := k1.frozen 1
  rcases hnx with ⟨h1, rfl, hL⟩ | ⟨a, h1, h3, h4, rfl, hL⟩
  · have hP := parse_none h1
    have hPd : Hid (parse (bs s) = Said.no 1 ((rows (bs s)).length + 1)) := hP
    have l1 : W1.cell? ⟨w.heap.size + 1, 1, none⟩ = some (.int .i64 (0 + ((rows (bs s)).length : Int))) := hL.cell (i := 1) (by simp) undef
    rw [Int.zero_add] at l1
    have hrl := rows_length (bs s)
    rw [← size_bs] at hrl
    clear hP
    go_wp2
    go_region
    all_goals go_wp2
    all_goals exact bodyPost_ret (res31 rfl ((k1.set 0 _).set 1 _).drew rfl rfl rfl) rfl (read_no hPd.out (((hbz.setCell (p := ⟨w.heap.size, 0, none⟩) (Nat.le_refl _) _).setCell (p := ⟨w.heap.size, 1, none⟩) (Nat.le_refl _) _).drew))
  · have hm1 : W1.cell? ⟨1, 0, none⟩ = some (.int .i64 m) := (hbz.cell (p := ⟨1, 0, none⟩) (show 1 < w.heap.size by omega)).trans hm
    have l1 : W1.cell? ⟨w.heap.size + 1, 1, none⟩ = some (.int .i64 (0 + (((rows (bs s)).takeWhile remark).length : Int) + 1)) := hL.cell (i := 1) (by simp) undef
    rw [Int.zero_add] at l1 hL
    have hd := head_any a m W1 (by omega) hm1
    obtain ⟨ln, hln⟩ : ∃ ln : Nat, ((rows (bs s)).takeWhile remark).length = ln := ⟨_, rfl⟩
    by_cases he : headErr (headOf (bs a)) = 0
    · obtain ⟨v, c, hh, hv, hc, e1, e2⟩ := head_ok he
      have hP := parse_body h1 he hh
      rw [e1, e2, he] at hd
      rw [hln] at l1 h4 hL
      clear he hh e1 e2 hln h1
      go_wp2_with (first
        | (go_at_call 87; refine hd.mono ?_; clear hd; rintro e W2 ⟨rfl, hb2⟩; have kL := hL.below' hb2; have kR := k1.below' hb2; have hbz2 := hbz.trans (hb2.mono hbz.size); have nB := blk_new W2 [.int .i64 v, .int .i64 c, .slice none 0 0, .slice none 0 0] 123; have al := alloc_below' W2 (.cells #[.int .i64 v, .int .i64 c, .slice none 0 0, .slice none 0 0] 123); have zz : (W2.alloc (.cells #[.int .i64 v, .int .i64 c, .slice none 0 0, .slice none 0 0] 123)).heap.size = W2.heap.size + 1 := by simp)
        | (go_at_call 88; fail))
      generalize W2.alloc (.cells #[.int .i64 v, .int .i64 c, .slice none 0 0, .slice none 0 0] 123) = W3 at *
      have hbz3 := hbz2.trans (al.mono hbz2.size)
      have hz2 := hb2.size
      have hzL := hL.lt
      have hT3 : Lib.Utf8Tabs 2 3 W3 := tabs_of hT (hbz3.block 2 (by omega)) (hbz3.block 3 (by omega))
      have hm3 : W3.cell? ⟨1, 0, none⟩ = some (.int .i64 m) := (hbz3.cell (p := ⟨1, 0, none⟩) (show 1 < w.heap.size by omega)).trans hm
      refine (takeAll_any W2.heap.size (w.heap.size + 1) (W2.heap.size + 1) v c s' ((ln : Int) + 1) m W3 nB (kL.below' al) ⟨by omega, by omega⟩ ⟨by omega, by omega⟩ (by omega) hc (by omega) (by omega) hT3 hm3).mono ?_
      rintro e W4 ⟨⟨fw, fB, fL, fb, fBb, fBe, fBa, fBc, fv, fc, fm⟩, h01, h02, h03, h04, h05, h06, hA1, hA2, hA3⟩
      dsimp only at h01 h02 h03 h04 h05 h06 hA1 hA2 hA3
      subst h01 h02 h03 h04 h05 h06
      have kR3 := kR.below' al
      have hC4 : Chg (fun k => w.heap.size + 1 ≤ k) fw W4 := hA3.mono (fun k _ hk => by rcases hk with hk | hk | hk <;> dsimp only at hk <;> omega)
      have kR4 := kR3.chg hC4 (by omega)
      have hbz4 : Below w.heap.size w W4 := hbz3.trans (hC4.below hbz3.size (fun k hk => by omega))
      have r0' : W4.cell? ⟨w.heap.size, 0, none⟩ = some (.int .i64 0) := kR4.cell (i := 0) (by simp) undef
      have r1' : W4.cell? ⟨w.heap.size, 1, none⟩ = some (.slice none 0 0) := kR4.cell (i := 1) (by simp) undef
      have f0' := kR4.frozen 0
      have f1' := kR4.frozen 1
      subst hA1
      by_cases hz : (takeAllW fv fc (wordsOf (rows (bs s')))).1 = 0
      · have hpl := all_closed hz
        obtain ⟨vE, vO, vs, hB4, hM4⟩ := hA2 hz
        have hPd : Hid (parse (bs s) = ⟨fv, (takeAllW fv fc (wordsOf (rows (bs s')))).2.2.ended, 0, 0⟩) := by
          show _ = _
          rw [hP]; unfold bodyOf; simp only; rw [if_pos hz]
        have hLs := hM4.close (b' := w.heap.size) (by omega)
        obtain ⟨ao, cap, hvE⟩ := hM4.shapeE
        generalize (takeAllW fv fc (wordsOf (rows (bs s')))).2.2 = st at *
        have b2 : W4.cell? ⟨W2.heap.size, 2, none⟩ = some (.slice ao st.ended.length cap) := by rw [← hvE]; exact hB4.cell (i := 2) (by simp) undef
        rw [hz, hpl]
        clear hA2 hA3 hz hpl hP
        go_wp2
        refine bodyPost_ret (res31 rfl ((kR4.set 0 _).set 1 _) rfl rfl rfl) rfl ⟨_, vs, by rw [hPd.out], ?_, (hbz4.setCell (p := ⟨w.heap.size, 0, none⟩) (Nat.le_refl _) _).setCell (p := ⟨w.heap.size, 1, none⟩) (Nat.le_refl _) _⟩
        rw [hPd.out, ← hvE]
        have hcs := ((Chg.refl (· = w.heap.size) W4).setB w.heap.size 0 rfl (.int .i64 (fv : Int))).setB w.heap.size 1 rfl vE
        refine Made.chg' hLs hcs (fun k e e' => ?_) (fun k e e' => ?_)
        · exact own_blk hM4.oe kR4 (by decide) (by rw [e, e'])
        · have := (hM4.close (b' := W2.heap.size + 1) (Nat.le_refl _)).ob_lt e
          omega
      · have hPd : Hid (parse (bs s) = Said.no (takeAllW fv fc (wordsOf (rows (bs s')))).1 (takeAllW fv fc (wordsOf (rows (bs s')))).2.1) := by
          show _ = _
          rw [hP]; unfold bodyOf; simp only; rw [if_neg hz]
        have hz' : ((takeAllW fv fc (wordsOf (rows (bs s')))).1 != 0) = true := by simp [hz]
        clear hA2 hA3 hz hP
        go_wp2
        exact bodyPost_ret (res31 rfl ((kR4.set 0 _).set 1 _) rfl rfl rfl) rfl (read_no hPd.out ((hbz4.setCell (p := ⟨w.heap.size, 0, none⟩) (Nat.le_refl _) _).setCell (p := ⟨w.heap.size, 1, none⟩) (Nat.le_refl _) _))
    · have hP := parse_head h1 he
      have hPd : Hid (parse (bs s) = Said.no (headErr (headOf (bs a))) ((ln : Int) + 1)) := by show _ = _; rw [hP, hln]
      rw [hln] at l1 hL h4
      clear hln h1
      have he' : (headErr (headOf (bs a)) != 0) = true := by simp [he]
      clear hP
      go_wp2_with (go_at_call 87; refine hd.mono ?_; clear hd; rintro e W2 ⟨rfl, hb2⟩; have kL := hL.below' hb2; have kR := k1.below' hb2; have hbz2 := hbz.trans (hb2.mono hbz.size); have m1 : W2.cell? ⟨w.heap.size + 1, 1, none⟩ = some (.int .i64 ((ln : Int) + 1)) := kL.cell (i := 1) (by simp) undef; have r0' : W2.cell? ⟨w.heap.size, 0, none⟩ = some (.int .i64 0) := kR.cell (i := 0) (by simp) undef; have r1' : W2.cell? ⟨w.heap.size, 1, none⟩ = some (.slice none 0 0) := kR.cell (i := 1) (by simp) undef; have f0' := kR.frozen 0; have f1' := kR.frozen 1)
      go_region
      all_goals go_wp2
      all_goals exact bodyPost_ret (res31 rfl ((kR.set 0 _).set 1 _).drew rfl rfl rfl) rfl (read_no hPd.out (((hbz2.setCell (p := ⟨w.heap.size, 0, none⟩) (Nat.le_refl _) _).setCell (p := ⟨w.heap.size, 1, none⟩) (Nat.le_refl _) _).drew))
end Go.Proofs.YtlodenfdcckemaaDoor

/-
  The program's Parse; the document's words.
-/

namespace Go.Proofs.YtlodenfdcckemaaDoor
open Go.RowKit Go.Shelf

set_option maxRecDepth 100000 in
set_option maxHeartbeats 1000000 in
theorem parse_any (s : ByteArray) (m : Int) (w : World) (hs : s.size ≤ 1100000) (hT : Lib.Utf8Tabs 2 3 w) (hm : w.cell? ⟨1, 0, none⟩ = some (.int .i64 m)) :
    Calls Tryd.prog 27 #[.string s] w fun e w' => Read s w e w' := by
  have h2 := size2 hT
  have n1 := blk_new w [.int .i64 0, .slice none 0 0] 31
  have hb0 := alloc_below' w (.cells #[.int .i64 0, .slice none 0 0] 31)
  have z1 : (w.alloc (.cells #[.int .i64 0, .slice none 0 0] 31)).heap.size = w.heap.size + 1 := by simp
  go_enter Tryd.func27, Tryd.ntmps27
  go_wp2_with fail
  generalize w.alloc (.cells #[.int .i64 0, .slice none 0 0] 31) = W0 at *
  refine (formula_any s m W0 hs (tabs_of hT (hb0.block 2 (by omega)) (hb0.block 3 (by omega))) ((hb0.cell (p := ⟨1, 0, none⟩) (show 1 < w.heap.size by omega)).trans hm)).mono ?_
  rintro e W1 ⟨vC, vs, rfl, hL, hb1⟩
  obtain ⟨ao, cap, hv⟩ := hL.shapeE
  have k1 := n1.below' hb1
  have r0 : W1.cell? ⟨w.heap.size, 0, none⟩ = some (.int .i64 0) := k1.cell (i := 0) (by simp) undef
  have r1 : W1.cell? ⟨w.heap.size, 1, none⟩ = some (.slice none 0 0) := k1.cell (i := 1) (by simp) undef
  have f0 := k1.frozen 0
  have f1 := k1.frozen 1
  have hb := hb0.trans (hb1.mono hb0.size)
  dsimp only at hv
  obtain ⟨P, hP⟩ : ∃ P, P = parse (bs s) := ⟨_, rfl⟩
  have HP : Hid (P = parse (bs s)) := hP
  rw [← hP] at hL hv ⊢
  clear hP
  subst hv
  go_wp2
  refine bodyPost_ret (res31 rfl ((k1.set 0 _).set 1 _) rfl rfl rfl) rfl ⟨_, vs, by rw [← HP.out], ?_, (hb.setCell (p := ⟨w.heap.size, 0, none⟩) (Nat.le_refl _) _).setCell (p := ⟨w.heap.size, 1, none⟩) (Nat.le_refl _) _⟩
  rw [← HP.out]
  have hcs := ((Chg.refl (· = w.heap.size) W1).setB w.heap.size 0 rfl (.int .i64 P.vars)).setB w.heap.size 1 rfl (.slice ao P.clauses.length cap)
  have hL' : Lists W1 w.heap.size (.slice ao P.clauses.length cap) vs P.clauses := Made.close hL (by omega)
  refine Made.chg' hL' hcs (fun k e e' => ?_) (fun k e e' => ?_)
  · exact own_blk hL.oe k1 (by decide) (by rw [e, e'])
  · have := hL.ob_lt e
    omega

/-- Where the document's walk over the bytes of a line stands. -/
def Cut (l : Bytes) (k : Nat) (cur : Bytes) (taken : List Bytes) : Prop := (k ≤ l.length ∧ fields [] l = taken ++ fields cur (l.drop k) ∧ cur.length ≤ k) ∨ (k = l.length + 1 ∧ fields [] l = taken)

theorem fields_cons (cur : Bytes) (b : UInt8) (l : Bytes) : fields cur (b :: l) = if blank b then (if cur.isEmpty then fields [] l else cur :: fields [] l) else fields (cur ++ [b]) l := rfl
theorem fields_nil (cur : Bytes) : fields cur [] = if cur.isEmpty then [] else [cur] := rfl

theorem cut_zero (l : Bytes) : Cut l 0 [] [] := Or.inl ⟨Nat.zero_le _, by simp, by simp⟩
theorem cut_more {l cur : Bytes} {k : Nat} {taken : List Bytes} {b : UInt8} (h : Cut l k cur taken) (hk : l[k]? = some b) (hb : blank b = false) : Cut l (k + 1) (cur ++ [b]) taken := by
  obtain ⟨hlt, e⟩ := List.getElem?_eq_some_iff.1 hk
  rcases h with ⟨h1, h2, h3⟩ | ⟨h1, h2⟩
  · refine Or.inl ⟨by omega, ?_, by simp; omega⟩
    rw [h2, List.drop_eq_getElem_cons hlt, e]
    simp [fields, hb]
  · omega
theorem cut_blank {l cur : Bytes} {k : Nat} {taken : List Bytes} (h : Cut l k cur taken) (hk : k ≤ l.length) (hb : ∀ b, l[k]? = some b → blank b = true) : Cut l (k + 1) [] (if cur = [] then taken else taken ++ [cur]) := by
  rcases h with ⟨h1, h2, h3⟩ | ⟨h1, h2⟩
  · by_cases hlt : k < l.length
    · have hb' := hb l[k] (List.getElem?_eq_getElem hlt)
      refine Or.inl ⟨by omega, ?_, by simp⟩
      rw [h2, List.drop_eq_getElem_cons hlt, fields_cons, if_pos hb']
      by_cases hc : cur = []
      · subst hc; simp
      · have : cur.isEmpty = false := by cases cur <;> simp at hc ⊢
        rw [if_neg hc, this]; simp
    · obtain rfl : k = l.length := by omega
      refine Or.inr ⟨rfl, ?_⟩
      rw [h2, List.drop_length, fields_nil]
      by_cases hc : cur = []
      · subst hc; simp
      · have : cur.isEmpty = false := by cases cur <;> simp at hc ⊢
        rw [if_neg hc, this]; simp
  · omega
theorem cut_len {l cur : Bytes} {k : Nat} {taken : List Bytes} (h : Cut l k cur taken) : taken.length ≤ (fields [] l).length := by
  rcases h with ⟨h1, h2, h3⟩ | ⟨h1, h2⟩
  · rw [h2]; simp
  · rw [h2]; exact Nat.le_refl _
theorem cut_end {l cur : Bytes} {k : Nat} {taken : List Bytes} (h : Cut l k cur taken) (hk : l.length < k) : fields [] l = taken := by
  rcases h with ⟨h1, h2, h3⟩ | ⟨h1, h2⟩
  · omega
  · exact h2

theorem Tryd.info9 : (Tryd.prog.info? 9).map (fun i => (i.zero, i.size, i.bytes)) = some (some (.string ByteArray.empty), 1, 16) := by kernel_rfl

abbrev strs (xs : List ByteArray) : List Value := xs.map Value.string

theorem Below.of_grown' {w0 A B : World} {base : Nat} {t : TypeId} {v : Value} {xs : List Value} (hg : A.grownBy B v.ownBlock) (ho : Own w0 base t v xs) (hb : base ≤ w0.heap.size) (hA : w0.heap.size ≤ A.heap.size) : Below base A B :=
  ⟨hg.os, hg.tape, hg.output, hg.size, fun k hk => hg.block k (by omega) (fun e => by have := (ho.lt e.symm).1; omega)⟩

def strLen (v : Value) : Nat := match v with | .string s => s.size | _ => 0

theorem bs_append (s t : ByteArray) : bs (s ++ t) = bs s ++ bs t := by
  obtain ⟨⟨a⟩⟩ := s
  obtain ⟨⟨b⟩⟩ := t
  simp [bs]

theorem bs_one {s : ByteArray} {k : Nat} {b : UInt8} (h : (bs s)[k]? = some b) : bs (s.extract k (k + 1)) = [b] := by
  rw [bs_extract]
  obtain ⟨hlt, e⟩ := List.getElem?_eq_some_iff.1 h
  rw [List.drop_eq_getElem_cons hlt, e, show k + 1 - k = 1 by omega]
  rfl

theorem remark_at {r : Bytes} {b : UInt8} {t : Bytes} (h : r = b :: t) : remark r = (b == 99) := by subst h; rfl

set_option maxRecDepth 100000 in
set_option maxHeartbeats 4000000 in
theorem words_any (s : ByteArray) (w : World) (hs : s.size ≤ 1100000) :
    Calls Tryd.prog 64 #[.string s] w fun e w' => ∃ v xs, e = .returned v ∧ Own w' w.heap.size 9 v (strs xs) ∧ xs.map bs = wordsOf (rows (bs s)) ∧ Below w.heap.size w w' := by
  have htot : Hid ((wordsOf (rows (bs s))).length ≤ 1100001) := by
    have h1 := words_count (rows (bs s))
    have h2 := bulk_rows (bs s)
    rw [← size_bs] at h2
    show _ ≤ _
    omega
  go_enter Tryd.func64, Tryd.ntmps64
  go_wp2
  go_loopw [0, 3] (fun vs vo wr => ∃ (s' : ByteArray) (xs : List ByteArray), vs = .string s' ∧ s'.size ≤ s.size ∧ Own wr w.heap.size 9 vo (strs xs) ∧ Hid (wordsOf (rows (bs s)) = xs.map bs ++ wordsOf (rows (bs s'))) ∧ Below w.heap.size w wr) (fun vs _ _ => strLen vs)
  case atStart => exact ⟨s, [], rfl, Nat.le_refl _, Own.nil _ _ _, by show _ = _; simp, Below.refl _ _⟩
  case round =>
    obtain ⟨s', xs, rfl, hle, hO, hW, hb⟩ := hrel
    have hemp := empty_bs s'
    by_cases hz : s'.size = 0
    · have he : s'.toList.isEmpty = true := by rw [hemp]; exact decide_eq_true hz
      have hbs : bs s' = [] := List.length_eq_zero_iff.1 (by rw [← size_bs]; exact hz)
      have hfin : Hid (xs.map bs = wordsOf (rows (bs s))) := by show _ = _; rw [hW.out, hbs]; simp [rows, wordsOf]
      clear hemp hbs
      go_wp2
      go_ret
      exact ⟨_, xs, rfl, hO, hfin.out, hb⟩
    · have he : s'.toList.isEmpty = false := by rw [hemp]; exact decide_eq_false hz
      have hne : bs s' ≠ [] := fun e => hz (by rw [size_bs, e]; rfl)
      have hrl : (row (bs s')).length ≤ s'.size := by rw [size_bs]; exact row_length _
      have hre : (rest (bs s')).length < s'.size := by rw [size_bs]; exact rest_length _ hne
      have hrw : Hid (wordsOf (rows (bs s')) = if remark (row (bs s')) then wordsOf (rows (rest (bs s'))) else fields [] (row (bs s')) ++ wordsOf (rows (rest (bs s')))) := by
        show _ = _
        rw [rows_eq _ hne, wordsOf_cons]
      clear hemp
      have hln := line_any s' (by omega) wr
      go_wp2_with (go_at_call 62; fail)
      refine hln.mono ?_
      clear hln
      rintro e w1 ⟨⟨a, b, rfl, ha, hbb⟩, hb1⟩
      have hO1 := hO.below' hb1
      have hbw := hb.trans (hb1.mono hb.size)
      have hasz : a.size ≤ s'.size := by rw [size_bs, ha]; exact hrl
      have hbsz : b.size < s'.size := by rw [size_bs, hbb]; exact hre
      have hrw' : Hid (wordsOf (rows (bs s')) = if remark (bs a) then wordsOf (rows (bs b)) else fields [] (bs a) ++ wordsOf (rows (bs b))) := by show _ = _; rw [hrw.out, ha, hbb]
      clear hrw ha hbb hrl hre hO hb
      have hea := empty_bs a
      have hin0 : remark (bs a) = false → wordsOf (rows (bs s)) = xs.map bs ++ (fields [] (bs a) ++ wordsOf (rows (bs b))) := by
        intro h
        rw [hW.out, hrw'.out, h]; rfl
      by_cases ha0 : a.size = 0
      · have hea' : a.toList.isEmpty = true := by rw [hea]; exact decide_eq_true ha0
        have hab : bs a = [] := List.length_eq_zero_iff.1 (by rw [← size_bs]; exact ha0)
        have hin : Hid (wordsOf (rows (bs s)) = xs.map bs ++ (fields [] (bs a) ++ wordsOf (rows (bs b)))) := hin0 (by rw [hab]; rfl)
        clear hea hab hin0
        go_wp2
        go_loopw [3, 6, 7] (fun vo vw vi wr => ∃ (k : Nat) (wv : ByteArray) (ys : List ByteArray), vi = .int .i64 k ∧ vw = .string wv ∧ k ≤ a.size + 1 ∧ wv.size ≤ k ∧ Own wr w.heap.size 9 vo (strs (xs ++ ys)) ∧ Hid (Cut (bs a) k (bs wv) (ys.map bs)) ∧ Below w.heap.size w wr) (fun _ _ vi _ => a.size + 1 - (intOf vi).toNat)
        case atStart => exact ⟨0, ⟨#[]⟩, [], rfl, rfl, by omega, Nat.zero_le _, by simpa using hO1, cut_zero _, hbw⟩
        case round =>
          clear hO1 hbw hb1
          obtain ⟨k, wv, ys, rfl, rfl, hk, hwk, hOk, hcut, hbk⟩ := hrel
          have hyl : (xs ++ ys).length ≤ 1100001 := by
            have h1 := htot.out
            rw [hin.out, List.length_append, List.length_append, List.length_map] at h1
            have h2 := cut_len hcut.out
            rw [List.length_map] at h2
            rw [List.length_append]
            omega
          have hnl : (strs (xs ++ ys)).length = (xs ++ ys).length := by simp
          by_cases hlt : k < a.size
          · exact absurd hlt (by omega)
          · by_cases hk1 : k = a.size
            · skip
              have hbl' : ∀ b, (bs a)[k]? = some b → blank b = true := by intro b hb; have := (List.getElem?_eq_some_iff.1 hb).1; rw [← size_bs] at this; omega
              have hcb := cut_blank hcut.out (by rw [← size_bs]; omega) hbl'
              have hew := empty_bs wv
              by_cases hz0 : wv.size = 0
              · have hwe : wv.toList.isEmpty = true := by rw [hew]; exact decide_eq_true hz0
                have hw0 : bs wv = [] := List.length_eq_zero_iff.1 (by rw [← size_bs]; exact hz0)
                rw [if_pos hw0] at hcb
                clear hew hw0
                go_wp2
                go_roundw
                case rel => exact ⟨k + 1, ⟨#[]⟩, ys, by go_num, rfl, by omega, Nat.zero_le _, hOk, hcb, hbk⟩
                case measure => simp [intOf] <;> omega
              · exact absurd hwk (by omega)
            · have hce := cut_end hcut.out (by rw [← size_bs]; omega)
              have hWn : Hid (wordsOf (rows (bs s)) = (xs ++ ys).map bs ++ wordsOf (rows (bs b))) := by show _ = _; rw [hin.out, hce, List.map_append, List.append_assoc]
              go_wp2
              go_roundw
              case rel => exact ⟨b, xs ++ ys, rfl, by omega, hOk, hWn, hbk⟩
              case measure => simp [strLen]; omega
      · have hea' : a.toList.isEmpty = false := by rw [hea]; exact decide_eq_false ha0
        have hat0 := bs_at a 0 (by omega)
        generalize hc0 : a[0]'(by omega) = c0 at hat0
        have hrm : remark (bs a) = (c0 == 99) := by
          cases hh : bs a with
          | nil => rw [hh] at hat0; simp at hat0
          | cons x t => rw [hh] at hat0; simp at hat0; rw [hat0]; rfl
        have hbe := byte_eq c0 99 (by decide)
        by_cases h99 : c0 = 99
        · have hx0 : ((c0.toNat : Int) == 99) = true := by rw [h99]; rfl
          have hWn : Hid (wordsOf (rows (bs s)) = xs.map bs ++ wordsOf (rows (bs b))) := by show _ = _; rw [hW.out, hrw'.out, hrm, h99]; rfl
          clear hea hat0 hrm hbe hin0
          go_wp2
          go_roundw
          case rel => exact ⟨b, xs, rfl, by omega, hO1, hWn, hbw⟩
          case measure => simp [strLen]; omega
        · have hx0 : ((c0.toNat : Int) == 99) = false := by rw [show ((99 : Int)) = ((99 : Nat) : Int) from rfl, hbe]; simpa using h99
          have hin : Hid (wordsOf (rows (bs s)) = xs.map bs ++ (fields [] (bs a) ++ wordsOf (rows (bs b)))) := hin0 (by rw [hrm]; simpa using h99)
          clear hea hat0 hrm hbe hin0
          go_wp2
          go_loopw [3, 6, 7] (fun vo vw vi wr => ∃ (k : Nat) (wv : ByteArray) (ys : List ByteArray), vi = .int .i64 k ∧ vw = .string wv ∧ k ≤ a.size + 1 ∧ wv.size ≤ k ∧ Own wr w.heap.size 9 vo (strs (xs ++ ys)) ∧ Hid (Cut (bs a) k (bs wv) (ys.map bs)) ∧ Below w.heap.size w wr) (fun _ _ vi _ => a.size + 1 - (intOf vi).toNat)
          case atStart => exact ⟨0, ⟨#[]⟩, [], rfl, rfl, by omega, Nat.zero_le _, by simpa using hO1, cut_zero _, hbw⟩
          case round =>
            clear hO1 hbw hb1
            obtain ⟨k, wv, ys, rfl, rfl, hk, hwk, hOk, hcut, hbk⟩ := hrel
            have hyl : (xs ++ ys).length ≤ 1100001 := by
              have h1 := htot.out
              rw [hin.out, List.length_append, List.length_append, List.length_map] at h1
              have h2 := cut_len hcut.out
              rw [List.length_map] at h2
              rw [List.length_append]
              omega
            have hnl : (strs (xs ++ ys)).length = (xs ++ ys).length := by simp
            by_cases hlt : k < a.size
            · have hat := bs_at a k hlt
              generalize hcc : a[k] = c at hat
              have hb32 := byte_eq c 32 (by decide)
              have hb9 := byte_eq c 9 (by decide)
              by_cases h32 : c = 32
              · have hx : ((c.toNat : Int) == 32) = true := by rw [h32]; rfl
                have hbl' : ∀ b, (bs a)[k]? = some b → blank b = true := by intro b hb; rw [hat] at hb; cases hb; rw [h32]; rfl
                clear hb32 hb9
                have hcb := cut_blank hcut.out (by rw [← size_bs]; omega) hbl'
                have hew := empty_bs wv
                by_cases hz0 : wv.size = 0
                · have hwe : wv.toList.isEmpty = true := by rw [hew]; exact decide_eq_true hz0
                  have hw0 : bs wv = [] := List.length_eq_zero_iff.1 (by rw [← size_bs]; exact hz0)
                  rw [if_pos hw0] at hcb
                  clear hew hw0
                  go_wp2
                  go_roundw
                  case rel => exact ⟨k + 1, ⟨#[]⟩, ys, by go_num, rfl, by omega, Nat.zero_le _, hOk, hcb, hbk⟩
                  case measure => simp [intOf] <;> omega
                · have hwe : wv.toList.isEmpty = false := by rw [hew]; exact decide_eq_false hz0
                  have hw0 : bs wv ≠ [] := fun e => hz0 (by rw [size_bs, e]; rfl)
                  rw [if_neg hw0] at hcb
                  clear hew hw0
                  obtain ⟨ao, cap, rfl⟩ := hOk.shape
                  have hsl : (strs (xs ++ ys)).length = (xs ++ ys).length := by simp
                  rw [hsl] at hOk ⊢
                  generalize (xs ++ ys).length = nl at *
                  clear hsl
                  go_wp2_with (at_builtin; (refine wpList_append_new (.tmp 54) (.tmp 56) 90 9 (.string ByteArray.empty) 16 Tryd.underlying90 Tryd.info9 rfl w.heap.size wr.heap.size (.slice ao nl cap) (strs (xs ++ ys)) [.string wv] 1 nl hnl rfl (by decide) (by rfl) (by rfl) (hOk.alloc _) (blk_new wr [.string wv] 9) (by intro u hu; simp at hu; rw [hu]; rfl) (by unfold maxLen; omega) (by omega) (by have := hbk.size; simp; omega) ?_; intro g gc w2 hown hgr hat2 hlt2))
                  go_roundw
                  case rel =>
                    refine ⟨k + 1, ⟨#[]⟩, ys ++ [wv], by go_num, rfl, by omega, Nat.zero_le _, ?_, by show Cut _ _ _ _; rw [List.map_append]; exact hcb, ?_⟩
                    · have e : strs (xs ++ (ys ++ [wv])) = strs (xs ++ ys) ++ [.string wv] := by simp [strs]
                      rw [e]
                      exact hown
                    · exact (hbk.alloc (by have := hbk.size; omega) _).trans (Below.of_grown' hgr hOk hbk.size (alloc_below' _ _).size)
                  case measure => simp [intOf] <;> omega
              · have hx : ((c.toNat : Int) == 32) = false := by rw [show ((32 : Int)) = ((32 : Nat) : Int) from rfl, hb32]; simpa using h32
                by_cases h9 : c = 9
                · have hy : ((c.toNat : Int) == 9) = true := by rw [h9]; rfl
                  have hbl' : ∀ b, (bs a)[k]? = some b → blank b = true := by intro b hb; rw [hat] at hb; cases hb; rw [h9]; rfl
                  clear hb32 hb9
                  have hcb := cut_blank hcut.out (by rw [← size_bs]; omega) hbl'
                  have hew := empty_bs wv
                  by_cases hz0 : wv.size = 0
                  · have hwe : wv.toList.isEmpty = true := by rw [hew]; exact decide_eq_true hz0
                    have hw0 : bs wv = [] := List.length_eq_zero_iff.1 (by rw [← size_bs]; exact hz0)
                    rw [if_pos hw0] at hcb
                    clear hew hw0
                    go_wp2
                    go_roundw
                    case rel => exact ⟨k + 1, ⟨#[]⟩, ys, by go_num, rfl, by omega, Nat.zero_le _, hOk, hcb, hbk⟩
                    case measure => simp [intOf] <;> omega
                  · have hwe : wv.toList.isEmpty = false := by rw [hew]; exact decide_eq_false hz0
                    have hw0 : bs wv ≠ [] := fun e => hz0 (by rw [size_bs, e]; rfl)
                    rw [if_neg hw0] at hcb
                    clear hew hw0
                    obtain ⟨ao, cap, rfl⟩ := hOk.shape
                    have hsl : (strs (xs ++ ys)).length = (xs ++ ys).length := by simp
                    rw [hsl] at hOk ⊢
                    generalize (xs ++ ys).length = nl at *
                    clear hsl
                    go_wp2_with (at_builtin; (refine wpList_append_new (.tmp 54) (.tmp 56) 90 9 (.string ByteArray.empty) 16 Tryd.underlying90 Tryd.info9 rfl w.heap.size wr.heap.size (.slice ao nl cap) (strs (xs ++ ys)) [.string wv] 1 nl hnl rfl (by decide) (by rfl) (by rfl) (hOk.alloc _) (blk_new wr [.string wv] 9) (by intro u hu; simp at hu; rw [hu]; rfl) (by unfold maxLen; omega) (by omega) (by have := hbk.size; simp; omega) ?_; intro g gc w2 hown hgr hat2 hlt2))
                    go_roundw
                    case rel =>
                      refine ⟨k + 1, ⟨#[]⟩, ys ++ [wv], by go_num, rfl, by omega, Nat.zero_le _, ?_, by show Cut _ _ _ _; rw [List.map_append]; exact hcb, ?_⟩
                      · have e : strs (xs ++ (ys ++ [wv])) = strs (xs ++ ys) ++ [.string wv] := by simp [strs]
                        rw [e]
                        exact hown
                      · exact (hbk.alloc (by have := hbk.size; omega) _).trans (Below.of_grown' hgr hOk hbk.size (alloc_below' _ _).size)
                    case measure => simp [intOf] <;> omega
                · have hy : ((c.toNat : Int) == 9) = false := by rw [show ((9 : Int)) = ((9 : Nat) : Int) from rfl, hb9]; simpa using h9
                  have hcm := cut_more hcut.out hat (by simp [blank, h32, h9])
                  have hone := bs_one hat
                  have happ : Hid (bs (wv ++ a.extract k (k + 1)) = bs wv ++ [c]) := by show _ = _; rw [bs_append, hone]
                  have hsz : (wv ++ a.extract k (k + 1)).size = wv.size + 1 := by rw [size_bs, happ.out, List.length_append, ← size_bs]; rfl
                  have hx2 : ((c.toNat : Int) != 32) = true := by rw [bne, hx]; rfl
                  have hy2 : ((c.toNat : Int) != 9) = true := by rw [bne, hy]; rfl
                  clear hb32 hb9 hone hx hy
                  go_wp2
                  go_roundw
                  case rel => exact ⟨k + 1, wv ++ a.extract k (k + 1), ys, by go_num, rfl, by omega, by omega, hOk, by show Cut _ _ _ _; rw [happ.out]; exact hcm, hbk⟩
                  case measure => simp [intOf] <;> omega
            · by_cases hk1 : k = a.size
              · skip
                have hbl' : ∀ b, (bs a)[k]? = some b → blank b = true := by intro b hb; have := (List.getElem?_eq_some_iff.1 hb).1; rw [← size_bs] at this; omega
                have hcb := cut_blank hcut.out (by rw [← size_bs]; omega) hbl'
                have hew := empty_bs wv
                by_cases hz0 : wv.size = 0
                · have hwe : wv.toList.isEmpty = true := by rw [hew]; exact decide_eq_true hz0
                  have hw0 : bs wv = [] := List.length_eq_zero_iff.1 (by rw [← size_bs]; exact hz0)
                  rw [if_pos hw0] at hcb
                  clear hew hw0
                  go_wp2
                  go_roundw
                  case rel => exact ⟨k + 1, ⟨#[]⟩, ys, by go_num, rfl, by omega, Nat.zero_le _, hOk, hcb, hbk⟩
                  case measure => simp [intOf] <;> omega
                · have hwe : wv.toList.isEmpty = false := by rw [hew]; exact decide_eq_false hz0
                  have hw0 : bs wv ≠ [] := fun e => hz0 (by rw [size_bs, e]; rfl)
                  rw [if_neg hw0] at hcb
                  clear hew hw0
                  obtain ⟨ao, cap, rfl⟩ := hOk.shape
                  have hsl : (strs (xs ++ ys)).length = (xs ++ ys).length := by simp
                  rw [hsl] at hOk ⊢
                  generalize (xs ++ ys).length = nl at *
                  clear hsl
                  go_wp2_with (at_builtin; (refine wpList_append_new (.tmp 54) (.tmp 56) 90 9 (.string ByteArray.empty) 16 Tryd.underlying90 Tryd.info9 rfl w.heap.size wr.heap.size (.slice ao nl cap) (strs (xs ++ ys)) [.string wv] 1 nl hnl rfl (by decide) (by rfl) (by rfl) (hOk.alloc _) (blk_new wr [.string wv] 9) (by intro u hu; simp at hu; rw [hu]; rfl) (by unfold maxLen; omega) (by omega) (by have := hbk.size; simp; omega) ?_; intro g gc w2 hown hgr hat2 hlt2))
                  go_roundw
                  case rel =>
                    refine ⟨k + 1, ⟨#[]⟩, ys ++ [wv], by go_num, rfl, by omega, Nat.zero_le _, ?_, by show Cut _ _ _ _; rw [List.map_append]; exact hcb, ?_⟩
                    · have e : strs (xs ++ (ys ++ [wv])) = strs (xs ++ ys) ++ [.string wv] := by simp [strs]
                      rw [e]
                      exact hown
                    · exact (hbk.alloc (by have := hbk.size; omega) _).trans (Below.of_grown' hgr hOk hbk.size (alloc_below' _ _).size)
                  case measure => simp [intOf] <;> omega
              · have hce := cut_end hcut.out (by rw [← size_bs]; omega)
                have hWn : Hid (wordsOf (rows (bs s)) = (xs ++ ys).map bs ++ wordsOf (rows (bs b))) := by show _ = _; rw [hin.out, hce, List.map_append, List.append_assoc]
                go_wp2
                go_roundw
                case rel => exact ⟨b, xs ++ ys, rfl, by omega, hOk, hWn, hbk⟩
                case measure => simp [strLen]; omega
end Go.Proofs.YtlodenfdcckemaaDoor
