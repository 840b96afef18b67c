/-
  The library's walk over the words of a line: its contract.
-/
import Derived.RangeFuncNested
import Derived.RangeFuncBound
import Derived.RangeFuncCalls
import Derived.RangeFuncLeaves
import Derived.Shelf.Abstract
import Derived.Shelf.RegionOpen
import Derived.OwnWalkIn
import Derived.TacticsInMore
import Derived.LoopNIn
import Derived.LoopIn
import Derived.Test.YtlodenfdcckemaaDoorH62
namespace Go.Proofs.YtlodenfdcckemaaDoor
open Go.RowKit Go.Shelf

attribute [local go_sem] Oper.semAt_some

/-- Is a sign a blank? -/
def blankR (r : Nat) : Bool := r == 32 || r == 9

set_option maxHeartbeats 400000 in
theorem parts_any (r : Nat) (w : World) : Calls Tryd.prog 107 #[.int .i32 r] w fun e w' => e = .returned (.bool (blankR r)) ∧ w' = w := by
  by_cases h1 : r = 32
  · subst h1
    go_enter Tryd.func107, Tryd.ntmps107
    go_wp2
    go_ret
    exact ⟨rfl, rfl⟩
  · have h1' : ((r : Int) == 32) = false := by simp; omega
    have hb : blankR r = ((r : Int) == 9) := by
      unfold blankR
      rw [Bool.eq_iff_iff]
      simp
      omega
    rw [hb]
    go_enter Tryd.func107, Tryd.ntmps107
    go_wp2
    go_ret
    exact ⟨rfl, rfl⟩

theorem get_bang (s : ByteArray) (j : Nat) (b : UInt8) (h : (bs s)[j]? = some b) : s.get! j = b := by
  obtain ⟨⟨l⟩⟩ := s
  simp [bs] at h
  simp [ByteArray.get!, h]

/-- A sign: a blank of one byte, or none of whose bytes is a blank. -/
theorem dec (s : ByteArray) (h0 : 0 < s.size) : 1 ≤ (Lib.decodeGo s).2 ∧ (Lib.decodeGo s).2 ≤ s.size ∧ (Lib.decodeGo s).1 ≤ 1114111 ∧
    ((blankR (Lib.decodeGo s).1 = true ∧ (Lib.decodeGo s).2 = 1 ∧ ∃ b, (bs s)[0]? = some b ∧ blank b = true) ∨ (blankR (Lib.decodeGo s).1 = false ∧ ∀ j b, j < (Lib.decodeGo s).2 → (bs s)[j]? = some b → blank b = false)) := by
  have hat := bs_at s 0 h0
  have hdec : Lib.decodeGo s = Lib.decodeN s.size (s.get! 0).toNat (s.get! 1).toNat (s.get! 2).toNat (s.get! 3).toNat := by
    unfold Lib.decodeGo
    rw [if_neg (by omega), Lib.decode_at]
    rfl
  have hb0 := get_bang s 0 _ hat
  have key : ∀ j b, (bs s)[j]? = some b → blank b = true → (s.get! j).toNat = 32 ∨ (s.get! j).toNat = 9 := by
    intro j b hj hb
    rw [get_bang s j b hj]
    simp [blank] at hb
    rcases hb with rfl | rfl
    · exact Or.inl rfl
    · exact Or.inr rfl
  have lt1 : ∀ j, (s.get! j).toNat < 256 := fun j => UInt8.toNat_lt _
  have l0 := lt1 0
  have l1 := lt1 1
  have l2 := lt1 2
  have l3 := lt1 3
  have key0 := fun b => key 0 b
  have key1 := fun b => key 1 b
  have key2 := fun b => key 2 b
  have key3 := fun b => key 3 b
  have conv : ((s.get! 0).toNat = 32 ∨ (s.get! 0).toNat = 9) → blank s[0] = true := by
    rw [hb0]
    intro h
    unfold blank
    rcases h with h | h
    · have : s[0] = 32 := UInt8.toNat_inj.1 h
      rw [this]; rfl
    · have : s[0] = 9 := UInt8.toNat_inj.1 h
      rw [this]; rfl
  rw [hdec]
  generalize (s.get! 0).toNat = b0 at *
  generalize (s.get! 1).toNat = b1 at *
  generalize (s.get! 2).toNat = b2 at *
  generalize (s.get! 3).toNat = b3 at *
  have fin : ∀ (r k : Nat), 1 ≤ k → k ≤ s.size → r ≤ 1114111 → (b0 < 128 → r = b0 ∧ k = 1) → (128 ≤ b0 → 128 ≤ r ∧ (1 < k → 128 ≤ b1) ∧ (2 < k → 128 ≤ b2) ∧ (3 < k → 128 ≤ b3) ∧ k ≤ 4) →
      1 ≤ k ∧ k ≤ s.size ∧ r ≤ 1114111 ∧ ((blankR r = true ∧ k = 1 ∧ ∃ b, (bs s)[0]? = some b ∧ blank b = true) ∨ (blankR r = false ∧ ∀ j b, j < k → (bs s)[j]? = some b → blank b = false)) := by
    intro r k h1 h2 h3 h4 h5
    refine ⟨h1, h2, h3, ?_⟩
    by_cases hlo : b0 < 128
    · obtain ⟨rfl, rfl⟩ := h4 hlo
      cases hbr : blankR r with
      | true => exact Or.inl ⟨rfl, rfl, s[0], hat, conv (by simpa [blankR] using hbr)⟩
      | false =>
        refine Or.inr ⟨rfl, fun j b hj hjb => ?_⟩
        obtain rfl : j = 0 := by omega
        cases hbb : blank b with
        | false => rfl
        | true => have := key0 b hjb hbb; simp [blankR] at hbr; omega
    · obtain ⟨g1, g2, g3, g4, g5⟩ := h5 (by omega)
      refine Or.inr ⟨by simp [blankR]; omega, fun j b hj hjb => ?_⟩
      cases hbb : blank b with
      | false => rfl
      | true =>
        exfalso
        match j, hj, hjb with
        | 0, _, hjb => have := key0 b hjb hbb; omega
        | 1, hj, hjb => have := key1 b hjb hbb; have := g2 hj; omega
        | 2, hj, hjb => have := key2 b hjb hbb; have := g3 hj; omega
        | 3, hj, hjb => have := key3 b hjb hbb; have := g4 hj; omega
        | j + 4, hj, _ => omega
  clear key key0 key1 key2 key3 conv hat hb0 hdec lt1
  unfold Lib.decodeN
  repeat' split
  all_goals (apply fin <;> first | omega | (intros; exact ⟨rfl, rfl⟩) | (simp only; omega))

theorem fields_skip (cur xs l : Bytes) (h : ∀ b ∈ xs, blank b = false) : fields cur (xs ++ l) = fields (cur ++ xs) l := by
  induction xs generalizing cur with
  | nil => simp
  | cons b xs ih =>
    rw [List.cons_append, fields, if_neg (by rw [h b (by simp)]; simp), ih _ (fun c hc => h c (by simp [hc]))]
    simp


theorem abides_below {β : Type} {B : Nat} {J : β → World → Prop} (h : AbidesFrom B J) {s : β} {w w' : World} (hs : J s w) (hb : Below w.heap.size w w') : J s w' :=
  h s w w' none hs ⟨hb.os, hb.tape, hb.output, hb.size, fun k hk _ => hb.block k hk⟩ (fun r e => by cases e)

/-- A word. -/
abbrev Wd := { x : ByteArray // x.size ≤ 4000000 ∧ bs x ≠ [] }
abbrev wbs (xs : List Wd) : List Bytes := xs.map fun x => bs x.1

/-- What the walk over the words reads. -/
def Rd (Bs Bf k : Nat) : Prop := k = Bs ∨ k = Bf ∨ k = 2 ∨ k = 3
structure Reads (Bs Bf : Nat) (s : ByteArray) (w : World) : Prop where
  line : w.cell? ⟨Bs, 0, none⟩ = some (.string s)
  fn : w.cell? ⟨Bf, 0, none⟩ = some (.func (.func 107) #[] #[])
  tabs : Lib.Utf8Tabs 2 3 w
def Kept (Bs Bf : Nat) (w w' : World) : Prop := ∀ k, Rd Bs Bf k → w'.heap[k]? = w.heap[k]?
theorem tabs_of {w w' : World} (h : Lib.Utf8Tabs 2 3 w) (h1 : w'.heap[2]? = w.heap[2]?) (h2 : w'.heap[3]? = w.heap[3]?) : Lib.Utf8Tabs 2 3 w' :=
  ⟨fun b hb => (World.cell?_of_block (w := w) h1).trans (h.1 b hb), fun i hi => ⟨(World.cell?_of_block (w := w) h2).trans (h.2 i hi).1, (World.cell?_of_block (w := w) h2).trans (h.2 i hi).2⟩⟩
theorem Reads.kept {Bs Bf : Nat} {s : ByteArray} {w w' : World} (h : Reads Bs Bf s w) (hk : Kept Bs Bf w w') : Reads Bs Bf s w' :=
  ⟨(World.cell?_of_block (w := w) (hk Bs (Or.inl rfl))).trans h.line, (World.cell?_of_block (w := w) (hk Bf (Or.inr (Or.inl rfl)))).trans h.fn, tabs_of h.tabs (hk 2 (Or.inr (Or.inr (Or.inl rfl)))) (hk 3 (Or.inr (Or.inr (Or.inr rfl))))⟩
theorem Reads.below {Bs Bf : Nat} {s : ByteArray} {w w' : World} (h : Reads Bs Bf s w) (hb : Below w.heap.size w w') : Reads Bs Bf s w' := by
  have hl : Bs < w.heap.size := World.block_lt_of_cell? _ _ h.line
  have hf : Bf < w.heap.size := World.block_lt_of_cell? _ _ h.fn
  have h1 : 2 < w.heap.size := World.block_lt_of_cell? _ _ (h.tabs.1 0 (by decide))
  have h2 : 3 < w.heap.size := World.block_lt_of_cell? _ _ (h.tabs.2 0 (by decide)).1
  refine h.kept fun k hk => hb.block k ?_
  rcases hk with rfl | rfl | rfl | rfl <;> assumption

/-- The word that is under way. -/
def curOf (l : Bytes) (start : Int) (i : Nat) : Bytes := if start < 0 then [] else (l.take i).drop start.toNat

/-- Where the walk over the words stands. -/
def Stands (l : Bytes) (start : Int) (i : Nat) (pre : List Bytes) : Prop :=
  i ≤ l.length ∧ -1 ≤ start ∧ (0 ≤ start → start < i) ∧ fields [] l = pre ++ fields (curOf l start i) (l.drop i)

theorem Stands.zero (l : Bytes) : Stands l (-1) 0 [] := ⟨by omega, by omega, by omega, by simp [curOf]⟩

theorem curOf_ne {l : Bytes} {start : Int} {i : Nat} (h0 : 0 ≤ start) (hs : start < i) (hi : i ≤ l.length) : curOf l start i ≠ [] := by
  unfold curOf
  rw [if_neg (by omega)]
  intro e
  have := congrArg List.length e
  rw [List.length_drop, List.length_take] at this
  simp at this
  omega

theorem drop_cons {l : Bytes} {i : Nat} {b : UInt8} (h : (l.drop i)[0]? = some b) : l.drop i = b :: l.drop (i + 1) ∧ i < l.length := by
  rw [List.getElem?_drop] at h
  obtain ⟨hlt, e⟩ := List.getElem?_eq_some_iff.1 h
  exact ⟨by rw [List.drop_eq_getElem_cons (by omega)]; simp at e; rw [e], by omega⟩

/-- A blank, no word under way. -/
theorem Stands.blank0 {l : Bytes} {start : Int} {i : Nat} {pre : List Bytes} {b : UInt8} (h : Stands l start i pre) (hs : start < 0) (hb : (l.drop i)[0]? = some b) (hbl : blank b = true) : Stands l start (i + 1) pre := by
  obtain ⟨h1, h2, h3, h4⟩ := h
  obtain ⟨hd, hlt⟩ := drop_cons hb
  refine ⟨by omega, h2, by omega, ?_⟩
  rw [h4, hd]
  simp [curOf, hs, fields, hbl]

/-- A blank behind a word. -/
theorem Stands.blank1 {l : Bytes} {start : Int} {i : Nat} {pre : List Bytes} {b : UInt8} (h : Stands l start i pre) (hs : 0 ≤ start) (hb : (l.drop i)[0]? = some b) (hbl : blank b = true) : Stands l (-1) (i + 1) (pre ++ [curOf l start i]) ∧ (pre ++ [curOf l start i]) <+: fields [] l := by
  obtain ⟨h1, h2, h3, h4⟩ := h
  obtain ⟨hd, hlt⟩ := drop_cons hb
  have hne := curOf_ne hs (h3 hs) h1
  have he : fields [] l = (pre ++ [curOf l start i]) ++ fields (curOf l (-1) (i + 1)) (l.drop (i + 1)) := by
    rw [h4, hd]
    generalize curOf l start i = cur at hne ⊢
    have hce : cur.isEmpty = false := by cases cur <;> simp at hne ⊢
    simp [curOf, fields, hbl, hce]
  exact ⟨⟨by omega, by omega, by omega, he⟩, ⟨_, he.symm⟩⟩

/-- A sign that is no blank. -/
theorem Stands.more {l : Bytes} {start : Int} {i k : Nat} {pre : List Bytes} (h : Stands l start i pre) (hk : 1 ≤ k) (hik : i + k ≤ l.length) (hb : ∀ j b, j < k → (l.drop i)[j]? = some b → blank b = false) :
    Stands l (if start < 0 then (i : Int) else start) (i + k) pre := by
  obtain ⟨h1, h2, h3, h4⟩ := h
  have hsp : l.drop i = (l.drop i).take k ++ l.drop (i + k) := by rw [← List.drop_drop, List.take_append_drop]
  have hall : ∀ b ∈ (l.drop i).take k, blank b = false := by
    intro b hb'
    obtain ⟨j, hj, e⟩ := List.getElem_of_mem hb'
    rw [List.length_take] at hj
    refine hb j b (by omega) ?_
    rw [← e, List.getElem_take]
    exact List.getElem?_eq_getElem _
  have hcur : curOf l (if start < 0 then (i : Int) else start) (i + k) = curOf l start i ++ (l.drop i).take k := by
    unfold curOf
    split
    · rename_i hs
      rw [if_neg (by omega)]
      simp
      rw [List.drop_take]
      congr 1
      omega
    · rename_i hs
      rw [← List.take_append_drop i (l.take (i + k))]
      have e1 : (l.take (i + k)).take i = l.take i := by rw [List.take_take]; congr 1; omega
      have e2 : (l.take (i + k)).drop i = (l.drop i).take k := by rw [List.drop_take]; congr 1; omega
      rw [e1, e2, List.drop_append_of_le_length (by rw [List.length_take]; have := h3 (by omega); omega)]
  refine ⟨hik, ?_, ?_, ?_⟩
  · split <;> omega
  · split <;> omega
  · have e : fields (curOf l start i) (l.drop i) = fields (curOf l start i ++ (l.drop i).take k) (l.drop (i + k)) := by
      conv => lhs; rw [hsp]
      exact fields_skip _ _ _ hall
    rw [h4, hcur, e]

theorem bs_extract' (s : ByteArray) (start : Int) (i : Nat) (h : 0 ≤ start) : bs (s.extract start.toNat i) = curOf (bs s) start i := by
  rw [bs_extract, curOf, if_neg (by omega), List.drop_take]

/-- The end. -/
theorem Stands.done {l : Bytes} {start : Int} {i : Nat} {pre : List Bytes} (h : Stands l start i pre) (hi : i = l.length) : (start < 0 → fields [] l = pre) ∧ (0 ≤ start → fields [] l = pre ++ [curOf l start i]) := by
  obtain ⟨h1, h2, h3, h4⟩ := h
  subst hi
  rw [List.drop_length] at h4
  refine ⟨fun hs => ?_, fun hs => ?_⟩
  · rw [h4]; simp [curOf, hs, fields]
  · have hne := curOf_ne hs (h3 hs) h1
    rw [h4]
    generalize curOf l start l.length = cur at hne ⊢
    have hce : cur.isEmpty = false := by cases cur <;> simp at hne ⊢
    simp [fields, hce]

set_option maxRecDepth 100000 in
set_option maxHeartbeats 4000000 in
theorem seq_stops (n Bs Bf : Nat) (hn : 2 ≤ n) (s : ByteArray) (hs : s.size ≤ 2000000) (w : World) (hR : Reads Bs Bf s w) :
    SeqStopsK Fence.wide n Tryd.prog 121 #[.pointer (some ⟨Bs, 0, none⟩), .pointer (some ⟨Bf, 0, none⟩)] (fun x : Wd => #[.string x.1]) (Kept Bs Bf) (fun xs => wbs xs = fields [] (bs s)) (fun pre => wbs pre <+: fields [] (bs s)) (fields [] (bs s)).length w := by
  intro l J Jx W hb hJ hJx hY h0
  have hn1 : 1 ≤ n := by omega
  have hRW := hR.below hb
  refine callsIn_of_wp Tryd.func121 rfl trivial ?_ rfl
  simp only [Tryd.ntmps121, List.size_toArray, List.length_cons, List.length_nil, Nat.reduceAdd, Nat.reduceSub, Array.replicate_succ, Array.replicate_zero, List.push_toArray, List.append_toArray, List.nil_append, List.cons_append]
  gi_wp2
  gi_loopw [4, 5] (fun vs vi wr => ∃ (start : Int) (i : Nat) (pre : List Wd), vs = .int .i64 start ∧ vi = .int .i64 i ∧ Hid (Stands (bs s) start i (wbs pre)) ∧ Reads Bs Bf s wr ∧ J pre wr) (fun _ vi _ => s.size - (intOf vi).toNat)
  case atStart => exact ⟨-1, 0, [], rfl, rfl, Stands.zero _, hRW, h0⟩
  case round =>
    obtain ⟨start, i, pre, rfl, rfl, hst, hRd, hJp⟩ := hrel
    have c1 := hRd.line
    have c2 := hRd.fn
    have hT := hRd.tabs
    have hst' := hst.out
    obtain ⟨hS1, hS2, hS3, -⟩ := hst'
    by_cases hlt : i < s.size
    · have hx : bs (s.extract i s.size) = (bs s).drop i := by rw [bs_extract, size_bs, List.take_of_length_le (by simp)]
      have hxs : (s.extract i s.size).size = s.size - i := by rw [size_bs, hx, List.length_drop, size_bs]
      obtain ⟨d1, d2, d3, d4⟩ := dec (s.extract i s.size) (by omega)
      obtain ⟨r, k, hrk⟩ : ∃ r k, Lib.decodeGo (s.extract i s.size) = (r, k) := ⟨_, _, rfl⟩
      rw [hrk, hx] at d4
      rw [hrk] at d1 d2 d3
      rw [hxs] at d2
      simp only at d1 d2 d3 d4
      rcases d4 with ⟨hbl, rfl, b, hb0, hbb⟩ | ⟨hbl, hnb⟩
      · by_cases hs0 : start < 0
        · have hnx := hst.out.blank0 hs0 hb0 hbb
          gi_wp2_with (first
            | (refine ⟨trivial, ?_⟩; gi_at_call 122; refine (callsIn_wide.2 (Tryd.utf8_DecodeRuneInString _ _ hT)).mono ?_; rintro e w1 ⟨rfl, hb1⟩; rw [hrk]; have hR1 := hRd.below hb1; have hJ1 := abides_below hJ hJp hb1; have e1 := hR1.line; have e2 := hR1.fn)
            | (refine ⟨trivial, ?_⟩; gi_at_call 107; refine (callsIn_wide.2 (parts_any _ _)).mono ?_; rintro e w' ⟨rfl, rfl⟩; rw [hbl]))
          go_roundw
          case rel => exact ⟨start, i + 1, pre, rfl, by go_num, hnx, hR1, hJ1⟩
          case measure => simp [intOf]; omega
        · obtain ⟨hnx, hpre⟩ := hst.out.blank1 (by omega) hb0 hbb
          have hsl := hS3 (by omega)
          have hcx := bs_extract' s start i (by omega)
          have hxx : (s.extract start.toNat i).size ≤ 4000000 ∧ bs (s.extract start.toNat i) ≠ [] := by
            refine ⟨?_, by rw [hcx]; exact curOf_ne (by omega) hsl hS1⟩
            rw [size_bs, bs_extract, List.length_take, List.length_drop, ← size_bs]; omega
          have hlen : pre.length < (fields [] (bs s)).length := by
            have := hpre.length_le
            simp at this
            omega
          have hnx' : Hid (Stands (bs s) (-1) (i + 1) (wbs (pre ++ [⟨s.extract start.toNat i, hxx⟩]))) := by
            show Stands _ _ _ _
            simp only [wbs, List.map_append, List.map_cons, List.map_nil]
            rw [hcx]
            exact hnx
          have hpre' : Hid (wbs (pre ++ [⟨s.extract start.toNat i, hxx⟩]) <+: fields [] (bs s)) := by
            show _ <+: _
            simp only [wbs, List.map_append, List.map_cons, List.map_nil]
            rw [hcx]
            exact hpre
          clear hnx hpre hcx
          gi_wp2_with (first
            | (refine ⟨trivial, ?_⟩; gi_at_call 122; refine (callsIn_wide.2 (Tryd.utf8_DecodeRuneInString _ _ hT)).mono ?_; rintro e w1 ⟨rfl, hb1⟩; rw [hrk]; have hR1 := hRd.below hb1; have hJ1 := abides_below hJ hJp hb1; have e1 := hR1.line; have e2 := hR1.fn; obtain ⟨fn, tmps, assign, body, hy, hRy⟩ := hY pre ⟨s.extract start.toNat i, hxx⟩ w1 hJ1 hlen; dsimp only at hy)
            | (refine ⟨trivial, ?_⟩; gi_at_call 107; refine (callsIn_wide.2 (parts_any _ _)).mono ?_; rintro e w' ⟨rfl, rfl⟩; rw [hbl]))
          refine hRy.mono ?_
          rintro e W' (⟨rfl, hJ', hk⟩ | ⟨rfl, hJx'⟩)
          · gi_wp2
            go_roundw
            case rel => exact ⟨-1, i + 1, _, rfl, by go_num, hnx', hR1.kept hk, hJ'⟩
            case measure => simp [intOf]; omega
          · gi_wp2
            refine bodyPost_ret (results_none rfl _ _ _) rfl ?_
            exact ⟨⟨_, rfl⟩, .inr ⟨_, hpre'.out, hJx'⟩⟩
      · have hnx := hst.out.more d1 (by rw [← size_bs]; omega) hnb
        by_cases hs0 : start < 0
        · rw [if_pos hs0] at hnx
          gi_wp2_with (first
            | (refine ⟨trivial, ?_⟩; gi_at_call 122; refine (callsIn_wide.2 (Tryd.utf8_DecodeRuneInString _ _ hT)).mono ?_; rintro e w1 ⟨rfl, hb1⟩; rw [hrk]; have hR1 := hRd.below hb1; have hJ1 := abides_below hJ hJp hb1; have e1 := hR1.line; have e2 := hR1.fn)
            | (refine ⟨trivial, ?_⟩; gi_at_call 107; refine (callsIn_wide.2 (parts_any _ _)).mono ?_; rintro e w' ⟨rfl, rfl⟩; rw [hbl]))
          go_roundw
          case rel => exact ⟨i, i + k, pre, rfl, by go_num, hnx, hR1, hJ1⟩
          case measure => simp [intOf]; omega
        · rw [if_neg hs0] at hnx
          gi_wp2_with (first
            | (refine ⟨trivial, ?_⟩; gi_at_call 122; refine (callsIn_wide.2 (Tryd.utf8_DecodeRuneInString _ _ hT)).mono ?_; rintro e w1 ⟨rfl, hb1⟩; rw [hrk]; have hR1 := hRd.below hb1; have hJ1 := abides_below hJ hJp hb1; have e1 := hR1.line; have e2 := hR1.fn)
            | (refine ⟨trivial, ?_⟩; gi_at_call 107; refine (callsIn_wide.2 (parts_any _ _)).mono ?_; rintro e w' ⟨rfl, rfl⟩; rw [hbl]))
          go_roundw
          case rel => exact ⟨start, i + k, pre, rfl, by go_num, hnx, hR1, hJ1⟩
          case measure => simp [intOf]; omega
    · have hil : i = (bs s).length := by rw [← size_bs]; rw [← size_bs] at hS1; omega
      obtain ⟨hdn, hds⟩ := hst.out.done hil
      by_cases hs0 : start < 0
      · have hdn' : Hid (fields [] (bs s) = wbs pre) := hdn hs0
        clear hdn hds
        gi_wp2
        go_end0
        exact ⟨⟨_, rfl⟩, .inl ⟨pre, hdn'.out.symm, hJp⟩⟩
      · have hsl := hS3 (by omega)
        have hcx := bs_extract' s start i (by omega)
        have hxx : (s.extract start.toNat i).size ≤ 4000000 ∧ bs (s.extract start.toNat i) ≠ [] := by
          refine ⟨?_, by rw [hcx]; exact curOf_ne (by omega) hsl hS1⟩
          rw [size_bs, bs_extract, List.length_take, List.length_drop, ← size_bs]; omega
        have hds' : Hid (fields [] (bs s) = wbs (pre ++ [⟨s.extract start.toNat i, hxx⟩])) := by
          show _ = _
          simp only [wbs, List.map_append, List.map_cons, List.map_nil]
          rw [hcx]
          exact hds (by omega)
        have hlen : pre.length < (fields [] (bs s)).length := by rw [hds'.out]; simp
        obtain ⟨fn, tmps, assign, body, hy, hRy⟩ := hY pre ⟨s.extract start.toNat i, hxx⟩ wr hJp hlen
        dsimp only at hy
        clear hdn hds hcx
        have hi' : i = s.size := by rw [size_bs]; exact hil
        rw [hi'] at hy
        gi_wp2
        refine hRy.mono ?_
        rintro e W' (⟨rfl, hJ', hk⟩ | ⟨rfl, hJx'⟩)
        · gi_wp2
          go_end0
          exact ⟨⟨_, rfl⟩, .inl ⟨_, hds'.out.symm, hJ'⟩⟩
        · gi_wp2
          go_end0
          exact ⟨⟨_, rfl⟩, .inr ⟨_, by rw [hds'.out]; exact List.prefix_refl _, hJx'⟩⟩
end Go.Proofs.YtlodenfdcckemaaDoor
