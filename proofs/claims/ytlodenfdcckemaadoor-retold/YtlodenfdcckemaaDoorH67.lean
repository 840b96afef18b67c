/-
  The program's Parse; the document's words.
-/
import Derived.Test.YtlodenfdcckemaaDoorH66
namespace Go.Proofs.YtlodenfdcckemaaDoor
open Go.RowKit Go.Shelf

set_option maxRecDepth 100000 in
set_option maxHeartbeats 1000000 in
theorem parse_any (s : ByteArray) (m : Int) (w : World) (hs : s.size ≤ 1100000) (hT : Lib.Utf8Tabs 2 3 w) (hm : w.cell? ⟨1, 0, none⟩ = some (.int .i64 m)) :
    Calls Tryd.prog 27 #[.string s] w fun e w' => Read s w e w' := by
  have h2 := size2 hT
  have n1 := blk_new w [.int .i64 0, .slice none 0 0] 31
  have hb0 := alloc_below' w (.cells #[.int .i64 0, .slice none 0 0] 31)
  have z1 : (w.alloc (.cells #[.int .i64 0, .slice none 0 0] 31)).heap.size = w.heap.size + 1 := by simp
  go_enter Tryd.func27, Tryd.ntmps27
  go_wp2_with fail
  generalize w.alloc (.cells #[.int .i64 0, .slice none 0 0] 31) = W0 at *
  refine (formula_any s m W0 hs (tabs_of hT (hb0.block 2 (by omega)) (hb0.block 3 (by omega))) ((hb0.cell (p := ⟨1, 0, none⟩) (show 1 < w.heap.size by omega)).trans hm)).mono ?_
  rintro e W1 ⟨vC, vs, rfl, hL, hb1⟩
  obtain ⟨ao, cap, hv⟩ := hL.shapeE
  have k1 := n1.below' hb1
  have r0 : W1.cell? ⟨w.heap.size, 0, none⟩ = some (.int .i64 0) := k1.cell (i := 0) (by simp) undef
  have r1 : W1.cell? ⟨w.heap.size, 1, none⟩ = some (.slice none 0 0) := k1.cell (i := 1) (by simp) undef
  have f0 := k1.frozen 0
  have f1 := k1.frozen 1
  have hb := hb0.trans (hb1.mono hb0.size)
  dsimp only at hv
  obtain ⟨P, hP⟩ : ∃ P, P = parse (bs s) := ⟨_, rfl⟩
  have HP : Hid (P = parse (bs s)) := hP
  rw [← hP] at hL hv ⊢
  clear hP
  subst hv
  go_wp2
  refine bodyPost_ret (res31 rfl ((k1.set 0 _).set 1 _) rfl rfl rfl) rfl ⟨_, vs, by rw [← HP.out], ?_, (hb.setCell (p := ⟨w.heap.size, 0, none⟩) (Nat.le_refl _) _).setCell (p := ⟨w.heap.size, 1, none⟩) (Nat.le_refl _) _⟩
  rw [← HP.out]
  have hcs := ((Chg.refl (· = w.heap.size) W1).setB w.heap.size 0 rfl (.int .i64 P.vars)).setB w.heap.size 1 rfl (.slice ao P.clauses.length cap)
  have hL' : Lists W1 w.heap.size (.slice ao P.clauses.length cap) vs P.clauses := Made.close hL (by omega)
  refine Made.chg' hL' hcs (fun k e e' => ?_) (fun k e e' => ?_)
  · exact own_blk hL.oe k1 (by decide) (by rw [e, e'])
  · have := hL.ob_lt e
    omega

/-- Where the document's walk over the bytes of a line stands. -/
def Cut (l : Bytes) (k : Nat) (cur : Bytes) (taken : List Bytes) : Prop := (k ≤ l.length ∧ fields [] l = taken ++ fields cur (l.drop k) ∧ cur.length ≤ k) ∨ (k = l.length + 1 ∧ fields [] l = taken)

theorem fields_cons (cur : Bytes) (b : UInt8) (l : Bytes) : fields cur (b :: l) = if blank b then (if cur.isEmpty then fields [] l else cur :: fields [] l) else fields (cur ++ [b]) l := rfl
theorem fields_nil (cur : Bytes) : fields cur [] = if cur.isEmpty then [] else [cur] := rfl

theorem cut_zero (l : Bytes) : Cut l 0 [] [] := Or.inl ⟨Nat.zero_le _, by simp, by simp⟩
theorem cut_more {l cur : Bytes} {k : Nat} {taken : List Bytes} {b : UInt8} (h : Cut l k cur taken) (hk : l[k]? = some b) (hb : blank b = false) : Cut l (k + 1) (cur ++ [b]) taken := by
  obtain ⟨hlt, e⟩ := List.getElem?_eq_some_iff.1 hk
  rcases h with ⟨h1, h2, h3⟩ | ⟨h1, h2⟩
  · refine Or.inl ⟨by omega, ?_, by simp; omega⟩
    rw [h2, List.drop_eq_getElem_cons hlt, e]
    simp [fields, hb]
  · omega
theorem cut_blank {l cur : Bytes} {k : Nat} {taken : List Bytes} (h : Cut l k cur taken) (hk : k ≤ l.length) (hb : ∀ b, l[k]? = some b → blank b = true) : Cut l (k + 1) [] (if cur = [] then taken else taken ++ [cur]) := by
  rcases h with ⟨h1, h2, h3⟩ | ⟨h1, h2⟩
  · by_cases hlt : k < l.length
    · have hb' := hb l[k] (List.getElem?_eq_getElem hlt)
      refine Or.inl ⟨by omega, ?_, by simp⟩
      rw [h2, List.drop_eq_getElem_cons hlt, fields_cons, if_pos hb']
      by_cases hc : cur = []
      · subst hc; simp
      · have : cur.isEmpty = false := by cases cur <;> simp at hc ⊢
        rw [if_neg hc, this]; simp
    · obtain rfl : k = l.length := by omega
      refine Or.inr ⟨rfl, ?_⟩
      rw [h2, List.drop_length, fields_nil]
      by_cases hc : cur = []
      · subst hc; simp
      · have : cur.isEmpty = false := by cases cur <;> simp at hc ⊢
        rw [if_neg hc, this]; simp
  · omega
theorem cut_len {l cur : Bytes} {k : Nat} {taken : List Bytes} (h : Cut l k cur taken) : taken.length ≤ (fields [] l).length := by
  rcases h with ⟨h1, h2, h3⟩ | ⟨h1, h2⟩
  · rw [h2]; simp
  · rw [h2]; exact Nat.le_refl _
theorem cut_end {l cur : Bytes} {k : Nat} {taken : List Bytes} (h : Cut l k cur taken) (hk : l.length < k) : fields [] l = taken := by
  rcases h with ⟨h1, h2, h3⟩ | ⟨h1, h2⟩
  · omega
  · exact h2

theorem Tryd.info9 : (Tryd.prog.info? 9).map (fun i => (i.zero, i.size, i.bytes)) = some (some (.string ByteArray.empty), 1, 16) := by kernel_rfl

abbrev strs (xs : List ByteArray) : List Value := xs.map Value.string

theorem Below.of_grown' {w0 A B : World} {base : Nat} {t : TypeId} {v : Value} {xs : List Value} (hg : A.grownBy B v.ownBlock) (ho : Own w0 base t v xs) (hb : base ≤ w0.heap.size) (hA : w0.heap.size ≤ A.heap.size) : Below base A B :=
  ⟨hg.os, hg.tape, hg.output, hg.size, fun k hk => hg.block k (by omega) (fun e => by have := (ho.lt e.symm).1; omega)⟩

def strLen (v : Value) : Nat := match v with | .string s => s.size | _ => 0

theorem bs_append (s t : ByteArray) : bs (s ++ t) = bs s ++ bs t := by
  obtain ⟨⟨a⟩⟩ := s
  obtain ⟨⟨b⟩⟩ := t
  simp [bs]

theorem bs_one {s : ByteArray} {k : Nat} {b : UInt8} (h : (bs s)[k]? = some b) : bs (s.extract k (k + 1)) = [b] := by
  rw [bs_extract]
  obtain ⟨hlt, e⟩ := List.getElem?_eq_some_iff.1 h
  rw [List.drop_eq_getElem_cons hlt, e, show k + 1 - k = 1 by omega]
  rfl

theorem remark_at {r : Bytes} {b : UInt8} {t : Bytes} (h : r = b :: t) : remark r = (b == 99) := by subst h; rfl

set_option maxRecDepth 100000 in
set_option maxHeartbeats 4000000 in
theorem words_any (s : ByteArray) (w : World) (hs : s.size ≤ 1100000) :
    Calls Tryd.prog 64 #[.string s] w fun e w' => ∃ v xs, e = .returned v ∧ Own w' w.heap.size 9 v (strs xs) ∧ xs.map bs = wordsOf (rows (bs s)) ∧ Below w.heap.size w w' := by
  have htot : Hid ((wordsOf (rows (bs s))).length ≤ 1100001) := by
    have h1 := words_count (rows (bs s))
    have h2 := bulk_rows (bs s)
    rw [← size_bs] at h2
    show _ ≤ _
    omega
  go_enter Tryd.func64, Tryd.ntmps64
  go_wp2
  go_loopw [0, 3] (fun vs vo wr => ∃ (s' : ByteArray) (xs : List ByteArray), vs = .string s' ∧ s'.size ≤ s.size ∧ Own wr w.heap.size 9 vo (strs xs) ∧ Hid (wordsOf (rows (bs s)) = xs.map bs ++ wordsOf (rows (bs s'))) ∧ Below w.heap.size w wr) (fun vs _ _ => strLen vs)
  case atStart => exact ⟨s, [], rfl, Nat.le_refl _, Own.nil _ _ _, by show _ = _; simp, Below.refl _ _⟩
  case round =>
    obtain ⟨s', xs, rfl, hle, hO, hW, hb⟩ := hrel
    have hemp := empty_bs s'
    by_cases hz : s'.size = 0
    · have he : s'.toList.isEmpty = true := by rw [hemp]; exact decide_eq_true hz
      have hbs : bs s' = [] := List.length_eq_zero_iff.1 (by rw [← size_bs]; exact hz)
      have hfin : Hid (xs.map bs = wordsOf (rows (bs s))) := by show _ = _; rw [hW.out, hbs]; simp [rows, wordsOf]
      clear hemp hbs
      go_wp2
      go_ret
      exact ⟨_, xs, rfl, hO, hfin.out, hb⟩
    · have he : s'.toList.isEmpty = false := by rw [hemp]; exact decide_eq_false hz
      have hne : bs s' ≠ [] := fun e => hz (by rw [size_bs, e]; rfl)
      have hrl : (row (bs s')).length ≤ s'.size := by rw [size_bs]; exact row_length _
      have hre : (rest (bs s')).length < s'.size := by rw [size_bs]; exact rest_length _ hne
      have hrw : Hid (wordsOf (rows (bs s')) = if remark (row (bs s')) then wordsOf (rows (rest (bs s'))) else fields [] (row (bs s')) ++ wordsOf (rows (rest (bs s')))) := by
        show _ = _
        rw [rows_eq _ hne, wordsOf_cons]
      clear hemp
      have hln := line_any s' (by omega) wr
      go_wp2_with (go_at_call 62; fail)
      refine hln.mono ?_
      clear hln
      rintro e w1 ⟨⟨a, b, rfl, ha, hbb⟩, hb1⟩
      have hO1 := hO.below' hb1
      have hbw := hb.trans (hb1.mono hb.size)
      have hasz : a.size ≤ s'.size := by rw [size_bs, ha]; exact hrl
      have hbsz : b.size < s'.size := by rw [size_bs, hbb]; exact hre
      have hrw' : Hid (wordsOf (rows (bs s')) = if remark (bs a) then wordsOf (rows (bs b)) else fields [] (bs a) ++ wordsOf (rows (bs b))) := by show _ = _; rw [hrw.out, ha, hbb]
      clear hrw ha hbb hrl hre hO hb
      have hea := empty_bs a
      have hin0 : remark (bs a) = false → wordsOf (rows (bs s)) = xs.map bs ++ (fields [] (bs a) ++ wordsOf (rows (bs b))) := by
        intro h
        rw [hW.out, hrw'.out, h]; rfl
      by_cases ha0 : a.size = 0
      · have hea' : a.toList.isEmpty = true := by rw [hea]; exact decide_eq_true ha0
        have hab : bs a = [] := List.length_eq_zero_iff.1 (by rw [← size_bs]; exact ha0)
        have hin : Hid (wordsOf (rows (bs s)) = xs.map bs ++ (fields [] (bs a) ++ wordsOf (rows (bs b)))) := hin0 (by rw [hab]; rfl)
        clear hea hab hin0
        go_wp2
        go_loopw [3, 6, 7] (fun vo vw vi wr => ∃ (k : Nat) (wv : ByteArray) (ys : List ByteArray), vi = .int .i64 k ∧ vw = .string wv ∧ k ≤ a.size + 1 ∧ wv.size ≤ k ∧ Own wr w.heap.size 9 vo (strs (xs ++ ys)) ∧ Hid (Cut (bs a) k (bs wv) (ys.map bs)) ∧ Below w.heap.size w wr) (fun _ _ vi _ => a.size + 1 - (intOf vi).toNat)
        case atStart => exact ⟨0, ⟨#[]⟩, [], rfl, rfl, by omega, Nat.zero_le _, by simpa using hO1, cut_zero _, hbw⟩
        case round =>
          clear hO1 hbw hb1
          obtain ⟨k, wv, ys, rfl, rfl, hk, hwk, hOk, hcut, hbk⟩ := hrel
          have hyl : (xs ++ ys).length ≤ 1100001 := by
            have h1 := htot.out
            rw [hin.out, List.length_append, List.length_append, List.length_map] at h1
            have h2 := cut_len hcut.out
            rw [List.length_map] at h2
            rw [List.length_append]
            omega
          have hnl : (strs (xs ++ ys)).length = (xs ++ ys).length := by simp
          by_cases hlt : k < a.size
          · exact absurd hlt (by omega)
          · by_cases hk1 : k = a.size
            · skip
              have hbl' : ∀ b, (bs a)[k]? = some b → blank b = true := by intro b hb; have := (List.getElem?_eq_some_iff.1 hb).1; rw [← size_bs] at this; omega
              have hcb := cut_blank hcut.out (by rw [← size_bs]; omega) hbl'
              have hew := empty_bs wv
              by_cases hz0 : wv.size = 0
              · have hwe : wv.toList.isEmpty = true := by rw [hew]; exact decide_eq_true hz0
                have hw0 : bs wv = [] := List.length_eq_zero_iff.1 (by rw [← size_bs]; exact hz0)
                rw [if_pos hw0] at hcb
                clear hew hw0
                go_wp2
                go_roundw
                case rel => exact ⟨k + 1, ⟨#[]⟩, ys, by go_num, rfl, by omega, Nat.zero_le _, hOk, hcb, hbk⟩
                case measure => simp [intOf] <;> omega
              · exact absurd hwk (by omega)
            · have hce := cut_end hcut.out (by rw [← size_bs]; omega)
              have hWn : Hid (wordsOf (rows (bs s)) = (xs ++ ys).map bs ++ wordsOf (rows (bs b))) := by show _ = _; rw [hin.out, hce, List.map_append, List.append_assoc]
              go_wp2
              go_roundw
              case rel => exact ⟨b, xs ++ ys, rfl, by omega, hOk, hWn, hbk⟩
              case measure => simp [strLen]; omega
      · have hea' : a.toList.isEmpty = false := by rw [hea]; exact decide_eq_false ha0
        have hat0 := bs_at a 0 (by omega)
        generalize hc0 : a[0]'(by omega) = c0 at hat0
        have hrm : remark (bs a) = (c0 == 99) := by
          cases hh : bs a with
          | nil => rw [hh] at hat0; simp at hat0
          | cons x t => rw [hh] at hat0; simp at hat0; rw [hat0]; rfl
        have hbe := byte_eq c0 99 (by decide)
        by_cases h99 : c0 = 99
        · have hx0 : ((c0.toNat : Int) == 99) = true := by rw [h99]; rfl
          have hWn : Hid (wordsOf (rows (bs s)) = xs.map bs ++ wordsOf (rows (bs b))) := by show _ = _; rw [hW.out, hrw'.out, hrm, h99]; rfl
          clear hea hat0 hrm hbe hin0
          go_wp2
          go_roundw
          case rel => exact ⟨b, xs, rfl, by omega, hO1, hWn, hbw⟩
          case measure => simp [strLen]; omega
        · have hx0 : ((c0.toNat : Int) == 99) = false := by rw [show ((99 : Int)) = ((99 : Nat) : Int) from rfl, hbe]; simpa using h99
          have hin : Hid (wordsOf (rows (bs s)) = xs.map bs ++ (fields [] (bs a) ++ wordsOf (rows (bs b)))) := hin0 (by rw [hrm]; simpa using h99)
          clear hea hat0 hrm hbe hin0
          go_wp2
          go_loopw [3, 6, 7] (fun vo vw vi wr => ∃ (k : Nat) (wv : ByteArray) (ys : List ByteArray), vi = .int .i64 k ∧ vw = .string wv ∧ k ≤ a.size + 1 ∧ wv.size ≤ k ∧ Own wr w.heap.size 9 vo (strs (xs ++ ys)) ∧ Hid (Cut (bs a) k (bs wv) (ys.map bs)) ∧ Below w.heap.size w wr) (fun _ _ vi _ => a.size + 1 - (intOf vi).toNat)
          case atStart => exact ⟨0, ⟨#[]⟩, [], rfl, rfl, by omega, Nat.zero_le _, by simpa using hO1, cut_zero _, hbw⟩
          case round =>
            clear hO1 hbw hb1
            obtain ⟨k, wv, ys, rfl, rfl, hk, hwk, hOk, hcut, hbk⟩ := hrel
            have hyl : (xs ++ ys).length ≤ 1100001 := by
              have h1 := htot.out
              rw [hin.out, List.length_append, List.length_append, List.length_map] at h1
              have h2 := cut_len hcut.out
              rw [List.length_map] at h2
              rw [List.length_append]
              omega
            have hnl : (strs (xs ++ ys)).length = (xs ++ ys).length := by simp
            by_cases hlt : k < a.size
            · have hat := bs_at a k hlt
              generalize hcc : a[k] = c at hat
              have hb32 := byte_eq c 32 (by decide)
              have hb9 := byte_eq c 9 (by decide)
              by_cases h32 : c = 32
              · have hx : ((c.toNat : Int) == 32) = true := by rw [h32]; rfl
                have hbl' : ∀ b, (bs a)[k]? = some b → blank b = true := by intro b hb; rw [hat] at hb; cases hb; rw [h32]; rfl
                clear hb32 hb9
                have hcb := cut_blank hcut.out (by rw [← size_bs]; omega) hbl'
                have hew := empty_bs wv
                by_cases hz0 : wv.size = 0
                · have hwe : wv.toList.isEmpty = true := by rw [hew]; exact decide_eq_true hz0
                  have hw0 : bs wv = [] := List.length_eq_zero_iff.1 (by rw [← size_bs]; exact hz0)
                  rw [if_pos hw0] at hcb
                  clear hew hw0
                  go_wp2
                  go_roundw
                  case rel => exact ⟨k + 1, ⟨#[]⟩, ys, by go_num, rfl, by omega, Nat.zero_le _, hOk, hcb, hbk⟩
                  case measure => simp [intOf] <;> omega
                · have hwe : wv.toList.isEmpty = false := by rw [hew]; exact decide_eq_false hz0
                  have hw0 : bs wv ≠ [] := fun e => hz0 (by rw [size_bs, e]; rfl)
                  rw [if_neg hw0] at hcb
                  clear hew hw0
                  obtain ⟨ao, cap, rfl⟩ := hOk.shape
                  have hsl : (strs (xs ++ ys)).length = (xs ++ ys).length := by simp
                  rw [hsl] at hOk ⊢
                  generalize (xs ++ ys).length = nl at *
                  clear hsl
                  go_wp2_with (at_builtin; (refine wpList_append_new (.tmp 54) (.tmp 56) 90 9 (.string ByteArray.empty) 16 Tryd.underlying90 Tryd.info9 rfl w.heap.size wr.heap.size (.slice ao nl cap) (strs (xs ++ ys)) [.string wv] 1 nl hnl rfl (by decide) (by rfl) (by rfl) (hOk.alloc _) (blk_new wr [.string wv] 9) (by intro u hu; simp at hu; rw [hu]; rfl) (by unfold maxLen; omega) (by omega) (by have := hbk.size; simp; omega) ?_; intro g gc w2 hown hgr hat2 hlt2))
                  go_roundw
                  case rel =>
                    refine ⟨k + 1, ⟨#[]⟩, ys ++ [wv], by go_num, rfl, by omega, Nat.zero_le _, ?_, by show Cut _ _ _ _; rw [List.map_append]; exact hcb, ?_⟩
                    · have e : strs (xs ++ (ys ++ [wv])) = strs (xs ++ ys) ++ [.string wv] := by simp [strs]
                      rw [e]
                      exact hown
                    · exact (hbk.alloc (by have := hbk.size; omega) _).trans (Below.of_grown' hgr hOk hbk.size (alloc_below' _ _).size)
                  case measure => simp [intOf] <;> omega
              · have hx : ((c.toNat : Int) == 32) = false := by rw [show ((32 : Int)) = ((32 : Nat) : Int) from rfl, hb32]; simpa using h32
                by_cases h9 : c = 9
                · have hy : ((c.toNat : Int) == 9) = true := by rw [h9]; rfl
                  have hbl' : ∀ b, (bs a)[k]? = some b → blank b = true := by intro b hb; rw [hat] at hb; cases hb; rw [h9]; rfl
                  clear hb32 hb9
                  have hcb := cut_blank hcut.out (by rw [← size_bs]; omega) hbl'
                  have hew := empty_bs wv
                  by_cases hz0 : wv.size = 0
                  · have hwe : wv.toList.isEmpty = true := by rw [hew]; exact decide_eq_true hz0
                    have hw0 : bs wv = [] := List.length_eq_zero_iff.1 (by rw [← size_bs]; exact hz0)
                    rw [if_pos hw0] at hcb
                    clear hew hw0
                    go_wp2
                    go_roundw
                    case rel => exact ⟨k + 1, ⟨#[]⟩, ys, by go_num, rfl, by omega, Nat.zero_le _, hOk, hcb, hbk⟩
                    case measure => simp [intOf] <;> omega
                  · have hwe : wv.toList.isEmpty = false := by rw [hew]; exact decide_eq_false hz0
                    have hw0 : bs wv ≠ [] := fun e => hz0 (by rw [size_bs, e]; rfl)
                    rw [if_neg hw0] at hcb
                    clear hew hw0
                    obtain ⟨ao, cap, rfl⟩ := hOk.shape
                    have hsl : (strs (xs ++ ys)).length = (xs ++ ys).length := by simp
                    rw [hsl] at hOk ⊢
                    generalize (xs ++ ys).length = nl at *
                    clear hsl
                    go_wp2_with (at_builtin; (refine wpList_append_new (.tmp 54) (.tmp 56) 90 9 (.string ByteArray.empty) 16 Tryd.underlying90 Tryd.info9 rfl w.heap.size wr.heap.size (.slice ao nl cap) (strs (xs ++ ys)) [.string wv] 1 nl hnl rfl (by decide) (by rfl) (by rfl) (hOk.alloc _) (blk_new wr [.string wv] 9) (by intro u hu; simp at hu; rw [hu]; rfl) (by unfold maxLen; omega) (by omega) (by have := hbk.size; simp; omega) ?_; intro g gc w2 hown hgr hat2 hlt2))
                    go_roundw
                    case rel =>
                      refine ⟨k + 1, ⟨#[]⟩, ys ++ [wv], by go_num, rfl, by omega, Nat.zero_le _, ?_, by show Cut _ _ _ _; rw [List.map_append]; exact hcb, ?_⟩
                      · have e : strs (xs ++ (ys ++ [wv])) = strs (xs ++ ys) ++ [.string wv] := by simp [strs]
                        rw [e]
                        exact hown
                      · exact (hbk.alloc (by have := hbk.size; omega) _).trans (Below.of_grown' hgr hOk hbk.size (alloc_below' _ _).size)
                    case measure => simp [intOf] <;> omega
                · have hy : ((c.toNat : Int) == 9) = false := by rw [show ((9 : Int)) = ((9 : Nat) : Int) from rfl, hb9]; simpa using h9
                  have hcm := cut_more hcut.out hat (by simp [blank, h32, h9])
                  have hone := bs_one hat
                  have happ : Hid (bs (wv ++ a.extract k (k + 1)) = bs wv ++ [c]) := by show _ = _; rw [bs_append, hone]
                  have hsz : (wv ++ a.extract k (k + 1)).size = wv.size + 1 := by rw [size_bs, happ.out, List.length_append, ← size_bs]; rfl
                  have hx2 : ((c.toNat : Int) != 32) = true := by rw [bne, hx]; rfl
                  have hy2 : ((c.toNat : Int) != 9) = true := by rw [bne, hy]; rfl
                  clear hb32 hb9 hone hx hy
                  go_wp2
                  go_roundw
                  case rel => exact ⟨k + 1, wv ++ a.extract k (k + 1), ys, by go_num, rfl, by omega, by omega, hOk, by show Cut _ _ _ _; rw [happ.out]; exact hcm, hbk⟩
                  case measure => simp [intOf] <;> omega
            · by_cases hk1 : k = a.size
              · skip
                have hbl' : ∀ b, (bs a)[k]? = some b → blank b = true := by intro b hb; have := (List.getElem?_eq_some_iff.1 hb).1; rw [← size_bs] at this; omega
                have hcb := cut_blank hcut.out (by rw [← size_bs]; omega) hbl'
                have hew := empty_bs wv
                by_cases hz0 : wv.size = 0
                · have hwe : wv.toList.isEmpty = true := by rw [hew]; exact decide_eq_true hz0
                  have hw0 : bs wv = [] := List.length_eq_zero_iff.1 (by rw [← size_bs]; exact hz0)
                  rw [if_pos hw0] at hcb
                  clear hew hw0
                  go_wp2
                  go_roundw
                  case rel => exact ⟨k + 1, ⟨#[]⟩, ys, by go_num, rfl, by omega, Nat.zero_le _, hOk, hcb, hbk⟩
                  case measure => simp [intOf] <;> omega
                · have hwe : wv.toList.isEmpty = false := by rw [hew]; exact decide_eq_false hz0
                  have hw0 : bs wv ≠ [] := fun e => hz0 (by rw [size_bs, e]; rfl)
                  rw [if_neg hw0] at hcb
                  clear hew hw0
                  obtain ⟨ao, cap, rfl⟩ := hOk.shape
                  have hsl : (strs (xs ++ ys)).length = (xs ++ ys).length := by simp
                  rw [hsl] at hOk ⊢
                  generalize (xs ++ ys).length = nl at *
                  clear hsl
                  go_wp2_with (at_builtin; (refine wpList_append_new (.tmp 54) (.tmp 56) 90 9 (.string ByteArray.empty) 16 Tryd.underlying90 Tryd.info9 rfl w.heap.size wr.heap.size (.slice ao nl cap) (strs (xs ++ ys)) [.string wv] 1 nl hnl rfl (by decide) (by rfl) (by rfl) (hOk.alloc _) (blk_new wr [.string wv] 9) (by intro u hu; simp at hu; rw [hu]; rfl) (by unfold maxLen; omega) (by omega) (by have := hbk.size; simp; omega) ?_; intro g gc w2 hown hgr hat2 hlt2))
                  go_roundw
                  case rel =>
                    refine ⟨k + 1, ⟨#[]⟩, ys ++ [wv], by go_num, rfl, by omega, Nat.zero_le _, ?_, by show Cut _ _ _ _; rw [List.map_append]; exact hcb, ?_⟩
                    · have e : strs (xs ++ (ys ++ [wv])) = strs (xs ++ ys) ++ [.string wv] := by simp [strs]
                      rw [e]
                      exact hown
                    · exact (hbk.alloc (by have := hbk.size; omega) _).trans (Below.of_grown' hgr hOk hbk.size (alloc_below' _ _).size)
                  case measure => simp [intOf] <;> omega
              · have hce := cut_end hcut.out (by rw [← size_bs]; omega)
                have hWn : Hid (wordsOf (rows (bs s)) = (xs ++ ys).map bs ++ wordsOf (rows (bs b))) := by show _ = _; rw [hin.out, hce, List.map_append, List.append_assoc]
                go_wp2
                go_roundw
                case rel => exact ⟨b, xs ++ ys, rfl, by omega, hOk, hWn, hbk⟩
                case measure => simp [strLen]; omega
end Go.Proofs.YtlodenfdcckemaaDoor
