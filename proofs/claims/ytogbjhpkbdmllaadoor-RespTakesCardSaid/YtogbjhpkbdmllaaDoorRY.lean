/-
  The walk of the reference's reader of a bulk. A premise: the text is shorter than 4294967281 bytes.
-/
import Derived.Test.YtogbjhpkbdmllaaDoorRX
namespace Go.Proofs.YtogbjhpkbdmllaaDoor
open Go.RowKit Rp Dec

theorem header_no {s : ByteArray} {most ab x : Int} (hs : s.size < 4294967281) (hm0 : 0 ≤ most) (hm1 : most ≤ 1048576) (h : decGo (-1) most ab [] s.data.toList = .inl x) (w : World) :
    Calls Tryd.prog 55 #[.string s, .int .i64 most, .int .i64 ab] w fun e w' => e = .returned (.tuple #[.int .i64 0, .int .i64 0, .int .i64 x]) ∧ Below w.heap.size w w' :=
  (header_any s most ab w hs hm0 hm1).mono fun e w' ⟨he, hb⟩ => ⟨by rw [h] at he; exact he, hb⟩
theorem header_yes {s : ByteArray} {most ab n : Int} {k : Nat} (hs : s.size < 4294967281) (hm0 : 0 ≤ most) (hm1 : most ≤ 1048576) (h : decGo (-1) most ab [] s.data.toList = .inr (n, k)) (w : World) :
    Calls Tryd.prog 55 #[.string s, .int .i64 most, .int .i64 ab] w fun e w' => e = .returned (.tuple #[.int .i64 n, .int .i64 k, .int .i64 0]) ∧ Below w.heap.size w w' :=
  (header_any s most ab w hs hm0 hm1).mono fun e w' ⟨he, hb⟩ => ⟨by rw [h] at he; exact he, hb⟩
/-- What a reader of a bulk or of a list answers: with an error, something that nobody reads. -/
def SubEnd (k : Nat) (R : Sum Int (Rep k × Nat)) (w : World) (e : Ending) (w' : World) : Prop := Below w.heap.size w w' ∧ match R with
  | .inl x => ∃ kd : Int, e = .returned (.tuple #[.agg #[.int .i64 kd, .int .i64 0, .string ⟨#[]⟩, .slice none 0 0], .int .i64 0, .int .i64 x])
  | .inr (y, n) => ∃ cs : Array Value, e = .returned (.tuple #[.agg cs, .int .i64 n, .int .i64 0]) ∧ RAt w' (fun b => w.heap.size ≤ b) k y cs.toList
theorem TakeEnd.sub {k : Nat} {R : Sum Int (Rep k × Nat)} {w w' : World} {e : Ending} (h : TakeEnd k R w e w') : SubEnd k R w e w' := by
  unfold TakeEnd at h
  unfold SubEnd
  cases R with
  | inl x => exact ⟨h.1, 0, h.2⟩
  | inr q => exact h
theorem sub_no {k : Nat} {R : Sum Int (Rep k × Nat)} {w w' : World} {x kd : Int} (h : R = .inl x) (hb : Below w.heap.size w w') : SubEnd k R w (.returned (.tuple #[.agg #[.int .i64 kd, .int .i64 0, .string ⟨#[]⟩, .slice none 0 0], .int .i64 0, .int .i64 x])) w' := by
  subst h; exact ⟨hb, kd, rfl⟩
theorem end_short {s : ByteArray} {m : Nat} (h : s.size = m) : endF (s.data.toList.drop m) = 4 := by
  rw [List.drop_eq_nil_of_le (by simp; omega)]; rfl
theorem end_cr {s : ByteArray} {m : Nat} (h : m < s.size) (hc : s[m] = 13) (he : s.size = m + 1) : endF (s.data.toList.drop m) = 4 := by
  have hd : s.data.toList.drop (m + 1) = [] := List.drop_eq_nil_of_le (by simp; omega)
  rw [line_drop h, hc, hd]; rfl
theorem end_no1 {s : ByteArray} {m : Nat} (h : m < s.size) (hc : s[m] ≠ 13) : endF (s.data.toList.drop m) = 5 := by
  rw [line_drop h]
  cases s.data.toList.drop (m + 1) with
  | nil => rw [endF, if_neg hc]
  | cons d t => rw [endF, if_neg (fun e => hc e.1)]
theorem end_no2 {s : ByteArray} {m : Nat} (h : m < s.size) (h' : m + 1 < s.size) (hd : s[m + 1] ≠ 10) : endF (s.data.toList.drop m) = 5 := by
  rw [line_drop h, line_drop h', endF, if_neg (fun e => hd e.2)]
theorem end_yes {s : ByteArray} {m : Nat} (h : m < s.size) (h' : m + 1 < s.size) (hc : s[m] = 13) (hd : s[m + 1] = 10) : endF (s.data.toList.drop m) = 0 := by
  rw [line_drop h, line_drop h', hc, hd]; exact endF_eol _

set_option maxHeartbeats 4000000 in
theorem bulk_any (k : Nat) (s : ByteArray) (w : World) (hs : s.size < 4294967281) :
    Calls Tryd.prog 42 #[.string s] w (SubEnd (k + 1) (bulkN s.data.toList : Sum Int (RNode (Rep k) × Nat)) w) := by
  have hnew := Lib.hid (heap_alloc_new w (.cells #[.int .i64 0, .int .i64 0, .string ⟨#[]⟩, .slice none 0 0] 24))
  cases hD : decGo (-1) 1048576 6 [] s.data.toList with
  | inl x =>
    have hx := header_no hs (by decide) (by decide) hD
    have hR : Hid ((bulkN s.data.toList : Sum Int (RNode (Rep k) × Nat)) = .inl x) := Lib.hid (by unfold bulkN; rw [hD])
    have hne : (x != 0) = true := by rcases dec_err _ _ _ hD with e | e | e <;> rw [e] <;> decide
    clear hD
    go_enter Tryd.func42, Tryd.ntmps42
    go_wp2_with (go_at_call 55; ((with_reducible refine (hx _).mono ?_); rintro e w' ⟨rfl, hb⟩; obtain ⟨c0, c1, c2, c3, f0, f1, f2, f3⟩ := cells4 hb hnew.out (by simp)))
    all_goals first
      | (exfalso; omega)
      | (have hl := laid4 (v0 := .int .i64 5) (v1 := .int .i64 0) (v2 := .string ⟨#[]⟩) (v3 := .slice none 0 0) ((hb.block w.heap.size (by simp)).trans hnew.out)
         have hB := Lib.hid (ret_below hb (v0 := .int .i64 5) (v1 := .int .i64 0) (v2 := .string ⟨#[]⟩) (v3 := .slice none 0 0))
         generalize ((((w'.setCell ⟨w.heap.size, 0, none⟩ (.int .i64 5)).setCell ⟨w.heap.size, 1, none⟩ (.int .i64 0)).setCell ⟨w.heap.size, 2, none⟩ (.string ⟨#[]⟩)).setCell ⟨w.heap.size, 3, none⟩ (.slice none 0 0)) = w2 at hl hB ⊢
         obtain ⟨d0, d1, d2, d3⟩ := read4 hl
         refine bodyPost_ret (v := .tuple #[.agg #[.int .i64 5, .int .i64 0, .string ⟨#[]⟩, .slice none 0 0], .int .i64 (0), .int .i64 (x)]) (by simp [results, Tryd.results42, go_sem, d0, d1, d2, d3]) rfl ?_
         exact sub_no hR.out hB.out)
  | inr q =>
    obtain ⟨n, j⟩ := q
    have hx := header_yes hs (by decide) (by decide) hD
    have hG : (bulkN s.data.toList : Sum Int (RNode (Rep k) × Nat)) = bodyN n j (s.data.toList.drop j) := by unfold bulkN; rw [hD]
    obtain ⟨hj, _, hlo, hhi, _⟩ := dec_bounds hD
    clear hD
    by_cases hn1 : n = -1
    · subst hn1
      have hR : Hid ((bulkN s.data.toList : Sum Int (RNode (Rep k) × Nat)) = .inr (⟨5, 0, [], []⟩, j)) := Lib.hid (by rw [hG]; unfold bodyN; rw [if_pos rfl])
      clear hG
      go_enter Tryd.func42, Tryd.ntmps42
      go_wp2_with (go_at_call 55; ((with_reducible refine (hx _).mono ?_); rintro e w' ⟨rfl, hb⟩; obtain ⟨c0, c1, c2, c3, f0, f1, f2, f3⟩ := cells4 hb hnew.out (by simp)))
      all_goals first
        | (exfalso; omega)
        | (have hl := laid4 (v0 := .int .i64 5) (v1 := .int .i64 0) (v2 := .string ⟨#[]⟩) (v3 := .slice none 0 0) ((hb.block w.heap.size (by simp)).trans hnew.out)
           have hB := Lib.hid (ret_below hb (v0 := .int .i64 5) (v1 := .int .i64 0) (v2 := .string ⟨#[]⟩) (v3 := .slice none 0 0))
           generalize ((((w'.setCell ⟨w.heap.size, 0, none⟩ (.int .i64 5)).setCell ⟨w.heap.size, 1, none⟩ (.int .i64 0)).setCell ⟨w.heap.size, 2, none⟩ (.string ⟨#[]⟩)).setCell ⟨w.heap.size, 3, none⟩ (.slice none 0 0)) = w2 at hl hB ⊢
           obtain ⟨d0, d1, d2, d3⟩ := read4 hl
           refine bodyPost_ret (v := .tuple #[.agg #[.int .i64 5, .int .i64 0, .string ⟨#[]⟩, .slice none 0 0], .int .i64 (j), .int .i64 (0)]) (by simp [results, Tryd.results42, go_sem, d0, d1, d2, d3]) rfl ?_
           exact TakeEnd.sub (take_leaf hR.out rfl hB.out rfl (by unfold inI64; omega) (by unfold inI64; omega) (Nat.zero_le _)))
    · obtain ⟨m, rfl⟩ : ∃ m : Nat, n = (m : Int) := ⟨n.toNat, by omega⟩
      obtain ⟨t, ht⟩ : ∃ t, s.extract j s.size = t := ⟨_, rfl⟩
      have htd : t.data.toList = s.data.toList.drop j := by rw [← ht]; exact tail_data s j
      have htz : t.size = s.size - j := by rw [← ht]; simp
      have hG2 : (bulkN s.data.toList : Sum Int (RNode (Rep k) × Nat)) = if t.size < m then .inl 4 else if endF (t.data.toList.drop m) = 0 then .inr (⟨4, 0, t.data.toList.take m, []⟩, j + m + 2) else .inl (endF (t.data.toList.drop m)) := by
        rw [hG, ← htd]; unfold bodyN; rw [if_neg hn1, Int.toNat_natCast]
        have : t.data.toList.length = t.size := by simp
        rw [this]
      clear hG hn1
      have htzH := Lib.hid htz
      have htl : t.size ≤ s.size := by omega
      clear htz htd
      by_cases hlt : t.size ≤ m
      · have hR : Hid ((bulkN s.data.toList : Sum Int (RNode (Rep k) × Nat)) = .inl 4) := Lib.hid (by
          rw [hG2]
          by_cases h1 : t.size < m
          · rw [if_pos h1]
          · have e4 := end_short (s := t) (m := m) (by omega)
            rw [if_neg h1, if_neg (by rw [e4]; decide), e4])
        clear hG2
        go_enter Tryd.func42, Tryd.ntmps42
        go_wp2_with (go_at_call 55; ((with_reducible refine (hx _).mono ?_); rintro e w' ⟨rfl, hb⟩; obtain ⟨c0, c1, c2, c3, f0, f1, f2, f3⟩ := cells4 hb hnew.out (by simp)))
        all_goals first
          | (exfalso; omega)
          | (have hl := laid4 (v0 := .int .i64 0) (v1 := .int .i64 0) (v2 := .string ⟨#[]⟩) (v3 := .slice none 0 0) ((hb.block w.heap.size (by simp)).trans hnew.out)
             have hB := Lib.hid (ret_below hb (v0 := .int .i64 0) (v1 := .int .i64 0) (v2 := .string ⟨#[]⟩) (v3 := .slice none 0 0))
             generalize ((((w'.setCell ⟨w.heap.size, 0, none⟩ (.int .i64 0)).setCell ⟨w.heap.size, 1, none⟩ (.int .i64 0)).setCell ⟨w.heap.size, 2, none⟩ (.string ⟨#[]⟩)).setCell ⟨w.heap.size, 3, none⟩ (.slice none 0 0)) = w2 at hl hB ⊢
             obtain ⟨d0, d1, d2, d3⟩ := read4 hl
             refine bodyPost_ret (v := .tuple #[.agg #[.int .i64 0, .int .i64 0, .string ⟨#[]⟩, .slice none 0 0], .int .i64 (0), .int .i64 (4)]) (by simp [results, Tryd.results42, go_sem, d0, d1, d2, d3]) rfl ?_
             exact sub_no hR.out hB.out)
      · have hml : m < t.size := by omega
        rw [if_neg (by omega)] at hG2
        by_cases h13 : t[m].toNat = 13
        · have hq : ((t[m].toNat : Int) != 13) = false := by rw [h13]; rfl
          have hc := byte_is h13 (by decide)
          by_cases hl : m + 1 < t.size
          · have hq4 : ((t.size : Int) == (m : Int) + 1) = false := beq_eq_false_iff_ne.2 (by omega)
            by_cases hd : t[m + 1].toNat = 10
            · have hR : Hid ((bulkN s.data.toList : Sum Int (RNode (Rep k) × Nat)) = .inr (⟨4, 0, t.data.toList.take m, []⟩, j + m + 2)) := Lib.hid (by rw [hG2, if_pos (end_yes hml hl hc (byte_is hd (by decide)))])
              have hq3 : ((t[m + 1].toNat : Int) != 10) = false := by rw [hd]; rfl
              clear hG2 hc
              go_enter Tryd.func42, Tryd.ntmps42
              go_wp2_with (go_at_call 55; ((with_reducible refine (hx _).mono ?_); rintro e w' ⟨rfl, hb⟩; obtain ⟨c0, c1, c2, c3, f0, f1, f2, f3⟩ := cells4 hb hnew.out (by simp)))
              all_goals first
                | (exfalso; omega)
                | (have hl := laid4 (v0 := .int .i64 4) (v1 := .int .i64 0) (v2 := .string (t.extract 0 m)) (v3 := .slice none 0 0) ((hb.block w.heap.size (by simp)).trans hnew.out)
                   have hB := Lib.hid (ret_below hb (v0 := .int .i64 4) (v1 := .int .i64 0) (v2 := .string (t.extract 0 m)) (v3 := .slice none 0 0))
                   generalize ((((w'.setCell ⟨w.heap.size, 0, none⟩ (.int .i64 4)).setCell ⟨w.heap.size, 1, none⟩ (.int .i64 0)).setCell ⟨w.heap.size, 2, none⟩ (.string (t.extract 0 m))).setCell ⟨w.heap.size, 3, none⟩ (.slice none 0 0)) = w2 at hl hB ⊢
                   obtain ⟨d0, d1, d2, d3⟩ := read4 hl
                   refine bodyPost_ret (v := .tuple #[.agg #[.int .i64 4, .int .i64 0, .string (t.extract 0 m), .slice none 0 0], .int .i64 ((j : Int) + m + 2), .int .i64 (0)]) (by simp [results, Tryd.results42, go_sem, d0, d1, d2, d3]) rfl ?_
                   exact TakeEnd.sub (take_leaf hR.out (by omega) hB.out (head_data t m) (by unfold inI64; omega) (by unfold inI64; omega) (by simp; omega)))
            · have e5 := end_no2 hml hl (fun e => hd (by rw [e]; rfl))
              have hR : Hid ((bulkN s.data.toList : Sum Int (RNode (Rep k) × Nat)) = .inl 5) := Lib.hid (by rw [hG2, if_neg (by rw [e5]; decide), e5])
              have hq3 : ((t[m + 1].toNat : Int) != 10) = true := bne_iff_ne.2 (by omega)
              clear hG2 hc e5
              go_enter Tryd.func42, Tryd.ntmps42
              go_wp2_with (go_at_call 55; ((with_reducible refine (hx _).mono ?_); rintro e w' ⟨rfl, hb⟩; obtain ⟨c0, c1, c2, c3, f0, f1, f2, f3⟩ := cells4 hb hnew.out (by simp)))
              all_goals first
                | (exfalso; omega)
                | (have hl := laid4 (v0 := .int .i64 0) (v1 := .int .i64 0) (v2 := .string ⟨#[]⟩) (v3 := .slice none 0 0) ((hb.block w.heap.size (by simp)).trans hnew.out)
                   have hB := Lib.hid (ret_below hb (v0 := .int .i64 0) (v1 := .int .i64 0) (v2 := .string ⟨#[]⟩) (v3 := .slice none 0 0))
                   generalize ((((w'.setCell ⟨w.heap.size, 0, none⟩ (.int .i64 0)).setCell ⟨w.heap.size, 1, none⟩ (.int .i64 0)).setCell ⟨w.heap.size, 2, none⟩ (.string ⟨#[]⟩)).setCell ⟨w.heap.size, 3, none⟩ (.slice none 0 0)) = w2 at hl hB ⊢
                   obtain ⟨d0, d1, d2, d3⟩ := read4 hl
                   refine bodyPost_ret (v := .tuple #[.agg #[.int .i64 0, .int .i64 0, .string ⟨#[]⟩, .slice none 0 0], .int .i64 (0), .int .i64 (5)]) (by simp [results, Tryd.results42, go_sem, d0, d1, d2, d3]) rfl ?_
                   exact sub_no hR.out hB.out)
          · have e4 := end_cr hml hc (by omega)
            have hR : Hid ((bulkN s.data.toList : Sum Int (RNode (Rep k) × Nat)) = .inl 4) := Lib.hid (by rw [hG2, if_neg (by rw [e4]; decide), e4])
            have hq4 : ((t.size : Int) == (m : Int) + 1) = true := by simp; omega
            clear hG2 hc e4
            go_enter Tryd.func42, Tryd.ntmps42
            go_wp2_with (go_at_call 55; ((with_reducible refine (hx _).mono ?_); rintro e w' ⟨rfl, hb⟩; obtain ⟨c0, c1, c2, c3, f0, f1, f2, f3⟩ := cells4 hb hnew.out (by simp)))
            all_goals first
              | (exfalso; omega)
              | (have hl := laid4 (v0 := .int .i64 0) (v1 := .int .i64 0) (v2 := .string ⟨#[]⟩) (v3 := .slice none 0 0) ((hb.block w.heap.size (by simp)).trans hnew.out)
                 have hB := Lib.hid (ret_below hb (v0 := .int .i64 0) (v1 := .int .i64 0) (v2 := .string ⟨#[]⟩) (v3 := .slice none 0 0))
                 generalize ((((w'.setCell ⟨w.heap.size, 0, none⟩ (.int .i64 0)).setCell ⟨w.heap.size, 1, none⟩ (.int .i64 0)).setCell ⟨w.heap.size, 2, none⟩ (.string ⟨#[]⟩)).setCell ⟨w.heap.size, 3, none⟩ (.slice none 0 0)) = w2 at hl hB ⊢
                 obtain ⟨d0, d1, d2, d3⟩ := read4 hl
                 refine bodyPost_ret (v := .tuple #[.agg #[.int .i64 0, .int .i64 0, .string ⟨#[]⟩, .slice none 0 0], .int .i64 (0), .int .i64 (4)]) (by simp [results, Tryd.results42, go_sem, d0, d1, d2, d3]) rfl ?_
                 exact sub_no hR.out hB.out)
        · have e5 := end_no1 hml (fun e => h13 (by rw [e]; rfl))
          have hR : Hid ((bulkN s.data.toList : Sum Int (RNode (Rep k) × Nat)) = .inl 5) := Lib.hid (by rw [hG2, if_neg (by rw [e5]; decide), e5])
          have hq : ((t[m].toNat : Int) != 13) = true := bne_iff_ne.2 (by omega)
          clear hG2 e5
          go_enter Tryd.func42, Tryd.ntmps42
          go_wp2_with (go_at_call 55; ((with_reducible refine (hx _).mono ?_); rintro e w' ⟨rfl, hb⟩; obtain ⟨c0, c1, c2, c3, f0, f1, f2, f3⟩ := cells4 hb hnew.out (by simp)))
          all_goals first
            | (exfalso; omega)
            | (have hl := laid4 (v0 := .int .i64 0) (v1 := .int .i64 0) (v2 := .string ⟨#[]⟩) (v3 := .slice none 0 0) ((hb.block w.heap.size (by simp)).trans hnew.out)
               have hB := Lib.hid (ret_below hb (v0 := .int .i64 0) (v1 := .int .i64 0) (v2 := .string ⟨#[]⟩) (v3 := .slice none 0 0))
               generalize ((((w'.setCell ⟨w.heap.size, 0, none⟩ (.int .i64 0)).setCell ⟨w.heap.size, 1, none⟩ (.int .i64 0)).setCell ⟨w.heap.size, 2, none⟩ (.string ⟨#[]⟩)).setCell ⟨w.heap.size, 3, none⟩ (.slice none 0 0)) = w2 at hl hB ⊢
               obtain ⟨d0, d1, d2, d3⟩ := read4 hl
               refine bodyPost_ret (v := .tuple #[.agg #[.int .i64 0, .int .i64 0, .string ⟨#[]⟩, .slice none 0 0], .int .i64 (0), .int .i64 (5)]) (by simp [results, Tryd.results42, go_sem, d0, d1, d2, d3]) rfl ?_
               exact sub_no hR.out hB.out)
end Go.Proofs.YtogbjhpkbdmllaaDoor
