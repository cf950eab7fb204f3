/-
  The walks of package glob's parts and of its match. A premise: texts no longer than 65536 bytes.
-/
import Derived.Test.YtadihlmpkckakaaDoorWalksB
namespace Go.Proofs.YtadihlmpkckakaaDoor
open Go.RowKit Gl

/-- How many bytes of a pattern its first part has. -/
def oneN (l : List UInt8) : Nat := min (partLen l) l.length
theorem data_cons (s : ByteArray) (h : 0 < s.size) : s.data.toList = s[0] :: s.data.toList.drop 1 := by
  have := cons1 s 0 h
  rwa [List.drop_zero] at this
theorem one_any1 {s : ByteArray} {c : UInt8} (h : 0 < s.size) (h2 : (s[0].toNat : Int) = 63) : (part1 s.data.toList).ok c = true ∧ (oneN s.data.toList : Int) = 1 := by
  have e : s[0] = 63 := byte_of (by decide) h2
  unfold oneN
  rw [data_cons s h, e, part_cons, partLen_cons]
  exact ⟨rfl, by simp⟩
theorem one_cls {s : ByteArray} {c : UInt8} (h : 0 < s.size) (h2 : (s[0].toNat : Int) = 91) : (part1 s.data.toList).ok c = clB s c ∧ (oneN s.data.toList : Int) = clN s := by
  have e : s[0] = 91 := byte_of (by decide) h2
  have hl : (s.data.toList.length : Int) = s.size := by simp
  unfold oneN clB clN
  have e1 : part1 s.data.toList = .cls (clsHas (s.data.toList.drop 1)) := by rw [data_cons s h, e, part_cons]; rfl
  have e2 : partLen s.data.toList = 1 + clsLen (s.data.toList.drop 1) := by rw [data_cons s h, e, partLen_cons]; rfl
  rw [e1, e2]
  exact ⟨rfl, by omega⟩
theorem part_lit (l : List UInt8) (h : l ≠ []) (h1 : l.head? ≠ some 42) (h2 : l.head? ≠ some 63) (h3 : l.head? ≠ some 91) : part1 l = .byte (lit l).1 ∧ partLen l = (lit l).2 ∧ (lit l).2 ≤ l.length := by
  match l, h with
  | [a], _ =>
    have g1 : a ≠ 42 := by simpa using h1
    have g2 : a ≠ 63 := by simpa using h2
    have g3 : a ≠ 91 := by simpa using h3
    rw [part_cons, partLen_cons, if_neg g1, if_neg g2, if_neg g3, if_neg g1, if_neg g2, if_neg g3]
    exact ⟨rfl, rfl, Nat.le_refl _⟩
  | a :: b :: t, _ =>
    have g1 : a ≠ 42 := by simpa using h1
    have g2 : a ≠ 63 := by simpa using h2
    have g3 : a ≠ 91 := by simpa using h3
    rw [part_cons, partLen_cons, if_neg g1, if_neg g2, if_neg g3, if_neg g1, if_neg g2, if_neg g3]
    by_cases g : a = 92
    · subst g; exact ⟨rfl, rfl, by simp [lit]⟩
    · simp [lit, g]
theorem one_lit {s : ByteArray} {c : UInt8} (h : 0 < s.size) (h1 : ¬ (s[0].toNat : Int) = 42) (h2 : ¬ (s[0].toNat : Int) = 63) (h3 : ¬ (s[0].toNat : Int) = 91) :
    (part1 s.data.toList).ok c = (litB (s.data.toList.drop 0) == (c.toNat : Int)) ∧ (oneN s.data.toList : Int) = litN (s.data.toList.drop 0) := by
  have hh : s.data.toList.head? = some s[0] := by rw [data_cons s h]; rfl
  obtain ⟨e1, e2, e3⟩ := part_lit s.data.toList (by rw [data_cons s h]; simp) (by rw [hh]; intro e; exact h1 (by rw [Option.some.inj e]; rfl)) (by rw [hh]; intro e; exact h2 (by rw [Option.some.inj e]; rfl)) (by rw [hh]; intro e; exact h3 (by rw [Option.some.inj e]; rfl))
  rw [List.drop_zero]
  unfold oneN litB litN
  rw [e1, e2]
  refine ⟨?_, by omega⟩
  show ((lit s.data.toList).1 == c) = _
  rw [Bool.eq_iff_iff, beq_iff_eq, beq_iff_eq]
  constructor
  · intro e; rw [e]
  · intro e; exact UInt8.toNat.inj (by show (lit s.data.toList).1.toNat = c.toNat; omega)

set_option maxHeartbeats 1000000 in
theorem one_any (s : ByteArray) (c : UInt8) (w : World) (hs : s.size ≤ 65536) (h0 : 0 < s.size) (h42 : ¬ (s[0].toNat : Int) = 42) :
    Calls Tryd.prog 18 #[.string s, .int .u8 (c.toNat : Int)] w fun e w' => e = .returned (.tuple #[.bool ((part1 s.data.toList).ok c), .int .i64 (oneN s.data.toList)]) ∧ ∃ n, w' = w.drewN n := by
  by_cases h63 : (s[0].toNat : Int) = 63
  · have hn := Lib.hid (one_any1 (c := c) h0 h63)
    go_enter Tryd.func18, Tryd.ntmps18
    go_wp2_with fail
    go_ret2
    exact ⟨ret_bi hn.out, 0, rfl⟩
  · by_cases h91 : (s[0].toNat : Int) = 91
    · have hn := Lib.hid (one_cls (c := c) h0 h91)
      go_enter Tryd.func18, Tryd.ntmps18
      go_wp2_with (go_at_call 25; (with_reducible refine (class_any s c _ hs h0).mono ?_); rintro e w' ⟨rfl, n, rfl⟩)
      go_ret2
      exact ⟨ret_bi hn.out, n, rfl⟩
    · have hn := Lib.hid (one_lit (c := c) h0 h42 h63 h91)
      go_enter Tryd.func18, Tryd.ntmps18
      go_wp2_with (go_at_call 22; (with_reducible refine (lit_any s _ (by unfold maxLen; omega) h0).mono ?_); rintro e w' ⟨rfl, rfl⟩)
      go_ret2
      exact ⟨ret_bi hn.out, 0, rfl⟩
theorem one_at (s : ByteArray) (k : Nat) (c : UInt8) (w : World) (hs : s.size ≤ 65536) (h0 : k < s.size) (h42 : Hid (¬ (s[k].toNat : Int) = 42)) (b : Bool) (hb : Hid ((part1 (s.data.toList.drop k)).ok c = b)) :
    Calls Tryd.prog 18 #[.string (s.extract k s.size), .int .u8 (c.toNat : Int)] w fun e w' => e = .returned (.tuple #[.bool b, .int .i64 (oneN (s.data.toList.drop k))]) ∧ ∃ n, w' = w.drewN n := by
  have h := one_any (s.extract k s.size) c w (by rw [tail_size]; omega) (by rw [tail_size]; omega) (by
    have e : (s.extract k s.size)[0]'(by rw [tail_size]; omega) = s[k] := by
      have h1 := data_cons (s.extract k s.size) (by rw [tail_size]; omega)
      rw [Lib.extract_to_end, cons1 s k h0] at h1
      exact (List.cons.inj h1).1.symm
    rw [e]; exact h42.out)
  rw [Lib.extract_to_end, hb.out] at h
  exact h
theorem oneN_pos (s : ByteArray) (k : Nat) (h : k < s.size) : 1 ≤ (oneN (s.data.toList.drop k) : Int) ∧ (k : Int) + oneN (s.data.toList.drop k) ≤ s.size := by
  have hl : (s.data.toList.drop k).length = s.size - k := by simp
  have := partLen_pos (s.data.toList.drop k)
  unfold oneN
  omega

end Go.Proofs.YtadihlmpkckakaaDoor
