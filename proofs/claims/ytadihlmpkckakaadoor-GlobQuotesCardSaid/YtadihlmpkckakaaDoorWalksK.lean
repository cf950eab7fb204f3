/-
  The walks of the quoting and of the plain pattern of package glob. A premise: texts no longer than 65536 bytes.
-/
import Derived.Test.YtadihlmpkckakaaDoorWalksJ
import Derived.Deep.Cut
namespace Go.Proofs.YtadihlmpkckakaaDoor
open Go.RowKit Gl

theorem toNat_byte (c : UInt8) : ((c.toNat : Int)).toNat.toUInt8 = c := by simp
theorem idx_special (c : UInt8) (w : World) (h : Hid (special c = true)) : Calls Tryd.prog 21 #[.string ⟨#[42, 63, 91, 92]⟩, .int .u8 (c.toNat : Int)] w fun e w' => (∃ x : Int, e = .returned (.int .i64 x) ∧ 0 ≤ x) ∧ w = w' := by
  refine (Tryd.strings_IndexByte ⟨#[42, 63, 91, 92]⟩ (c.toNat : Int) w).mono fun e w' ⟨he, hw⟩ => ⟨⟨_, he, ?_⟩, hw.symm⟩
  rw [toNat_byte]
  have h1 := h.out
  unfold special at h1
  simp only [Bool.or_eq_true, beq_iff_eq] at h1
  rcases h1 with ((rfl | rfl) | rfl) | rfl <;> decide
theorem idx_plain (c : UInt8) (w : World) (h : Hid (special c = false)) : Calls Tryd.prog 21 #[.string ⟨#[42, 63, 91, 92]⟩, .int .u8 (c.toNat : Int)] w fun e w' => e = .returned (.int .i64 (-1)) ∧ w = w' := by
  refine (Tryd.strings_IndexByte ⟨#[42, 63, 91, 92]⟩ (c.toNat : Int) w).mono fun e w' ⟨he, hw⟩ => ⟨?_, hw.symm⟩
  rw [he, toNat_byte]
  have h1 := h.out
  unfold special at h1
  simp only [Bool.or_eq_false_iff, beq_eq_false_iff_ne] at h1
  obtain ⟨⟨⟨e1, e2⟩, e3⟩, e4⟩ := h1
  have b1 : ((42 : UInt8) == c) = false := by simpa using Ne.symm e1
  have b2 : ((63 : UInt8) == c) = false := by simpa using Ne.symm e2
  have b3 : ((91 : UInt8) == c) = false := by simpa using Ne.symm e3
  have b4 : ((92 : UInt8) == c) = false := by simpa using Ne.symm e4
  show Ending.returned (.int .i64 (Lib.indexByte [42, 63, 91, 92] c)) = _
  simp [Lib.indexByte, b1, b2, b3, b4]
theorem cells_snoc (l : List UInt8) (c : UInt8) : Lib.byteCells (l ++ [c]) = Lib.byteCells l ++ [.int .u8 (c.toNat : Int)] := by simp [Lib.byteCells]
theorem quote_special {s : ByteArray} {k : Nat} (hk : k < s.size) (h : special s[k] = true) : Lib.byteCells (quote (s.data.toList.take k)) ++ [.int .u8 92] ++ [.int .u8 (s[k].toNat : Int)] = Lib.byteCells (quote (s.data.toList.take (k + 1))) := by
  have e : s.data.toList.take (k + 1) = s.data.toList.take k ++ [s[k]] := by
    rw [List.take_succ_eq_append_getElem (by simpa using hk)]; rfl
  rw [e, quote_append]
  simp [quote, h, Lib.byteCells]
theorem quote_plain {s : ByteArray} {k : Nat} (hk : k < s.size) (h : special s[k] = false) : Lib.byteCells (quote (s.data.toList.take k)) ++ [.int .u8 (s[k].toNat : Int)] = Lib.byteCells (quote (s.data.toList.take (k + 1))) := by
  have e : s.data.toList.take (k + 1) = s.data.toList.take k ++ [s[k]] := by
    rw [List.take_succ_eq_append_getElem (by simpa using hk)]; rfl
  rw [e, quote_append]
  simp [quote, h, Lib.byteCells]
theorem quote_room {s : ByteArray} {k : Nat} (hs : s.size ≤ 65536) : (Lib.byteCells (quote (s.data.toList.take k))).length ≤ 131072 := by
  rw [Lib.byteCells_length]
  have h1 := quote_len (s.data.toList.take k)
  have h2 : (s.data.toList.take k).length ≤ s.data.toList.length := by rw [List.length_take]; omega
  have h3 : s.data.toList.length = s.size := by simp
  omega
theorem bytes_ret {l m : List UInt8} (h : l = m) : Ending.returned (.string ⟨l.toArray⟩) = .returned (.string ⟨m.toArray⟩) := by rw [h]

set_option maxHeartbeats 2000000 in
theorem quote_any (s : ByteArray) (w : World) (hs : s.size ≤ 65536) :
    Calls Tryd.prog 13 #[.string s] w fun e w' => e = .returned (.string ⟨(quote s.data.toList).toArray⟩) ∧ Below w.heap.size w w' := by
  go_enter Tryd.func13, Tryd.ntmps13
  go_upto_region 2 with fail
  have hB := Lib.fresh_isBuilder 47 5 w
  have hL : Below w.heap.size w (w.alloc (.cells #[.pointer none, .slice none 0 0] 47)) := (Below.refl _ _).alloc (Nat.le_refl _) _
  generalize w.alloc (.cells #[.pointer none, .slice none 0 0] 47) = W at hB hL ⊢
  go_wp2_with fail
  go_loopw [7] (fun i wr => ∃ k : Nat, k ≤ s.size ∧ i = .int .i64 k ∧ Lib.IsBuilder 47 5 w.heap.size w.heap.size (Lib.byteCells (quote (s.data.toList.take k))) wr ∧ Below w.heap.size w wr) (fun i _ => s.size - (intOf i).toNat)
  case atStart => exact ⟨0, by omega, rfl, by simpa [quote, Lib.byteCells] using hB, hL⟩
  case round =>
    clear hB hL
    obtain ⟨k, hk, rfl, hB, hL⟩ := hrel
    by_cases hlt : k < s.size
    · have hr := quote_room (k := k) hs
      have hz := hL.size
      cases hsp : special s[k] with
      | true =>
        have hspH := Lib.hid hsp
        have hq := Lib.hid (quote_special hlt hsp)
        clear hsp
        go_wp2_with (first
          | (go_at_call 21; (with_reducible refine (idx_special s[k] _ hspH).mono ?_); rintro e w' ⟨⟨x, rfl, hx⟩, rfl⟩)
          | (go_at_call 23; (with_reducible refine (write_any _ _ _ _ _ hB1 (by rw [List.length_append]; simp only [List.length_cons, List.length_nil]; omega) (by have := hL1.size; omega)).mono ?_); rintro e w2 ⟨rfl, hB2, hL2⟩)
          | (go_at_call 23; (with_reducible refine (write_any _ _ _ _ _ hB (by omega) hz).mono ?_); rintro e w1 ⟨rfl, hB1, hL1⟩))
        go_roundw
        case rel => exact ⟨k + 1, by omega, by go_num, by rw [← hq.out]; exact hB2, (hL.trans hL1).trans hL2⟩
        case measure => simp [intOf]; omega
      | false =>
        have hspH := Lib.hid hsp
        have hq := Lib.hid (quote_plain hlt hsp)
        clear hsp
        go_wp2_with (first
          | (go_at_call 21; (with_reducible refine (idx_plain s[k] _ hspH).mono ?_); rintro e w' ⟨rfl, rfl⟩)
          | (go_at_call 23; (with_reducible refine (write_any _ _ _ _ _ hB (by omega) hz).mono ?_); rintro e w1 ⟨rfl, hB1, hL1⟩))
        go_roundw
        case rel => exact ⟨k + 1, by omega, by go_num, by rw [← hq.out]; exact hB1, hL.trans hL1⟩
        case measure => simp [intOf]; omega
    · have hz := hL.size
      have hks : Hid (s.data.toList.take k = s.data.toList) := Lib.hid (List.take_of_length_le (by simp; omega))
      go_wp2_with (go_at_call 24; (with_reducible refine (Tryd.Builder_String_any _ _ _ _ hB hz).mono ?_); rintro e w1 ⟨rfl, hL1⟩)
      go_ret
      exact ⟨bytes_ret (by rw [hks.out]), hL.trans hL1⟩

def bare (c : UInt8) : Bool := c == 42 || c == 63 || c == 91
theorem idx_bare (c : UInt8) (w : World) (h : Hid (bare c = true)) : Calls Tryd.prog 21 #[.string ⟨#[42, 63, 91]⟩, .int .u8 (c.toNat : Int)] w fun e w' => (∃ x : Int, e = .returned (.int .i64 x) ∧ 0 ≤ x) ∧ w = w' := by
  refine (Tryd.strings_IndexByte ⟨#[42, 63, 91]⟩ (c.toNat : Int) w).mono fun e w' ⟨he, hw⟩ => ⟨⟨_, he, ?_⟩, hw.symm⟩
  rw [toNat_byte]
  have h1 := h.out
  unfold bare at h1
  simp only [Bool.or_eq_true, beq_iff_eq] at h1
  rcases h1 with (rfl | rfl) | rfl <;> decide
theorem idx_byte (c : UInt8) (w : World) (h : Hid (bare c = false)) : Calls Tryd.prog 21 #[.string ⟨#[42, 63, 91]⟩, .int .u8 (c.toNat : Int)] w fun e w' => e = .returned (.int .i64 (-1)) ∧ w = w' := by
  refine (Tryd.strings_IndexByte ⟨#[42, 63, 91]⟩ (c.toNat : Int) w).mono fun e w' ⟨he, hw⟩ => ⟨?_, hw.symm⟩
  rw [he, toNat_byte]
  have h1 := h.out
  unfold bare at h1
  simp only [Bool.or_eq_false_iff, beq_eq_false_iff_ne] at h1
  obtain ⟨⟨e1, e2⟩, e3⟩ := h1
  have b1 : ((42 : UInt8) == c) = false := by simpa using Ne.symm e1
  have b2 : ((63 : UInt8) == c) = false := by simpa using Ne.symm e2
  have b3 : ((91 : UInt8) == c) = false := by simpa using Ne.symm e3
  show Ending.returned (.int .i64 (Lib.indexByte [42, 63, 91] c)) = _
  simp [Lib.indexByte, b1, b2, b3]
/-- What a plain pattern is, and whether one is. -/
def plT (l : List UInt8) : List UInt8 := (bytesOf (parts l)).getD []
def plB (l : List UInt8) : Bool := (bytesOf (parts l)).isSome
def PlainEnd (s : ByteArray) (w : World) (e : Ending) (w' : World) : Prop := e = .returned (.tuple #[.string ⟨(plT s.data.toList).toArray⟩, .bool (plB s.data.toList)]) ∧ Below w.heap.size w w'
theorem plain_none {s : ByteArray} {w w' : World} (h : bytesOf (parts s.data.toList) = none) (hL : Below w.heap.size w w') : PlainEnd s w (.returned (.tuple #[.string ⟨#[]⟩, .bool false])) w' := by
  refine ⟨?_, hL⟩
  unfold plT plB
  rw [h]
  rfl
theorem plain_some {s : ByteArray} {w w' : World} {t : List UInt8} (h : bytesOf (parts s.data.toList) = some t) (hL : Below w.heap.size w w') : PlainEnd s w (.returned (.tuple #[.string ⟨t.toArray⟩, .bool true])) w' := by
  refine ⟨?_, hL⟩
  unfold plT plB
  rw [h]
  rfl
/-- What has been read of a pattern that is plain so far. -/
def Read (s : ByteArray) (k : Nat) (t : List UInt8) : Prop := bytesOf (parts s.data.toList) = (bytesOf (parts (s.data.toList.drop k))).map (t ++ ·)
theorem read_start (s : ByteArray) : Read s 0 [] := by
  unfold Read
  rw [List.drop_zero]
  simp
theorem read_bare {s : ByteArray} {k : Nat} {t : List UInt8} (h : Read s k t) (hk : k < s.size) (hb : bare s[k] = true) : bytesOf (parts s.data.toList) = none := by
  unfold Read at h
  rw [h, cons1 s k hk, parts_more (by simp)]
  unfold bare at hb
  simp only [Bool.or_eq_true, beq_iff_eq] at hb
  rcases hb with (e | e) | e <;> rw [e, part_cons] <;> rfl
theorem read_on {s : ByteArray} {k : Nat} {t : List UInt8} (h : Read s k t) (hk : k < s.size) (hb : bare s[k] = false) :
    Read s (k + (lit (s.data.toList.drop k)).2) (t ++ [(lit (s.data.toList.drop k)).1]) ∧ 1 ≤ (lit (s.data.toList.drop k)).2 ∧ k + (lit (s.data.toList.drop k)).2 ≤ s.size := by
  unfold bare at hb
  simp only [Bool.or_eq_false_iff, beq_eq_false_iff_ne] at hb
  obtain ⟨⟨e1, e2⟩, e3⟩ := hb
  have hne : s.data.toList.drop k ≠ [] := by rw [cons1 s k hk]; simp
  have hh : (s.data.toList.drop k).head? = some s[k] := by rw [cons1 s k hk]; rfl
  obtain ⟨g1, g2, g3⟩ := part_lit (s.data.toList.drop k) hne (by rw [hh]; simpa using e1) (by rw [hh]; simpa using e2) (by rw [hh]; simpa using e3)
  have hl : (s.data.toList.drop k).length = s.size - k := by simp
  refine ⟨?_, by rw [← g2]; exact partLen_pos _, by omega⟩
  unfold Read at h ⊢
  rw [h, parts_more hne, g1, g2, List.drop_drop]
  rw [bytesOf_byte, Option.map_map]
  congr 1
  funext x
  simp
theorem read_end {s : ByteArray} {k : Nat} {t : List UInt8} (h : Read s k t) (hk : s.size ≤ k) : bytesOf (parts s.data.toList) = some t := by
  unfold Read at h
  rw [h, none0 s k hk, parts_nil]
  simp [bytesOf]
theorem lit_k (s : ByteArray) (k : Nat) (w : World) (hs : s.size ≤ 65536) (hk : k < s.size) : Calls Tryd.prog 22 #[.string (s.extract k s.size)] w fun e w' => e = .returned (.tuple #[.int .u8 ((lit (s.data.toList.drop k)).1.toNat : Int), .int .i64 ((lit (s.data.toList.drop k)).2 : Int)]) ∧ w = w' := lit_at s k w hs hk

set_option maxHeartbeats 2000000 in
theorem plain_any (s : ByteArray) (w : World) (hs : s.size ≤ 65536) : Calls Tryd.prog 11 #[.string s] w (PlainEnd s w) := by
  go_enter Tryd.func11, Tryd.ntmps11
  go_upto_region 2 with fail
  have hB := Lib.fresh_isBuilder 47 5 w
  have hL : Below w.heap.size w (w.alloc (.cells #[.pointer none, .slice none 0 0] 47)) := (Below.refl _ _).alloc (Nat.le_refl _) _
  generalize w.alloc (.cells #[.pointer none, .slice none 0 0] 47) = W at hB hL ⊢
  go_wp2_with fail
  go_loopw [5] (fun i wr => ∃ (k : Nat) (t : List UInt8), k ≤ s.size ∧ t.length ≤ k ∧ i = .int .i64 k ∧ Lib.IsBuilder 47 5 w.heap.size w.heap.size (Lib.byteCells t) wr ∧ Hid (Read s k t) ∧ Below w.heap.size w wr) (fun i _ => s.size - (intOf i).toNat)
  case atStart => exact ⟨0, [], by omega, by simp, rfl, by simpa [Lib.byteCells] using hB, Lib.hid (read_start s), hL⟩
  case round =>
    clear hB hL
    obtain ⟨k, t, hk, ht, rfl, hB, hR, hL⟩ := hrel
    have hz := hL.size
    by_cases hlt : k < s.size
    · cases hsp : bare s[k] with
      | true =>
        have hspH := Lib.hid hsp
        have hn := Lib.hid (read_bare hR.out hlt hsp)
        clear hsp
        go_wp2_with (go_at_call 21; (with_reducible refine (idx_bare s[k] _ hspH).mono ?_); rintro e w' ⟨⟨x, rfl, hx⟩, rfl⟩)
        go_ret2
        exact plain_none hn.out hL
      | false =>
        have hspH := Lib.hid hsp
        obtain ⟨hR2, h1, h2⟩ := read_on hR.out hlt hsp
        have hR2H := Lib.hid hR2
        clear hsp hR2
        have hlen : (Lib.byteCells t).length + 1 ≤ 140737488355328 := by rw [Lib.byteCells_length]; omega
        go_wp2_with (first
          | (go_at_call 21; (with_reducible refine (idx_byte s[k] _ hspH).mono ?_); rintro e w' ⟨rfl, rfl⟩)
          | (go_at_call 22; (with_reducible refine (lit_k s k _ hs hlt).mono ?_); rintro e w' ⟨rfl, rfl⟩)
          | (go_at_call 23; (with_reducible refine (write_any _ _ _ _ _ hB hlen hz).mono ?_); rintro e w1 ⟨rfl, hB1, hL1⟩))
        go_roundw
        case rel => exact ⟨k + (lit (s.data.toList.drop k)).2, t ++ [(lit (s.data.toList.drop k)).1], h2, by rw [List.length_append]; simp only [List.length_cons, List.length_nil]; omega, congrArg (Value.int .i64) (by omega), by rw [cells_snoc]; exact hB1, hR2H, hL.trans hL1⟩
        case measure => simp [intOf]; omega
    · have hE := Lib.hid (read_end hR.out (by omega))
      go_wp2_with (go_at_call 24; (with_reducible refine (Tryd.Builder_String_any _ _ _ _ hB hz).mono ?_); rintro e w1 ⟨rfl, hL1⟩)
      go_ret2
      exact plain_some hE.out (hL.trans hL1)

end Go.Proofs.YtadihlmpkckakaaDoor
