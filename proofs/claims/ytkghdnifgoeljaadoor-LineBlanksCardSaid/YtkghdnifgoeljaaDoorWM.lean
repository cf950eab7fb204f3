/-
  The walk of the writing of an argument within quotes. A premise: the text is no longer than 65536 bytes.
-/
import Derived.Test.YtkghdnifgoeljaaDoorWL
namespace Go.Proofs.YtkghdnifgoeljaaDoor
open Go.RowKit Ln

theorem encs_snoc (l : List UInt8) (c : UInt8) : encs (l ++ [c]) = encs l ++ enc c := by simp [encs]
theorem take_k {s : ByteArray} {k : Nat} (hk : k < s.size) : s.data.toList.take (k + 1) = s.data.toList.take k ++ [s[k]] := by
  rw [List.take_succ_eq_append_getElem (by simpa using hk)]; rfl
theorem strCells_bytes' (s : ByteArray) : Lib.strCells s = Lib.byteCells s.data.toList := rfl
/-- A byte more is written. -/
theorem wb_as {B b : Nat} {l : List UInt8} (c : UInt8) {v : Int} (hv : (c.toNat : Int) = v) {w : World} (h : Lib.IsBuilderF 43 5 B b (Lib.byteCells l) w) (hlen : l.length ≤ 1099511627776) (hBw : B ≤ w.heap.size) :
    Calls Tryd.prog 18 #[.pointer (some ⟨b, 0, none⟩), .int .u8 v] w fun e w' => e = .returned .nilIface ∧ Lib.IsBuilderF 43 5 B b (Lib.byteCells (l ++ [c])) w' ∧ Kp B b w w' := by
  subst hv
  have := wbyte_any B b _ (c.toNat : Int) w h (by rw [Lib.byteCells_length]; omega) hBw
  rwa [← cells_snoc] at this
theorem ws_as {B b : Nat} {l : List UInt8} {s : ByteArray} {w : World} (h : Lib.IsBuilderF 43 5 B b (Lib.byteCells l) w) (hlen : l.length + s.size ≤ 1099511627776) (hBw : B ≤ w.heap.size) :
    Calls Tryd.prog 20 #[.pointer (some ⟨b, 0, none⟩), .string s] w fun e w' => (∃ n : Int, e = .returned (.tuple #[.int .i64 n, .nilIface])) ∧ Lib.IsBuilderF 43 5 B b (Lib.byteCells (l ++ s.data.toList)) w' ∧ Kp B b w w' := by
  have := wstring_any B b _ s w h (by rw [Lib.byteCells_length]; omega) hBw
  rw [strCells_bytes', ← byteCells_append] at this
  exact this.mono fun e w' ⟨h1, h2, h3⟩ => ⟨⟨_, h1⟩, h2, h3⟩

theorem hexc_at : ∀ n : Fin 16, hexc n.1 = (⟨#[48, 49, 50, 51, 52, 53, 54, 55, 56, 57, 97, 98, 99, 100, 101, 102]⟩ : ByteArray)[n.1]'n.2 := by decide +kernel
theorem hexc_v (n : Nat) (h : n < (⟨#[48, 49, 50, 51, 52, 53, 54, 55, 56, 57, 97, 98, 99, 100, 101, 102]⟩ : ByteArray).size) : ((hexc n).toNat : Int) = (((⟨#[48, 49, 50, 51, 52, 53, 54, 55, 56, 57, 97, 98, 99, 100, 101, 102]⟩ : ByteArray)[n]'h).toNat : Int) := by
  rw [hexc_at ⟨n, h⟩]

set_option maxRecDepth 100000 in
set_option maxHeartbeats 4000000 in
theorem quote_any (B b : Nat) (l : List UInt8) (s : ByteArray) (w : World) (hs : s.size ≤ 65536) (hl : l.length ≤ 1073741824) (hBd : Lib.IsBuilderF 43 5 B b (Lib.byteCells l) w) (hBw : B ≤ w.heap.size) :
    Calls Tryd.prog 21 #[.pointer (some ⟨b, 0, none⟩), .string s] w fun e w' => e = .returned (.tuple #[]) ∧ Lib.IsBuilderF 43 5 B b (Lib.byteCells (l ++ (34 :: encs s.data.toList ++ [34]))) w' ∧ Kp B b w w' := by
  go_enter Tryd.func21, Tryd.ntmps21
  go_wp2_with (go_at_call 18; ((with_reducible refine (wb_as 34 (show ((34 : UInt8).toNat : Int) = 34 from rfl) hBd (by omega) hBw).mono ?_); rintro e w1 ⟨rfl, hB1, hK1⟩))
  clear hBd
  go_loopw [10] (fun i wr => ∃ k : Nat, i = .int .i64 k ∧ k ≤ s.size ∧ Lib.IsBuilderF 43 5 B b (Lib.byteCells (l ++ [34] ++ encs (s.data.toList.take k))) wr ∧ Kp B b w wr) (fun i _ => s.size - (intOf i).toNat)
  case atStart => exact ⟨0, rfl, by omega, by simpa [encs] using hB1, hK1⟩
  case round =>
    clear hB1 hK1
    obtain ⟨k, rfl, hk, hBd, hK⟩ := hrel
    have hz := Nat.le_trans hBw hK.size
    have hel := encs_len (s.data.toList.take k)
    have htl : (s.data.toList.take k).length ≤ k := List.length_take_le _ _
    have hll : (l ++ [34] ++ encs (s.data.toList.take k)).length ≤ 1099511627000 := by simp only [List.length_append, List.length_cons, List.length_nil]; omega
    by_cases hlt : k < s.size
    · have htk : Hid (encs (s.data.toList.take (k + 1)) = encs (s.data.toList.take k) ++ enc s[k]) := Lib.hid (by rw [take_k hlt, encs_snoc])
      by_cases hq : s[k] = 34 ∨ s[k] = 92
      · have he : Hid (enc s[k] = [92, s[k]]) := Lib.hid (by unfold enc; rw [if_pos hq])
        have hf : ((s[k].toNat : Int) == 34) = true ∨ (((s[k].toNat : Int) == 34) = false ∧ ((s[k].toNat : Int) == 92) = true) := by
          rcases hq with h | h
          · exact Or.inl (by rw [h]; rfl)
          · exact Or.inr ⟨by rw [h]; rfl, by rw [h]; rfl⟩
        clear hq hel htl
        have hW1 := Lib.hid (wb_as 92 (show ((92 : UInt8).toNat : Int) = 92 from rfl) hBd (by omega) hz)
        rcases hf with f1 | ⟨f1, f2⟩
        all_goals
          go_wp2_with (first
            | (go_at_call 18; ((with_reducible refine hW1.out.mono ?_); rintro e w1 ⟨rfl, hB1, hK1⟩; have hz1 := Nat.le_trans hz hK1.size))
            | (go_at_call 18; ((with_reducible refine (wb_as s[k] rfl hB1 (by simp only [List.length_append, List.length_cons, List.length_nil] at hll ⊢; omega) hz1).mono ?_); rintro e w2 ⟨rfl, hB2, hK2⟩)))
          go_roundw
          case rel => exact ⟨k + 1, by go_num, by omega, by rw [htk.out, he.out]; simpa using hB2, (hK.trans hK1).trans hK2⟩
          case measure => simp [intOf]; omega
      · have f1 : ((s[k].toNat : Int) == 34) = false := beq_eq_false_iff_ne.2 fun e => hq (Or.inl (byte_of (n := 34) (by decide) e))
        have f2 : ((s[k].toNat : Int) == 92) = false := beq_eq_false_iff_ne.2 fun e => hq (Or.inr (byte_of (n := 92) (by decide) e))
        cases hsh : shown s[k] with
        | true =>
          have he : Hid (enc s[k] = [s[k]]) := Lib.hid (by unfold enc; rw [if_neg hq, if_pos hsh])
          have hshH := Lib.hid hsh
          clear hq hel htl hsh
          go_wp2_with (first
            | (go_at_call 31; ((with_reducible refine (shown_any s[k] _ true hshH).mono ?_); rintro e w' ⟨rfl, rfl⟩))
            | (go_at_call 18; ((with_reducible refine (wb_as s[k] rfl hBd (by omega) hz).mono ?_); rintro e w2 ⟨rfl, hB2, hK2⟩)))
          go_roundw
          case rel => exact ⟨k + 1, by go_num, by omega, by rw [htk.out, he.out]; simpa using hB2, hK.trans hK2⟩
          case measure => simp [intOf]; omega
        | false =>
          have he : Hid (enc s[k] = [92, 120, hexc (s[k].toNat / 16), hexc (s[k].toNat % 16)]) := Lib.hid (by unfold enc; rw [if_neg hq, if_neg (by rw [hsh]; decide)])
          have hshH := Lib.hid hsh
          have hc256 : s[k].toNat < 256 := s[k].toNat_lt
          have d0 : 0 ≤ (s[k].toNat : Int) / 16 := by omega
          have d1 : (s[k].toNat : Int) / 16 < 16 := by omega
          have d2 : ((s[k].toNat : Int) / 16).toNat = s[k].toNat / 16 := by omega
          have hW20 := Lib.hid (ws_as (s := ⟨#[92, 120]⟩) hBd (by show _ + 2 ≤ _; omega) hz)
          clear hq hel htl hsh
          go_wp2_with (first
            | (go_at_call 31; ((with_reducible refine (shown_any s[k] _ false hshH).mono ?_); rintro e w' ⟨rfl, rfl⟩))
            | (go_at_call 20; ((with_reducible refine hW20.out.mono ?_); rintro e w1 ⟨⟨n, rfl⟩, hB1, hK1⟩; have hz1 := Nat.le_trans hz hK1.size)))
          have hlb : (l ++ [34] ++ encs (s.data.toList.take k) ++ [92, 120]).length ≤ 1099511627100 := by
            rw [List.length_append]; show _ + 2 ≤ _; omega
          go_wp2_with (go_at_call 18; ((with_reducible refine (wb_as (hexc (s[k].toNat / 16)) (hexc_v _ _) hB1 (by omega) hz1).mono ?_); rintro e w2 ⟨rfl, hB2, hK2⟩))
          have hz2 := Nat.le_trans hz1 hK2.size
          have hlc : (l ++ [34] ++ encs (s.data.toList.take k) ++ [92, 120] ++ [hexc (s[k].toNat / 16)]).length ≤ 1099511627200 := by
            rw [List.length_append]; show _ + 1 ≤ _; omega
          go_wp2_with (go_at_call 18; ((with_reducible refine (wb_as (hexc (s[k].toNat % 16)) (hexc_v _ _) hB2 (by omega) hz2).mono ?_); rintro e w3 ⟨rfl, hB3, hK3⟩))
          go_roundw
          case rel => exact ⟨k + 1, by go_num, by omega, by rw [htk.out, he.out]; simpa using hB3, ((hK.trans hK1).trans hK2).trans hK3⟩
          case measure => simp [intOf]; omega
    · have htk : Hid (s.data.toList.take k = s.data.toList) := Lib.hid (List.take_of_length_le (by simp; omega))
      go_wp2_with (go_at_call 18; ((with_reducible refine (wb_as 34 (show ((34 : UInt8).toNat : Int) = 34 from rfl) hBd (by omega) hz).mono ?_); rintro e w2 ⟨rfl, hB2, hK2⟩))
      go_end0
      refine ⟨rfl, ?_, hK.trans hK2⟩
      rw [htk.out] at hB2
      simpa using hB2
end Go.Proofs.YtkghdnifgoeljaaDoor
