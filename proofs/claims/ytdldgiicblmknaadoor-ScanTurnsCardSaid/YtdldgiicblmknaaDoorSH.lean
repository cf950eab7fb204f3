/-
  The walk of scan.Scan. The table of factors holds what the program's text lays; a table's shape; a cursor's bound.
-/
import Derived.Test.YtdldgiicblmknaaDoorSG
import Derived.Test.YtdldgiicblmknaaDoorSD
import Derived.Deep.Cut
namespace Go.Proofs.YtdldgiicblmknaaDoor
open Go.RowKit

/-- How many keys are asked for, at least one; how many turns Scan makes at most. -/
def cntN (count : Int) : Nat := (max count 1).toNat
def turnsN (count : Int) : Nat := 10 * min (cntN count) 100000
theorem turnsN_le (count : Int) : turnsN count ≤ 1000000 := by unfold turnsN; omega
theorem turnsN_pos (count : Int) : 0 < turnsN count := by unfold turnsN cntN; omega
/-- A turn's keys. -/
def tK (X : Tb) (c : Nat) : List ByteArray := kys (tL X c)
theorem tK_len {X : Tb} (hI : Inv X) (hP : Par X) (c : Nat) : (tK X c).length ≤ 3000000 := by
  unfold tK
  rw [kys_len]
  obtain ⟨hp0, hp1⟩ := part_len hI
  have a0 := hp0 (c % pw (tS X))
  have a1 := hp1 (c % pw (tS X))
  have a2 := hp0 (c % pw (tS X) + pw (tS X))
  have a3 := hp1 (c % pw (tS X) + pw (tS X))
  obtain ⟨_, _, h | h | h⟩ := shape hI hP
  · rw [h.2.2]; omega
  · rw [h.2.2.2.2, List.length_append, List.length_append]; omega
  · rw [h.2.2.2.2, List.length_append, List.length_append]; omega
theorem nxt_small (s c : Nat) (hs : s ≤ 16) : nxt s c < 18446744073709551616 := by
  have h1 := nxt_lt s c
  have h2 := pow_le16 hs
  omega

set_option maxHeartbeats 2000000 in
theorem scan_at {B : Nat} {X : Tb} {w : World} (h : Ok B X w) (hP : Par X) (c : Nat) (hc : c < 18446744073709551616) (count : Int) (hcnt : -9223372036854775808 ≤ count ∧ count ≤ 9223372036854775807) :
    Calls Tryd.prog 15 #[.pointer (some ⟨X.T, 0, none⟩), .int .u64 c, .int .i64 count] w fun r w' => ∃ v', r = .returned (.tuple #[.int .u64 (((scanF (tS X) (tK X) (cntN count) (turnsN count) c []).1 : Nat) : Int), v']) ∧ RowT w' w.heap.size v' (scanF (tS X) (tK X) (cntN count) (turnsN count) c []).2 ∧ Below w.heap.size w w' := by
  have hs16 := (shape h.inv hP).2.1
  have hH := Lib.hid h
  have htn : Hid (∀ w1, Below w.heap.size w w1 → ∀ c : Nat, c < 18446744073709551616 → Calls Tryd.prog 13 #[.pointer (some ⟨X.T, 0, none⟩), .int .u64 (c : Int)] w1 fun r w' => ∃ v', r = .returned (.tuple #[.int .u64 ((nxt (tS X) c : Nat) : Int), v']) ∧ RowT w' w1.heap.size v' (tK X c) ∧ Below w1.heap.size w1 w') := Lib.hid fun w1 hb c hc => turn_at (hH.out.after hb) hP c hc
  have hlen : Hid (∀ c, (tK X c).length ≤ 3000000) := Lib.hid fun c => tK_len hH.out.inv hP c
  have hN := turnsN_le count
  have hC : max count 1 = ((cntN count : Nat) : Int) := by unfold cntN; omega
  have hM : min ((cntN count : Nat) : Int) 100000 = ((min (cntN count) 100000 : Nat) : Int) := by omega
  have hNM : (10 : Int) * ((min (cntN count) 100000 : Nat) : Int) = ((turnsN count : Nat) : Int) := by unfold turnsN; omega
  have hMb : min (cntN count) 100000 ≤ 100000 := Nat.min_le_right _ _
  generalize min (cntN count) 100000 = M at *
  generalize turnsN count = N at *
  have hC1 : 1 ≤ cntN count := by unfold cntN; omega
  have hC2 : cntN count ≤ 9223372036854775807 := by unfold cntN; omega
  generalize cntN count = C at *
  generalize htL : tK X = tl at *
  have hnx := fun c => nxt_small (tS X) c hs16
  generalize tS X = s at *
  clear h htL hP
  go_enter Tryd.func15, Tryd.ntmps15
  go_wp2_with fail
  go_loopw [1, 8, 16] (fun s1 s8 s16 wr => ∃ (i c' : Nat) (acc : List ByteArray) (v8 : Value), i ≤ N ∧ c' < 18446744073709551616 ∧ s16 = .int .i64 i ∧ s1 = .int .u64 c' ∧ v8 = s8 ∧ Hid (RowT wr w.heap.size v8 acc) ∧ Hid (Below w.heap.size w wr) ∧ Hid (acc.length ≤ 3000000 * i) ∧ Hid (scanF s tl C (N - i) c' acc = scanF s tl C N c [])) (fun s1 s8 s16 _ => N - (intOf s16).toNat)
  case atStart => exact ⟨0, c, [], _, by omega, hc, rfl, rfl, rfl, Lib.hid (rowT_nil _ _), Lib.hid (Below.refl _ _), Lib.hid (by simp), Lib.hid rfl⟩
  case round =>
    obtain ⟨i, c', acc, v8, hi, hc', rfl, rfl, rfl, how, hB, hal, hsc⟩ := hrel
    by_cases hlt : i < N
    · have htu := Lib.hid (htn.out wr hB.out c' hc')
      have hl2 := hlen.out c'
      have hnx' := hnx c'
      obtain ⟨f, hf⟩ : ∃ f, N - i = f + 1 := ⟨N - i - 1, by omega⟩
      have hfi : Hid (N - (i + 1) = f) := Lib.hid (by omega)
      have hen : Hid (C ≤ (acc ++ tl c').length ∨ nxt s c' = 0 → (nxt s c', acc ++ tl c') = scanF s tl C N c []) := Lib.hid fun hh => by rw [← hsc.out, hf, scanF_end hh]
      have hmo : Hid (¬(C ≤ (acc ++ tl c').length ∨ nxt s c' = 0) → scanF s tl C f (nxt s c') (acc ++ tl c') = scanF s tl C N c []) := Lib.hid fun hh => by rw [← hsc.out, hf, scanF_more hh]
      generalize hnn : nxt s c' = nn at *
      have hal2 : Hid ((acc ++ tl c').length ≤ 3000000 * (i + 1)) := Lib.hid (by rw [List.length_append]; have := hal.out; omega)
      have hal3 : Hid (acc.length + (tl c').length ≤ 8000000000000) := Lib.hid (by have := hal.out; omega)
      generalize htc : tl c' = tc at *
      clear hsc hf hal hnn htc hl2
      go_upto_region 8 with (first
        | (go_at_call 13; ((with_reducible refine (htu.out).mono ?_); rintro e w1 ⟨v1, rfl, how1, hb1⟩))
        | (at_builtin; refine wpList_append_rowT rfl (.tmp 25) (.tmp 26) rfl w.heap.size wr.heap.size v8 v1 _ _ rfl rfl (how.out.stay hb1) how1 hal3.out (by have := hB.out.size; have := hb1.size; omega) ?happ))
      case happ =>
        intro v2 w2 how2 ho2 hv2
        have hb2 : Below w.heap.size w w1 := onB hB.out hb1 hB.out.size
        have hb3 := Lib.hid (hb2.trans (ho2.below hb2.size (fun k hk => (how.out.lt k (by simpa using hk)).1)))
        obtain ⟨A2, cap2, rfl⟩ := how2.len
        have how2H := Lib.hid how2
        clear how2 ho2 hv2 how1 hb1 hb2
        generalize hac : acc ++ tc = ac at *
        generalize hac2 : ac.length = n2 at *
        have hn2 := hal2.out
        by_cases hge : C ≤ n2
        · have hd1 : decide ((C : Int) ≤ (n2 : Int)) = true := by simp; omega
          have hE := Lib.hid (hen.out (Or.inl hge))
          go_wp2_with fail
          go_ret2
          rw [← hE.out]
          exact ⟨.slice A2 n2 cap2, rfl, how2H.out, hb3.out⟩
        · have hd1 : decide ((C : Int) ≤ (n2 : Int)) = false := by simp; omega
          by_cases hz : nn = 0
          · have hE := Lib.hid (hen.out (Or.inr hz))
            subst hz
            go_wp2_with fail
            go_ret2
            rw [← hE.out]
            exact ⟨.slice A2 n2 cap2, rfl, how2H.out, hb3.out⟩
          · have hd2 : ((nn : Int) == 0) = false := by simp; omega
            have hd3 : decide ((nn : Int) = 0) = false := by simp; omega
            have hE := Lib.hid (hmo.out (fun hh => hh.elim hge hz))
            go_wp2_with fail
            go_roundw
            case rel => exact ⟨i + 1, nn, ac, _, by omega, hnx', by go_num, rfl, rfl, how2H, hb3, Lib.hid (by rw [hac2]; exact hn2), Lib.hid (by rw [hfi.out]; exact hE.out)⟩
            case measure => simp [intOf]; omega
    · have hiN : i = N := by omega
      subst hiN
      have hE := hsc.out
      rw [Nat.sub_self, scanF_zero] at hE
      have hEH := Lib.hid hE
      clear hE hsc
      go_wp2_with fail
      go_ret2
      rw [← hEH.out]
      exact ⟨_, rfl, how.out, hB.out⟩

end Go.Proofs.YtdldgiicblmknaaDoor
