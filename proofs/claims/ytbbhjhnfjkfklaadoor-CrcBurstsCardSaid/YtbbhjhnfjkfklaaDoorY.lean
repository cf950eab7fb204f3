/-
  The law Bursts: what is sealed, and spoilt by a burst of 32 bits, does not fit. No condition but the lengths that Go's own strings have.
-/
import Derived.Test.YtbbhjhnfjkfklaaDoorX
import Derived.Test.YtbbhjhnfjkfklaaDoorMathB
import Derived.Lib.ConvBytes
import Derived.Lib.AtoiErrMem
namespace Go.Proofs.YtbbhjhnfjkfklaaDoor
open Go.RowKit

/-- A row of bytes in memory, with room behind. -/
def RowB (w : World) (g m : Nat) (r : List Nat) : Prop := ∃ C : Array Value, w.heap[g]? = some (.cells C 5 (m, m + 1)) ∧ C.size = m ∧ r.length ≤ m ∧ ∀ (j x : Nat), r[j]? = some x → C[j]? = some (.int .u8 (x : Int))
theorem RowB.cell {w : World} {g m : Nat} {r : List Nat} (h : RowB w g m r) {j : Nat} (hj : j < r.length) : w.cell? ⟨g, j, none⟩ = some (.int .u8 (r.getD j 0 : Nat)) ∧ w.frozen? ⟨g, j, none⟩ = false := by
  obtain ⟨C, h1, h2, h3, h4⟩ := h
  refine ⟨(Lib.cell_of_heap h1 j).trans ?_, ?_⟩
  · rw [h4 j r[j] (List.getElem?_eq_getElem hj), List.getD_eq_getElem?_getD, List.getElem?_eq_getElem hj]
    rfl
  · simp [World.frozen?, h1]
    omega
theorem RowB.set {w : World} {g m : Nat} {r : List Nat} (h : RowB w g m r) (j x : Nat) : RowB (w.setCell ⟨g, j, none⟩ (.int .u8 (x : Int))) g m (r.set j x) := by
  obtain ⟨C, h1, h2, h3, h4⟩ := h
  refine ⟨C.setIfInBounds j (.int .u8 (x : Int)), Joins.block_setCell h1 _, by rw [Array.size_setIfInBounds]; exact h2, by rw [List.length_set]; exact h3, fun i y hy => ?_⟩
  rw [Array.getElem?_setIfInBounds]
  by_cases e : j = i
  · subst e
    have hj : j < r.length := by
      have := (List.getElem?_eq_some_iff.1 hy).1
      rwa [List.length_set] at this
    rw [List.getElem?_set_self hj] at hy
    cases hy
    rw [if_pos rfl, if_pos (by omega)]
  · rw [List.getElem?_set_ne e] at hy
    rw [if_neg e]
    exact h4 i y hy
theorem shr_nat (x i : Nat) : ((x : Int) / 2 ^ i) = ((x / 2 ^ i : Nat) : Int) := by
  rw [Int.natCast_ediv, Int.natCast_pow]
  rfl
theorem bit_and {x i : Nat} (h : x < 4294967296) : bits .and .u32 ((x : Int) / 2 ^ i) 1 = ((x / 2 ^ i % 2 : Nat) : Int) := by
  rw [shr_nat]
  exact and_one (Nat.lt_of_le_of_lt (Nat.div_le_self _ _) h)
theorem xor_u8 {a b : Nat} (ha : a < 256) (hb : b < 256) : bits .xor .u8 (a : Int) (b : Int) = ((a ^^^ b : Nat) : Int) := by
  have hx : a ^^^ b < 256 := Nat.xor_lt_two_pow (n := 8) ha hb
  have h1 : (BitVec.ofInt 8 (a : Int)).toNat = a := by
    rw [BitVec.ofInt_natCast, BitVec.toNat_ofNat]; exact Nat.mod_eq_of_lt (by omega)
  have h2 : (BitVec.ofInt 8 (b : Int)).toNat = b := by
    rw [BitVec.ofInt_natCast, BitVec.toNat_ofNat]; exact Nat.mod_eq_of_lt (by omega)
  show IntKind.u8.wrap ((BitVec.ofInt 8 (a : Int) ^^^ BitVec.ofInt 8 (b : Int)).toNat : Int) = _
  rw [BitVec.toNat_xor, h1, h2, wrap_u8]
  omega
theorem run_ixB (g k n cap : Nat) (hk : k < n) (w : World) : Sem.run Tryd.prog (Instr.indexAt 34 (.slice (some ⟨g, 0, none⟩) n cap) (.int .i64 (k : Int))) w = .ok (.pointer (some ⟨g, k, none⟩)) w := by
  go_simp
theorem RowB.text {w : World} {g m : Nat} {r : List Nat} (h : RowB w g m r) (hr : ∀ x ∈ r, x < 256) (cap : Nat) : ∃ t : ByteArray, bt t = r ∧ (convert 34 9 (.slice (some ⟨g, 0, none⟩) r.length cap)).run Tryd.prog w = .ok (.string t) w := by
  obtain ⟨C, h1, h2, h3, h4⟩ := h
  have hb : ∀ x ∈ r, (UInt8.ofNat x).toNat = x := fun x hx => by
    have := hr x hx
    simp
    omega
  refine ⟨⟨(r.map UInt8.ofNat).toArray⟩, ?_, ?_⟩
  · unfold bt
    simp only [List.map_map]
    conv => rhs; rw [← List.map_id r]
    exact List.map_congr_left (fun x hx => hb x hx)
  · have hl : (r.map UInt8.ofNat).length = r.length := List.length_map ..
    have := run_convert_bytes_back (P := Tryd.prog) w 34 9 5 ⟨g, 0, none⟩ cap (r.map UInt8.ofNat) Tryd.underlying34 Tryd.underlying5 Tryd.underlying9 (Lib.bytes_of_row h1 (by
      rw [hl]
      unfold Lib.byteCells
      rw [List.map_map]
      apply List.ext_getElem?
      intro j
      rw [List.getElem?_take, List.getElem?_map]
      by_cases hj : j < r.length
      · rw [if_pos hj, List.getElem?_eq_getElem hj, Array.getElem?_toList, h4 j r[j] (List.getElem?_eq_getElem hj)]
        simp only [Option.map_some, Function.comp]
        rw [hb _ (List.getElem_mem hj)]
      · rw [if_neg hj, List.getElem?_eq_none (by omega)]
        rfl))
    rwa [hl] at this
theorem bursts_end (w : World) (x1 x2 : Int) (s : ByteArray) (hs : s.size ≤ maxLen) (hq : farS [s] = true ∨ x2 = 0) (hT : Tab w) : Calls Tryd.prog 5 #[.string s, .int .i64 x1, .int .u32 x2] w fun e w' => e = .returned (.bool true) ∧ Below w.heap.size w w' := by
  have hF : Hid (Calls Tryd.prog 6 #[.slice (some ⟨w.heap.size, 0, none⟩) 1 1] (w.alloc (.cells #[.string s] 9)) fun e w' => e = .returned (.bool (farS [s])) ∧ Only [] (w.alloc (.cells #[.string s] 9)) w') := Lib.hid (far_any (c := 1) (keys_one w s) (by simp) (by simp) (fun k hk => by rw [List.mem_singleton.1 hk]; exact hs))
  have o0 := Lib.hid (show Only [] w (w.alloc (.cells #[.string s] 9)) from (Only.refl [] w).alloc _)
  cases hf : farS [s] with
  | true =>
    rw [hf] at hF
    clear hs hf hq
    go_enter Tryd.func5, Tryd.ntmps5
    go_wp2_with (first
      | (go_at_call 6; (with_reducible refine (hF.out).mono ?_); rintro e w1 ⟨rfl, o1⟩; have o1H := Lib.hid (only_nil o0.out o1); clear o1)
      | (go_at_call 7; (with_reducible refine (alive_any _ (hT.keep o1H.out)).mono ?_); rintro e w2 ⟨rfl, o2⟩))
    go_ret
    exact ⟨rfl, (only_nil o1H.out o2).below (Nat.le_refl _) (by simp)⟩
  | false =>
    rw [hf] at hF
    have hx : x2 = 0 := hq.resolve_left (fun e => by rw [hf] at e; cases e)
    subst hx
    clear hs hf hq
    go_enter Tryd.func5, Tryd.ntmps5
    go_wp2_with (first
      | (go_at_call 6; (with_reducible refine (hF.out).mono ?_); rintro e w1 ⟨rfl, o1⟩; have o1H := Lib.hid (only_nil o0.out o1); clear o1)
      | (go_at_call 7; (with_reducible refine (alive_any _ (hT.keep o1H.out)).mono ?_); rintro e w2 ⟨rfl, o2⟩))
    go_ret
    exact ⟨rfl, (only_nil o1H.out o2).below (Nat.le_refl _) (by simp)⟩
set_option maxHeartbeats 8000000 in
theorem bursts_any (w : World) (x1 x2 : Int) (s : ByteArray) (hs : s.size ≤ maxLen) (l2 : 0 ≤ x2) (u2 : x2 ≤ 4294967295) (hT : Tab w) : Calls Tryd.prog 5 #[.string s, .int .i64 x1, .int .u32 x2] w fun e w' => e = .returned (.bool true) ∧ Below w.heap.size w w' := by
  by_cases hq : farS [s] = true ∨ x2 = 0
  · exact bursts_end w x1 x2 s hs hq hT
  · have hf : farS [s] = false := Bool.eq_false_iff.2 (fun e => hq (Or.inl e))
    have hF : Hid (Calls Tryd.prog 6 #[.slice (some ⟨w.heap.size, 0, none⟩) 1 1] (w.alloc (.cells #[.string s] 9)) fun e w' => e = .returned (.bool (farS [s])) ∧ Only [] (w.alloc (.cells #[.string s] 9)) w') := Lib.hid (far_any (c := 1) (keys_one w s) (by simp) (by simp) (fun k hk => by rw [List.mem_singleton.1 hk]; exact hs))
    have o0 := Lib.hid (show Only [] w (w.alloc (.cells #[.string s] 9)) from (Only.refl [] w).alloc _)
    rw [hf] at hF
    have hsz := (farS_no hf).1 s (by simp)
    obtain ⟨mask, rfl⟩ : ∃ n : Nat, x2 = (n : Int) := ⟨x2.toNat, by omega⟩
    have hm0 : mask ≠ 0 := fun e => hq (Or.inr (by omega))
    have hmz : ((mask : Int) == 0) = false := beq_false_of_ne (by omega)
    have hmH : Hid (mask ≠ 0 ∧ mask < 4294967296) := Lib.hid ⟨hm0, by omega⟩
    have hTbH := Lib.hid hT
    obtain ⟨T, hTe⟩ : ∃ T, T = sealB s := ⟨_, rfl⟩
    have hS := Lib.hid (fun W (hW : Only [] w W) => seal_any s (by omega) W (hT.keep hW))
    rw [← hTe] at hS
    obtain ⟨N, hN⟩ : ∃ N, N = T.size := ⟨_, rfl⟩
    have hN4 : 4 ≤ N ∧ N ≤ 2004 := by rw [hN, hTe, seal_size]; omega
    have hNH := Lib.hid hN
    have hTH := Lib.hid hTe
    clear hs hf hq hm0 hTe hT l2 u2
    have hw8 := wrap_small (x := 8 * (N : Int)) (by omega)
    have hw31 := wrap_small (x := 8 * (N : Int) - 31) (by omega)
    have hdl : decide ((N : Int) < 4) = false := decide_eq_false (by omega)
    go_enter Tryd.func5, Tryd.ntmps5
    go_upto_region 4 with (first
      | (go_at_call 6; (with_reducible refine (hF.out).mono ?_); rintro e w1 ⟨rfl, o1⟩; have o1H := Lib.hid (only_nil o0.out o1); clear o1 hF)
      | (go_at_call 15; (with_reducible refine (hS.out _ o1H.out).mono ?_); rintro e w2 ⟨rfl, o2⟩; have o2H := Lib.hid (only_nil o1H.out o2); have hcv := Lib.run_convert_string_bytes (P := Tryd.prog) w2 9 34 5 T (u := .string) Tryd.underlying9 Tryd.underlying34 Tryd.underlying5; clear o2))
    obtain ⟨m, hm⟩ : ∃ m, m = (Lib.bytesCells w2 5 T).size := ⟨_, rfl⟩
    have hNm : N ≤ m := by
      rw [hm, hN]
      unfold Lib.bytesCells
      rw [Array.size_append, Array.size_map]
      exact Nat.le_add_right _ _
    have hrow : RowB (Lib.bytesWorld w2 5 T) w2.heap.size m (bt T) := by
      refine ⟨_, by rw [hm]; exact Lib.bytesWorld_at_new w2 5 T, hm.symm, by rw [bt_len, ← hN]; exact hNm, fun j x hx => ?_⟩
      have hj : j < T.size := by rw [← bt_len]; exact (List.getElem?_eq_some_iff.1 hx).1
      have h1 := Lib.bytesWorld_cell w2 5 T j hj
      rw [Lib.cell_of_heap (Lib.bytesWorld_at_new w2 5 T) j] at h1
      rw [h1]
      have h2 : x = (T.data.toList.getD j 0).toNat := by
        rw [bt_at hj] at hx
        cases hx
        rw [List.getD_eq_getElem?_getD, List.getElem?_eq_getElem (by rw [Array.length_toList]; exact hj)]
        rfl
      rw [h2]
    have hbel := Lib.bytesWorld_below w2 5 T
    generalize grownCap w2 T.size 0 5 = cap at *
    generalize Lib.bytesWorld w2 5 T = W3 at *
    rw [← hN] at hcv
    have hrowH := Lib.hid hrow
    have hbelH := Lib.hid hbel
    obtain ⟨g, hg⟩ : ∃ g, g = w2.heap.size := ⟨_, rfl⟩
    rw [← hg] at hrowH hcv ⊢
    have hgH := Lib.hid hg
    clear hg
    rw [← hN]
    clear hm hrow hbel hcv hS hN
    have hfrom : ∃ a : Nat, wrap64 ((IntKind.u64.wrap x1).tmod (8 * (N : Int) - 31)) = (a : Int) ∧ a + 32 ≤ 8 * N := by
      have h1 : 0 ≤ IntKind.u64.wrap x1 := by rw [IntKind.wrap_u64]; omega
      have h2 : (IntKind.u64.wrap x1).tmod (8 * (N : Int) - 31) = IntKind.u64.wrap x1 % (8 * (N : Int) - 31) := Int.tmod_eq_emod_of_nonneg h1
      have h3 := Int.emod_nonneg (IntKind.u64.wrap x1) (b := 8 * (N : Int) - 31) (by omega)
      have h4 := Int.emod_lt_of_pos (IntKind.u64.wrap x1) (b := 8 * (N : Int) - 31) (by omega)
      rw [h2, IntWalk.wrap64_in _ (by omega)]
      exact ⟨(IntKind.u64.wrap x1 % (8 * (N : Int) - 31)).toNat, by omega, by omega⟩
    obtain ⟨a, hfr, ha⟩ := hfrom
    have haH := Lib.hid ha
    go_upto_region 7 with (fail)
    rw [hfr]
    clear hfr hw8 hw31 hdl hmz
    go_wp2_with fail
    go_loopw [34] (fun s34 wr => ∃ i : Nat, i ≤ 32 ∧ s34 = .int .i64 i ∧ Hid (∃ r, RowB wr g m r ∧ Spoilt (bt T) r a mask i) ∧ Hid (Below w2.heap.size w2 wr)) (fun s34 _ => 32 - (intOf s34).toNat)
    case atStart => exact ⟨0, by omega, rfl, Lib.hid ⟨_, hrowH.out, spoilt_start (bt_lt T) a mask⟩, hbelH⟩
    case round =>
      obtain ⟨i, hi, rfl, hr, hon⟩ := hrel
      by_cases hil : i < 32
      · have hlt : decide ((i : Int) < 32) = true := decide_eq_true (by omega)
        have hwk := wrap_small (x := (i : Int) + 1) (by omega)
        have hwa := wrap_small (x := (a : Int) + (i : Int)) (by omega)
        have hbd := bit_and (i := i) hmH.out.2
        have hilH := Lib.hid hil
        by_cases hb : mask / 2 ^ i % 2 = 1
        · have hbt : (bits .and .u32 ((mask : Int) / 2 ^ i) 1 == 1) = true := by rw [hbd, hb]; rfl
          have hbH := Lib.hid hb
          clear hb hbd
          go_upto_region 12 with (fail)
          obtain ⟨k, hk⟩ : ∃ k, k = a + i := ⟨_, rfl⟩
          have hki : (a : Int) + (i : Int) = (k : Int) := by omega
          rw [hki]
          obtain ⟨r, hR, hSp⟩ := hr.out
          have hk8 : k / 8 < N := by omega
          have hrl : r.length = N := by rw [hSp.1, bt_len]; exact hNH.out.symm
          have hq1 : (k : Int).tdiv 8 = ((k / 8 : Nat) : Int) := by rw [Int.tdiv_eq_ediv_of_nonneg (by omega)]; omega
          have hq2 : (k : Int).tmod 8 = ((k % 8 : Nat) : Int) := by rw [Int.tmod_eq_emod_of_nonneg (by omega)]; omega
          have hq3 := wrap_small (x := ((k / 8 : Nat) : Int)) (by omega)
          have hq4 := wrap_small (x := ((k % 8 : Nat) : Int)) (by omega)
          have hm8 : k % 8 < 8 := by omega
          have hix := run_ixB g (k / 8) N cap hk8
          obtain ⟨hce, hfz⟩ := hR.cell (j := k / 8) (by rw [hrl]; exact hk8)
          have hkH := Lib.hid hk
          have hrk : k / 8 < r.length := by rw [hrl]; exact hk8
          have hg2 : r.getD (k / 8) 0 = r[k / 8] := by rw [List.getD_eq_getElem?_getD, List.getElem?_eq_getElem hrk]; rfl
          have hp2 : (2 : Int) ^ (k % 8) % 256 = ((2 ^ (k % 8) : Nat) : Int) := by
            have h9 : 2 ^ (k % 8) < 256 := Nat.pow_lt_pow_right (n := 8) (by omega) hm8
            have e : (2 : Int) ^ (k % 8) = ((2 ^ (k % 8) : Nat) : Int) := by rw [Int.natCast_pow]; rfl
            rw [e]
            generalize (2 : Nat) ^ (k % 8) = z at h9 ⊢
            omega
          obtain ⟨z, hz⟩ : ∃ z, z = r.getD (k / 8) 0 ^^^ 2 ^ (k % 8) := ⟨_, rfl⟩
          have hval : bits .xor .u8 (r[k / 8] : Int) (2 ^ (k % 8) % 256) = (z : Int) := by
            rw [hp2, hz, hg2]
            exact xor_u8 (hSp.2.1 _ (List.getElem_mem hrk)) (Nat.pow_lt_pow_right (a := 2) (n := 8) (by omega) hm8)
          have hnext : Hid (RowB (wr.setCell ⟨g, k / 8, none⟩ (.int .u8 (z : Int))) g m (r.set (k / 8) z) ∧ Spoilt (bt T) (r.set (k / 8) z) a mask (i + 1)) := Lib.hid ⟨hR.set _ _, by
            rw [hz]
            rw [hk]
            exact spoilt_one hSp hbH.out (by rw [← hk, bt_len, ← hNH.out]; exact hk8)⟩
          have hb4 : Hid (Below w2.heap.size w2 (wr.setCell ⟨g, k / 8, none⟩ (.int .u8 (z : Int))).drew) := Lib.hid ((hon.out.setCell (p := ⟨g, k / 8, none⟩) (by rw [← hgH.out]; exact Nat.le_refl _) _).drew)
          have hvalH := Lib.hid hval
          clear hwa hki hlt hil hwk hk hz hp2 hg2 hval hSp
          go_region
          all_goals rw [hvalH.out]
          all_goals clear hce hfz hix hq1 hq2 hq3 hq4
          all_goals have hwk := wrap_small (x := (i : Int) + 1) (by have := hilH.out; omega)
          all_goals go_wp2_with fail
          all_goals refine ⟨⟨i + 1, by have := hilH.out; omega, by go_num, Lib.hid ⟨_, hnext.out.1, hnext.out.2⟩, hb4⟩, by have := hilH.out; simp [intOf]; omega⟩
        · have hb0 : mask / 2 ^ i % 2 = 0 := by omega
          have hbt : (bits .and .u32 ((mask : Int) / 2 ^ i) 1 == 1) = false := by rw [hbd, hb0]; rfl
          have hbH := Lib.hid hb0
          clear hb hb0 hbd
          go_wp2_with fail
          refine ⟨⟨i + 1, by have := hilH.out; omega, by go_num, Lib.hid ?_, hon⟩, by have := hilH.out; simp [intOf]; omega⟩
          obtain ⟨r, hR, hSp⟩ := hr.out
          exact ⟨r, hR, spoilt_none hSp hbH.out⟩
      · have hi32 : i = 32 := by omega
        subst hi32
        obtain ⟨r, hR, hSp⟩ := hr.out
        obtain ⟨t, ht, hcv⟩ := hR.text hSp.2.1 cap
        have hrl : r.length = N := by rw [hSp.1, bt_len]; exact hNH.out.symm
        rw [hrl] at hcv
        have hts : t.size ≤ 1099511627776 := by rw [← bt_len, ht, hrl]; omega
        have hfit : fitsB t = false := by
          refine spoilt_fits (s := s) (a := a) (mask := mask) ?_ hmH.out.1 hmH.out.2 ?_
          · rw [← hTH.out, ht]; exact hSp
          · rw [← hTH.out, bt_len, ← hNH.out]; exact haH.out
        have hFi := fits_any t hts wr (hTbH.out.keep (only_nil o2H.out ⟨(hon.out.mono (Nat.zero_le _)), fun k hk _ => hon.out.block k hk⟩))
        rw [hfit] at hFi
        have hFiH := Lib.hid hFi
        have hon2 := Lib.hid (show Only [] w wr from only_nil o2H.out ⟨(hon.out.mono (Nat.zero_le _)), fun k hk _ => hon.out.block k hk⟩)
        clear hR hSp ht hrl hts hfit hFi hil hi
        go_wp2_with (first
          | (go_at_call 16; (with_reducible refine (hFiH.out).mono ?_); rintro e w5 ⟨rfl, o5⟩; have o5H := Lib.hid (only_nil hon2.out o5); clear o5)
          | (go_at_call 7; (with_reducible refine (alive_any _ (hTbH.out.keep o5H.out)).mono ?_); rintro e w6 ⟨rfl, o6⟩))
        go_ret
        exact ⟨rfl, (only_nil o5H.out o6).below (Nat.le_refl _) (by simp)⟩
end Go.Proofs.YtbbhjhnfjkfklaaDoor
