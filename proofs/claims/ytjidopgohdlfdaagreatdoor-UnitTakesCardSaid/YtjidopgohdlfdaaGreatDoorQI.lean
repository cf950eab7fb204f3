/-
  The walk of what goes past a line, and of one step. Premises: how the holder lies, and that numbers are small; the library's variable ErrSyntax holds an error, or none.
-/
import Derived.Test.YtjidopgohdlfdaaGreatDoorQH
namespace Go.Proofs.YtjidopgohdlfdaaGreatDoor
open Go.RowKit Dec Pq S4

section
variable {w0 W : World} {g A B L : Nat} {q : List MR}
def lineF (A B L : Nat) (s : List UInt8) : Sum Int (Inp × List Rq) := match oneF A B L s with
  | .inl e => .inl e
  | .inr (l, k) => .inr (goneL s l k)
theorem oneF_arg {s p : List UInt8} (h : lineGo L [] s = .inr p) : oneF A B L s = match argF A B (strip p) with
    | .inl e => .inl e
    | .inr l => .inr (l, p.length + 1) := by
  unfold oneF argF
  rw [h]
  simp only []
  cases Ln.spl (strip p) with
  | none => rfl
  | some l =>
    simp only []
    by_cases h1 : A < l.length
    · rw [if_pos h1, if_pos h1]
    · rw [if_neg h1, if_neg h1]
      split <;> rfl
theorem strip_trim (l : List UInt8) : Lib.trimSuffix l [13] = strip l := by
  unfold Lib.trimSuffix strip Lib.hasSuffix
  by_cases h : l.getLast? = some 13
  · rw [if_pos h]
    obtain ⟨p, rfl⟩ := List.getLast?_eq_some_iff.1 h
    simp
  · rw [if_neg h, if_neg]
    intro hs
    simp only [List.isSuffixOf_iff_suffix] at hs
    obtain ⟨p, rfl⟩ := hs
    simp at h
theorem idx_as (t : ByteArray) (w : World) (k : Int) (h : Hid (Lib.indexByte t.data.toList 10 = k)) : Calls Tryz.prog 87 #[.string t, .int .u8 10] w fun e w' => e = .returned (.int .i64 k) ∧ w = w' :=
  (Tryz.strings_IndexByte t 10 w).mono fun e w' ⟨h1, h2⟩ => ⟨by rw [h1]; exact congrArg (fun z => Ending.returned (.int .i64 z)) h.out, h2.symm⟩
theorem trim_as (t : ByteArray) (w : World) (hs : t.size ≤ 9223372036854775807) : Calls Tryz.prog 89 #[.string t, .string ⟨#[13]⟩] w fun e w' => e = .returned (.string ⟨(strip t.data.toList).toArray⟩) ∧ w = w' :=
  (Tryz.strings_TrimSuffix t ⟨#[13]⟩ w hs).mono fun e w' ⟨h1, h2⟩ => ⟨by rw [h1]; exact congrArg (fun z => Ending.returned (.string ⟨z⟩)) (congrArg List.toArray (strip_trim _)), h2.symm⟩
theorem strip_len (l : List UInt8) : (strip l).length ≤ l.length := by
  unfold strip
  split <;> simp
theorem fins_rq (ss : List ByteArray) (n : Nat) : (fins ss n).map rq = if (txt ss).isEmpty then [] else [(txt ss, n)] := by
  cases ss with
  | nil => rfl
  | cons a l => rfl
theorem argF_err {t : List UInt8} {e : Int} (h : argF A B t = .inl e) : e = 16 ∨ e = 7 ∨ e = 6 := by
  unfold argF at h
  cases hs : Ln.spl t with
  | none => rw [hs] at h; exact Or.inl (Sum.inl.inj h).symm
  | some l =>
    rw [hs] at h
    simp only [] at h
    split at h
    · exact Or.inr (Or.inl (Sum.inl.inj h).symm)
    · split at h
      · exact Or.inr (Or.inr (Sum.inl.inj h).symm)
      · cases h
theorem argF_ok {t : List UInt8} {l : List (List UInt8)} (h : argF A B t = .inr l) : l.length ≤ A := by
  unfold argF at h
  cases hs : Ln.spl t with
  | none => rw [hs] at h; cases h
  | some m =>
    rw [hs] at h
    simp only [] at h
    split at h
    · cases h
    · split at h
      · cases h
      · rw [← Sum.inr.inj h]; omega
set_option maxRecDepth 100000 in
set_option maxHeartbeats 4000000 in
theorem wholeLine_any {rest : ByteArray} (hR : RD w0 g A B L (MI.none rest) q W) (hsz : q.length + rest.size ≤ 1000000000) (hA : A ≤ 65536) (hL : L ≤ 65536) (hE : ErrAt W) :
    Calls Tryz.prog 76 #[.pointer (some ⟨g, 0, none⟩)] W (StepEnd w0 g A B L (MI.none rest) q (lineF A B L rest.data.toList)) := by
  have hRH := Lib.hid hR
  obtain ⟨u, v, hh, hH, hnu⟩ := hR
  change W.heap[g]? = some (.cells (hold rest u 0 0 false 0 v A B L) 103 (0, 0)) at hh
  change Held w0 g u v [] q W at hH
  have hhH := Lib.hid hh
  have hHH := Lib.hid hH
  obtain ⟨c0, c1, c2, c3, c4, c5, c6, c7, c8, c9, c10, f0, f1, f2, f3, f4, f5, f6, f7⟩ := hold_facts hh
  clear hh hH
  obtain ⟨m, hm⟩ : ∃ m : Nat, m = min rest.size (L + 1) := ⟨_, rfl⟩
  have hmr : m ≤ rest.size := by omega
  have hmI : Hid (min (rest.size : Int) ((L : Int) + 1) = (m : Int)) := Lib.hid (by omega)
  have htk : (rest.extract 0 m).data.toList = rest.data.toList.take (L + 1) := by
    rw [S4.head_data]
    by_cases h : rest.size ≤ L + 1
    · rw [List.take_of_length_le (by simp; omega), List.take_of_length_le (by simp; omega)]
    · rw [show m = L + 1 by omega]
  have hidx := line_idx (L := L) rest.data.toList [] (by simp)
  simp only [List.length_nil, Nat.sub_zero, Nat.zero_add, List.nil_append] at hidx
  rw [← htk, size_len] at hidx
  go_enter Tryz.func76, Tryz.ntmps76
  go_wp2_with fail
  go_quiet (fail)
  rw [hmI.out]
  have hm2 : m ≤ L + 1 := by omega
  have hm3 : rest.size ≤ m ∨ L + 1 ≤ m := by omega
  clear hm
  have hR2 := Lib.hid (hRH.out.on (drewN_below W nq))
  have hh2 : (W.drewN nq).heap[g]? = some (.cells (hold rest u 0 0 false 0 v A B L) 103 (0, 0)) := hhH.out
  have hH2 := Lib.hid (hHH.out.on (drewN_below W nq))
  have hE2 : Hid (ErrAt (W.drewN nq)) := Lib.hid (hE.on (drewN_below W nq))
  clear c0 c1 c2 c3 c4 c5 c6 c7 c8 c9 c10 f0 f1 f2 f3 f4 f5 f6 f7 hhH hHH hE hRH hmI
  generalize W.drewN nq = w2 at hR2 hh2 hH2 hE2 ⊢
  obtain ⟨c0, c1, c2, c3, c4, c5, c6, c7, c8, c9, c10, f0, f1, f2, f3, f4, f5, f6, f7⟩ := hold_facts hh2
  have hh2H := Lib.hid hh2
  clear hh2
  rcases hidx with ⟨hi, hl⟩ | ⟨k, hi, hk1, hk2, hl⟩
  · have hC := Lib.hid (fun w => idx_as (rest.extract 0 m) w _ (Lib.hid hi))
    clear hi htk
    by_cases hlt : L < rest.size
    · rw [if_pos hlt] at hl
      have hG : Hid (lineF A B L rest.data.toList = .inl 6) := Lib.hid (by unfold lineF oneF; rw [hl])
      clear hl
      go_wp2_with (go_at_call 87; ((with_reducible refine (hC.out _).mono ?_); rintro e w' ⟨rfl, rfl⟩))
      all_goals first
        | (exfalso; omega)
        | (refine bodyPost_ret (v := .tuple #[.bool false, .int .i64 (hdE (.inl 6))]) (by simp [results, Tryz.results76, go_sem]; rfl) rfl ?_
           rw [hG.out]
           exact step_no hR2.out rfl)
    · rw [if_neg hlt] at hl
      have hG : Hid (lineF A B L rest.data.toList = .inl (-1)) := Lib.hid (by unfold lineF oneF; rw [hl])
      clear hl
      go_wp2_with (go_at_call 87; ((with_reducible refine (hC.out _).mono ?_); rintro e w' ⟨rfl, rfl⟩))
      all_goals first
        | (exfalso; omega)
        | (refine bodyPost_ret (v := .tuple #[.bool false, .int .i64 (hdE (.inl (-1)))]) (by simp [results, Tryz.results76, go_sem]; rfl) rfl ?_
           rw [hG.out]
           exact step_no hR2.out rfl)
  · have hC := Lib.hid (fun w => idx_as (rest.extract 0 m) w _ (Lib.hid hi))
    have hkr : k ≤ rest.size := by omega
    have hT := Lib.hid (fun w => trim_as (rest.extract 0 k) w (by simp; omega))
    rw [S4.head_data] at hT
    have hsl := strip_len (rest.data.toList.take k)
    have htl : (rest.data.toList.take k).length = k := by simp; omega
    have hts : ((⟨(strip (rest.data.toList.take k)).toArray⟩ : ByteArray)).size ≤ 65536 := by
      show (strip (rest.data.toList.take k)).toArray.size ≤ 65536
      rw [List.size_toArray]; omega
    have hAr := Lib.hid (fun w hE => arguments_any ⟨(strip (rest.data.toList.take k)).toArray⟩ A B L w hts hE)
    simp only at hAr
    have hone := oneF_arg (A := A) (B := B) hl
    rw [htl] at hone
    have hlw := hH2.out.lt
    clear hi hl htk hts hsl
    cases hF : argF A B (strip (rest.data.toList.take k)) with
    | inl e0 =>
      rw [hF] at hAr hone
      have hG : Hid (lineF A B L rest.data.toList = .inl e0) := Lib.hid (by unfold lineF; rw [hone])
      have hne : (e0 != 0) = true ∧ hdE (.inl e0) = e0 := by rcases argF_err hF with rfl | rfl | rfl <;> exact ⟨rfl, rfl⟩
      obtain ⟨hne1, hne2⟩ := hne
      have hne2H := Lib.hid hne2
      clear hF hone hne2 htl
      go_upto_region 7 with (go_at_call 87; ((with_reducible refine (hC.out _).mono ?_); rintro e w' ⟨rfl, rfl⟩))
      go_region_with ((first
        | (go_at_call 89; ((with_reducible refine (hT.out _).mono ?_); rintro e w' ⟨rfl, rfl⟩))
        | (go_at_call 88; ((with_reducible refine (hAr.out _ (hE2.out.on (Below.drew (Below.refl _ _)))).mono ?_); rintro e w3 ⟨hb3, rfl⟩))))
      all_goals go_wp2_with fail
      all_goals (
        refine bodyPost_ret (v := .tuple #[.bool false, .int .i64 (hdE (.inl e0))]) (by simp [results, Tryz.results76, go_sem]; exact hne2H.out.symm) rfl ?_
        rw [hG.out]
        exact step_no (hR2.out.on ((Below.drew (Below.refl _ _)).trans hb3)) rfl)
    | inr l =>
      rw [hF] at hAr hone
      have hG : Hid (lineF A B L rest.data.toList = .inr (goneL rest.data.toList l (k + 1))) := Lib.hid (by unfold lineF; rw [hone])
      have hll := argF_ok hF
      clear hF hone htl
      go_upto_region 7 with (go_at_call 87; ((with_reducible refine (hC.out _).mono ?_); rintro e w' ⟨rfl, rfl⟩))
      go_region_with ((first
        | (go_at_call 89; ((with_reducible refine (hT.out _).mono ?_); rintro e w' ⟨rfl, rfl⟩))
        | (go_at_call 88; ((with_reducible refine (hAr.out _ (hE2.out.on (Below.drew (Below.refl _ _)))).mono ?_); rintro e w3 ⟨hb3, ss, v', hss, rfl, hown⟩))))
      all_goals (
        have hbw : Below w2.heap.size w2 w3 := (Below.drew (Below.refl _ _)).trans hb3
        have hH3 : Held w0 g v' v ss q w3 := hH2.out.drop.take hbw hown
        have hh3 : w3.heap[g]? = some (.cells (hold rest u 0 0 false 0 v A B L) 103 (0, 0)) := (hbw.block g hlw).trans hh2H.out
        have hsn : ss.length ≤ 65536 := by
          have : ss.length = l.length := by rw [← hss]; simp [txt]
          omega
        obtain ⟨A', cap', rfl, _, _⟩ := own_sok hH3.args
        clear c0 c1 c2 c3 c4 c5 c6 c7 c8 c9 c10 f0 f1 f2 f3 f4 f5 f6 f7 hb3 hbw hown hh2H hH2 hE2 hR2 hC hT hAr
        obtain ⟨c0, c1, c2, c3, c4, c5, c6, c7, c8, c9, c10, f0, f1, f2, f3, f4, f5, f6, f7⟩ := hold_facts hh3
        have hP := Lib.hid (pass_as (k + 1) ((k : Int) + 1) (Lib.hid (by omega)) hh3 (by omega) (by omega) hH3)
        have hssH := Lib.hid hss
        clear hh3 hH3 hss
        go_wp2_with (first
          | (go_at_call 84; ((with_reducible refine hP.out.mono ?_); rintro e w4 ⟨rfl, hh4, hH4⟩; have hFi := Lib.hid (finish_any hh4 hH4 hsn (by omega)); clear hh4 hH4))
          | (go_at_call 85; ((with_reducible refine hFi.out.mono ?_); rintro e w5 ⟨rfl, v5, hh5, hH5⟩)))
        refine bodyPost_ret (v := .tuple #[.bool true, .int .i64 0]) (by simp [results, Tryz.results76, go_sem]) rfl ?_
        rw [hG.out]
        have hes : (rest.extract (k + 1) rest.size).size = rest.size - (k + 1) := by simp
        refine ⟨MI.none (rest.extract (k + 1) rest.size), fins ss (0 + (k + 1)), by rw [none_inp, ext_data], by rw [fins_rq, hssH.out, Nat.zero_add], none_ok _, ?_, ⟨_, v5, hh5, hH5, Lib.hid fun _ => rfl⟩, rfl⟩
        rw [show (MI.none (rest.extract (k + 1) rest.size)).rest.size = rest.size - (k + 1) from hes, show (MI.none (rest.extract (k + 1) rest.size)).size = 0 from rfl, show (MI.none rest).size = 0 from rfl, show (MI.none rest).rest.size = rest.size from rfl]
        have hfl : (fins ss (0 + (k + 1))).length ≤ 1 := by unfold fins; split <;> simp
        rw [List.length_append]
        omega)
end
end Go.Proofs.YtjidopgohdlfdaaGreatDoor
