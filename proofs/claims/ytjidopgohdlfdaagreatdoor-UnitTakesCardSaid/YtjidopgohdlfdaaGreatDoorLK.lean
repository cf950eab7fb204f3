/-
  The walk of the reference's splitting of a line: the loop. A premise: the text is no longer than 65536 bytes.
-/
import Derived.Test.YtjidopgohdlfdaaGreatDoorLJ
import Derived.Deep.RegionHeld
import Derived.Deep.CutRange
import Derived.Deep.CutBlock
namespace Go.Proofs.YtjidopgohdlfdaaGreatDoor.S4
open Go.RowKit Ln

theorem gap_facts {c : UInt8} (h : gapC c = true) : ((c.toNat : Int) == 32) = true ∨ (((c.toNat : Int) == 32) = false ∧ ((c.toNat : Int) == 9) = true) := by
  rcases blank_cases h with rfl | rfl
  · exact Or.inl rfl
  · exact Or.inr ⟨rfl, rfl⟩
theorem nogap_facts {c : UInt8} (h : gapC c = false) : ((c.toNat : Int) == 32) = false ∧ ((c.toNat : Int) == 9) = false := by
  unfold gapC at h
  simp only [Bool.or_eq_false_iff, beq_eq_false_iff_ne] at h
  exact ⟨beq_eq_false_iff_ne.2 fun e => h.1 (byte_of (n := 32) (by decide) e), beq_eq_false_iff_ne.2 fun e => h.2 (byte_of (n := 9) (by decide) e)⟩
theorem zero_fact {q : UInt8} (h : q = 0) : ((q.toNat : Int) == 0) = true := by rw [h]; rfl
theorem nonzero_fact {q : UInt8} (h : q ≠ 0) : ((q.toNat : Int) == 0) = false := beq_eq_false_iff_ne.2 fun e => h (byte_of (n := 0) (by decide) e)
theorem one_byte {s : ByteArray} {k : Nat} (hk : k < s.size) : (s.extract k (k + 1)).data.toList = [s[k]] := by
  rw [Lib.extract_data, str_cons s k hk, show k + 1 - k = 1 by omega]
  rfl
theorem add_data (a b : ByteArray) : (a ++ b).data.toList = a.data.toList ++ b.data.toList := by rw [ByteArray.data_append, Array.toList_append]

theorem quote_facts {c : UInt8} (h : quoteC c = true) : ((c.toNat : Int) == 34) = true ∨ (((c.toNat : Int) == 34) = false ∧ ((c.toNat : Int) == 39) = true) := by
  unfold quoteC at h
  simp only [Bool.or_eq_true, beq_iff_eq] at h
  rcases h with rfl | rfl
  · exact Or.inl rfl
  · exact Or.inr ⟨rfl, rfl⟩
theorem noquote_facts {c : UInt8} (h : quoteC c = false) : ((c.toNat : Int) == 34) = false ∧ ((c.toNat : Int) == 39) = false := by
  unfold quoteC at h
  simp only [Bool.or_eq_false_iff, beq_eq_false_iff_ne] at h
  exact ⟨beq_eq_false_iff_ne.2 fun e => h.1 (byte_of (n := 34) (by decide) e), beq_eq_false_iff_ne.2 fun e => h.2 (byte_of (n := 39) (by decide) e)⟩

theorem mf_no {q c : UInt8} {t : List UInt8} (h : c ≠ 92) : meantF q c t = (c, 1) := by
  cases t with
  | nil => rfl
  | cons d t => simp only [meantF]; rw [if_pos h]
theorem mf_end {q : UInt8} : meantF q 92 [] = (92, 1) := rfl
theorem mf_hex {d a b : UInt8} {t : List UInt8} (hd : d = 120) (ha : hexd a < 16) (hb : hexd b < 16) : meantF 34 92 (d :: a :: b :: t) = (UInt8.ofNat (16 * hexd a + hexd b), 4) := by
  simp only [meantF, turnF, hex2]
  rw [if_neg (by decide), if_pos trivial, if_pos hd, if_pos ⟨ha, hb⟩]
theorem mf_turn {d : UInt8} {t : List UInt8} (h : d ≠ 120 ∨ hex2 t = none) : meantF 34 92 (d :: t) = (turned d, 2) := by
  simp only [meantF, turnF]
  rw [if_neg (by decide), if_pos trivial]
  by_cases hd : d = 120
  · rw [if_pos hd, h.resolve_left (fun e => e hd), hd]; rfl
  · rw [if_neg hd]
theorem mf_39 {d : UInt8} {t : List UInt8} (h : d = 39) : meantF 39 92 (d :: t) = (39, 2) := by
  simp only [meantF]
  rw [if_neg (by decide), if_neg (by decide), if_pos h]
theorem mf_39n {d : UInt8} {t : List UInt8} (h : d ≠ 39) : meantF 39 92 (d :: t) = (92, 1) := by
  simp only [meantF]
  rw [if_neg (by decide), if_neg (by decide), if_neg h]

theorem conv_drew (w : World) (x : Int) (h0 : 0 ≤ x) (h1 : x < 256) : (convert 45 9 (.slice (some ⟨w.heap.size, 0, none⟩) 1 1)).run Tryz.prog (w.alloc (.cells #[.int .u8 x] 5)).drew = .ok (.string ⟨#[UInt8.ofNat x.toNat]⟩) (w.alloc (.cells #[.int .u8 x] 5)).drew := by
  refine run_convert_bytes_back _ 45 9 5 ⟨w.heap.size, 0, none⟩ 1 [UInt8.ofNat x.toNat] Tryz.underlying45 Tryz.underlying5 Tryz.underlying9 (Lib.bytes_of_row (g := w.heap.size) (heap_alloc_new w (.cells #[.int .u8 x] 5)) ?_)
  have e : ((UInt8.ofNat x.toNat).toNat : Int) = x := by simp; omega
  simp only [Lib.byteCells, List.map_cons, List.map_nil, e]
  rfl
theorem hex2_short {l : List UInt8} (h : l.length ≤ 1) : hex2 l = none := by
  match l, h with
  | [], _ => rfl
  | [_], _ => rfl
theorem getD_at (s : ByteArray) (k : Nat) (h : k < s.size) : s.data.toList.getD k 0 = s[k] := by
  have h' : k < s.data.toList.length := by simpa using h
  rw [List.getD_eq_getElem?_getD, List.getElem?_eq_getElem h']
  rfl

set_option maxRecDepth 100000 in
set_option maxHeartbeats 16000000 in
theorem rsplit_any (s : ByteArray) (w : World) (hs : s.size ≤ 65536) :
    Calls Tryz.prog 64 #[.string s] w (SplitEnd (spl s.data.toList) w) := by
  obtain ⟨i0, hi, hz0, hz1, hz2⟩ := info_parts str_info
  obtain ⟨T, hT⟩ : ∃ T, T = spl s.data.toList := ⟨_, rfl⟩
  rw [← hT]
  have hT1 : Hid (go (txt []) 0 false false [] 0 (s.data.toList.drop 0) = T) := Lib.hid (by rw [hT]; rfl)
  clear hT
  go_enter Tryz.func64, Tryz.ntmps64
  go_wp2_with fail
  go_loopw [4, 5, 6, 7, 8, 9] (fun v iv ov cv nv kv wr => ∃ (k : Nat) (ss : List ByteArray) (q : UInt8) (op cl : Bool) (nb : ByteArray), iv = .int .u8 (q.toNat : Int) ∧ ov = .bool op ∧ cv = .bool cl ∧ nv = .string nb ∧ kv = .int .i64 k ∧
      k ≤ s.size ∧ nb.size ≤ k ∧ ss.length ≤ k ∧ Hid (q = 0 ∨ (quoteC q = true ∧ cl = false)) ∧ Hid (go (txt ss) q op cl nb.data.toList 0 (s.data.toList.drop k) = T) ∧ Txts w ss v wr) (fun _ _ _ _ _ kv _ => s.size - (intOf kv).toNat)
  case atStart => exact ⟨0, [], 0, false, false, ⟨#[]⟩, rfl, rfl, rfl, rfl, rfl, by omega, by decide, by simp, Lib.hid (Or.inl rfl), hT1, Txts.none_ w⟩
  case round =>
    clear hT1
    obtain ⟨k, ss, q, op, cl, nb, rfl, rfl, rfl, rfl, rfl, hk, hnb, hss, hq, hT1, hP⟩ := hrel
    by_cases hlt : k < s.size
    · have hdr := str_cons s k hlt
      go_upto_region 9 with fail
      go_cut [11] from 21 to 26 (fun s11 wx => ∃ g : Bool, s11 = .bool g ∧ Hid (gapC s[k] = g) ∧ wr = wx)
      case first =>
        cases hg : gapC s[k] with
        | true =>
          have hgf := gap_facts hg
          have hgH := Lib.hid hg
          clear hT1 hdr hg
          rcases hgf with g1 | ⟨g1, g2⟩
          all_goals
            as_aux_lemma =>
              go_wp2_with fail
              go_meet
              case rel => exact ⟨true, rfl, hgH, rfl⟩
        | false =>
          obtain ⟨g1, g2⟩ := nogap_facts hg
          have hgH := Lib.hid hg
          clear hT1 hdr hg
          as_aux_lemma =>
            go_wp2_with fail
            go_meet
            case rel => exact ⟨false, rfl, hgH, rfl⟩
      case rest =>
        obtain ⟨g, rfl, hgg, rfl⟩ := hcut
        cases g with
        | true =>
          have hg := hgg.out
          by_cases h0 : q = 0
          · subst h0
            have hN : Hid (go (if op then txt ss ++ [nb.data.toList] else txt ss) 0 false false [] 0 (s.data.toList.drop (k + 1)) = T) := Lib.hid (by rw [← hT1.out, hdr, rs_gap hg])
            clear hT1 hdr hg hgg
            cases op with
            | true =>
              have hN2 : Hid (go (txt (ss ++ [nb])) 0 false false (⟨#[]⟩ : ByteArray).data.toList 0 (s.data.toList.drop (k + 1)) = T) := Lib.hid (by rw [← hN.out]; simp [txt])
              have hz := hP.bel.size
              clear hN
              cases cl
              all_goals
                as_aux_lemma =>
                  go_wp2_with (at_builtin; refine wpList_append_own _ rfl (.tmp 46) (.tmp 48) 49 rfl w.heap.size 9 i0 (.string ⟨#[]⟩) 1 16 Tryz.underlying49 hi hz0 hz1 hz2 rfl (by decide) u4 ss.length (strV ss) rfl (hP.own.alloc _) ⟨wr.heap.size, 0, none⟩ 1 1 [.string nb] rfl rfl (one_cell wr (.string nb)) (one_str nb) (by unfold maxLen; omega) (by omega) (by simp; omega) ?_)
                  intro v' w2 hown' hgrow _
                  have hP2 := hP.next hown' hgrow
                  clear hown' hgrow hP
                  go_wp2_with fail
                  go_roundw
                  case rel => exact ⟨k + 1, ss ++ [nb], 0, false, false, ⟨#[]⟩, rfl, rfl, rfl, rfl, by go_num, by omega, Nat.zero_le _, by simp; omega, Lib.hid (Or.inl rfl), hN2, hP2⟩
                  case measure => simp [intOf]; omega
            | false =>
              have hN2 : Hid (go (txt ss) 0 false false (⟨#[]⟩ : ByteArray).data.toList 0 (s.data.toList.drop (k + 1)) = T) := Lib.hid (by rw [← hN.out]; rfl)
              clear hN
              cases cl
              all_goals
                as_aux_lemma =>
                  go_wp2_with fail
                  go_roundw
                  case rel => exact ⟨k + 1, ss, 0, false, false, ⟨#[]⟩, rfl, rfl, rfl, rfl, by go_num, by omega, Nat.zero_le _, by omega, Lib.hid (Or.inl rfl), hN2, hP⟩
                  case measure => simp [intOf]; omega
          · obtain ⟨hqq, hclf⟩ := hq.out.resolve_left h0
            subst hclf
            have q0 := nonzero_fact h0
            have hcq : ¬ s[k] = q := fun e => by rw [e, quote_not_blank hqq] at hg; cases hg
            have h92 : s[k] ≠ 92 := fun e => by rw [e] at hg; cases hg
            have f1 : ((s[k].toNat : Int) == (q.toNat : Int)) = false := beq_eq_false_iff_ne.2 fun h => hcq (byte_eq h)
            have hq2 : Hid (q = 0 ∨ (quoteC q = true ∧ false = false)) := Lib.hid (Or.inr ⟨hqq, rfl⟩)
            have hz1 : (s.extract k (k + 1)).size = 1 := by simp; omega
            have hz2 : (nb ++ s.extract k (k + 1)).size ≤ k + 1 := by rw [ByteArray.size_append, hz1]; omega
            have hN : Hid (go (txt ss) q op false (nb ++ s.extract k (k + 1)).data.toList 0 (s.data.toList.drop (k + 1)) = T) := Lib.hid (by rw [← hT1.out, hdr, rs_in h0 (fun _ => hg) hcq, mf_no h92, add_data, one_byte hlt]; rfl)
            have f92 : ((s[k].toNat : Int) == 92) = false := beq_eq_false_iff_ne.2 fun h => h92 (byte_of (n := 92) (by decide) h)
            clear hT1 hdr hg hgg hq hqq h0 hcq h92 hz1
            as_aux_lemma =>
              go_wp2_with fail
              go_roundw
              case rel => exact ⟨k + 1, ss, q, op, false, nb ++ s.extract k (k + 1), rfl, rfl, rfl, rfl, by go_num, by omega, hz2, by omega, hq2, hN, hP⟩
              case measure => simp [intOf]; omega
        | false =>
          have hg := hgg.out
          cases cl with
          | true =>
            have hR : Hid (T = none) := Lib.hid (by rw [← hT1.out, hdr]; exact rs_dead rfl hg)
            clear hT1 hdr hg hgg
            as_aux_lemma =>
              go_wp2_with fail
              go_ret2
              rw [hR.out]
              exact ⟨rfl, hP.bel⟩
          | false =>
            have hlive : false = true → gapC s[k] = true := fun h => by cases h
            by_cases h0 : q = 0
            · subst h0
              cases hqc : quoteC s[k] with
              | true =>
                have hN : Hid (go (txt ss) s[k] true false nb.data.toList 0 (s.data.toList.drop (k + 1)) = T) := Lib.hid (by rw [← hT1.out, hdr, rs_open rfl hqc])
                have hq2 : Hid (s[k] = 0 ∨ (quoteC s[k] = true ∧ false = false)) := Lib.hid (Or.inr ⟨hqc, rfl⟩)
                have hcc := quote_facts hqc
                clear hT1 hdr hg hlive hqc hq
                rcases hcc with f1 | ⟨f1, f2⟩
                all_goals
                  as_aux_lemma =>
                    go_wp2_with fail
                    go_roundw
                    case rel => exact ⟨k + 1, ss, s[k], true, false, nb, rfl, rfl, rfl, rfl, by go_num, by omega, by omega, by omega, hq2, hN, hP⟩
                    case measure => simp [intOf]; omega
              | false =>
                have hN : Hid (go (txt ss) 0 true false (nb ++ s.extract k (k + 1)).data.toList 0 (s.data.toList.drop (k + 1)) = T) := Lib.hid (by rw [← hT1.out, hdr, rs_bare rfl hg hqc, add_data, one_byte hlt])
                obtain ⟨f1, f2⟩ := noquote_facts hqc
                have hz1 : (s.extract k (k + 1)).size = 1 := by simp; omega
                have hz2 : (nb ++ s.extract k (k + 1)).size ≤ k + 1 := by rw [ByteArray.size_append, hz1]; omega
                clear hT1 hdr hg hlive hqc hq hz1
                as_aux_lemma =>
                  go_wp2_with fail
                  go_roundw
                  case rel => exact ⟨k + 1, ss, 0, true, false, nb ++ s.extract k (k + 1), rfl, rfl, rfl, rfl, by go_num, by omega, hz2, by omega, Lib.hid (Or.inl rfl), hN, hP⟩
                  case measure => simp [intOf]; omega
            · obtain ⟨hqq, hclf⟩ := hq.out.resolve_left h0
              have q0 := nonzero_fact h0
              by_cases hcq : s[k] = q
              · have hN : Hid (go (txt ss) 0 op true nb.data.toList 0 (s.data.toList.drop (k + 1)) = T) := Lib.hid (by rw [← hT1.out, hdr, rs_close h0 hlive hcq])
                have f1 : ((s[k].toNat : Int) == (q.toNat : Int)) = true := by rw [hcq]; simp
                clear hT1 hdr hg hgg hlive hq hcq hqq h0
                as_aux_lemma =>
                  go_wp2_with fail
                  go_roundw
                  case rel => exact ⟨k + 1, ss, 0, op, true, nb, rfl, rfl, rfl, rfl, by go_num, by omega, by omega, by omega, Lib.hid (Or.inl rfl), hN, hP⟩
                  case measure => simp [intOf]; omega
              · have hin := hT1.out
                rw [hdr, rs_in h0 hlive hcq] at hin
                have f1 : ((s[k].toNat : Int) == (q.toNat : Int)) = false := beq_eq_false_iff_ne.2 fun h => hcq (byte_eq h)
                have hz1 : (s.extract k (k + 1)).size = 1 := by simp; omega
                have hq2 : Hid (q = 0 ∨ (quoteC q = true ∧ false = false)) := Lib.hid (Or.inr ⟨hqq, rfl⟩)
                have hz2 : (nb ++ s.extract k (k + 1)).size ≤ k + 1 := by rw [ByteArray.size_append, hz1]; omega
                clear hT1 hlive hq hcq hz1 hg hgg
                by_cases h92 : s[k] = 92
                · have f92 : ((s[k].toNat : Int) == 92) = true := by rw [h92]; rfl
                  rw [h92] at hin
                  have hqq2 : q = 34 ∨ q = 39 := by
                    unfold quoteC at hqq
                    simpa using hqq
                  by_cases hk1 : k + 1 < s.size
                  · have hd1 := str_cons s (k + 1) hk1
                    rcases hqq2 with rfl | rfl
                    · by_cases hx : k + 3 < s.size ∧ s[k + 1] = 120 ∧ hexd (s.data.toList.getD (k + 2) 0) < 16 ∧ hexd (s.data.toList.getD (k + 3) 0) < 16
                      · obtain ⟨hx3, hx1, hxa, hxb⟩ := hx
                        have hd2 := str_cons s (k + 2) (by omega)
                        have hd3 := str_cons s (k + 3) hx3
                        have ea : s.data.toList.getD (k + 2) 0 = s[k + 2] := getD_at s (k + 2) (by omega)
                        have eb : s.data.toList.getD (k + 3) 0 = s[k + 3] := getD_at s (k + 3) hx3
                        rw [ea] at hxa
                        rw [eb] at hxb
                        have hN0 : go (txt ss) 34 op false (nb.data.toList ++ [UInt8.ofNat (16 * hexd s[k + 2] + hexd s[k + 3])]) 0 (s.data.toList.drop (k + 4)) = T := by
                          rw [← hin, hd1, hd2, hd3, mf_hex hx1 hxa hxb]
                          rfl
                        have hA := fun w => digit_any s[k + 2] w
                        have hB := fun w => digit_any s[k + 3] w
                        have x1 : ((s[k + 1].toNat : Int) == 120) = true := by rw [hx1]; rfl
                        generalize hexd s[k + 2] = A at hxa hN0 hA
                        generalize hexd s[k + 3] = B at hxb hN0 hB
                        have xa : (A : Int) < 16 := by omega
                        have xb : (B : Int) < 16 := by omega
                        have ya : 0 ≤ (A : Int) := by omega
                        have yb : 0 ≤ (B : Int) := by omega
                        have hAH := Lib.hid hA
                        have hBH := Lib.hid hB
                        have eX : UInt8.ofNat (16 * (A : Int) + (B : Int)).toNat = UInt8.ofNat (16 * A + B) := by congr 1
                        have hN : Hid (go (txt ss) 34 op false (nb ++ ⟨#[UInt8.ofNat (16 * (A : Int) + (B : Int)).toNat]⟩).data.toList 0 (s.data.toList.drop (k + 4)) = T) := Lib.hid (by rw [eX, add_data]; exact hN0)
                        have hz3 : (nb ++ ⟨#[UInt8.ofNat (16 * (A : Int) + (B : Int)).toNat]⟩ : ByteArray).size ≤ k + 1 := by rw [ByteArray.size_append]; show _ + 1 ≤ _; omega
                        have hcv := conv_one wr (16 * (A : Int) + (B : Int)) (by omega) (by omega)
                        clear hA hB hN0 hin hdr hd1 hd2 hd3 ea eb eX h92 hqq h0 hx1 hxa hxb
                        as_aux_lemma =>
                          go_upto_region 26 with (first
                            | (go_at_call 79; ((with_reducible refine (hAH.out _).mono ?_); rintro e w' ⟨rfl, rfl⟩))
                            | (go_at_call 79; ((with_reducible refine (hBH.out _).mono ?_); rintro e w' ⟨rfl, rfl⟩)))
                          have z2 : 0 ≤ (k : Int) + 2 := by omega
                          have z3 : 0 ≤ (k : Int) + 3 := by omega
                          have z4 : (k : Int) + 2 < s.size := by omega
                          have z5 : (k : Int) + 3 < s.size := by omega
                          have t2 : ((k : Int) + 2).toNat = k + 2 := by omega
                          have t3 : ((k : Int) + 3).toNat = k + 3 := by omega
                          have w2 : IntKind.i64.wrap ((k : Int) + 2) = (k : Int) + 2 := IntWalk.i64_in _ (by omega)
                          have w3 : IntKind.i64.wrap ((k : Int) + 3) = (k : Int) + 3 := IntWalk.i64_in _ (by omega)
                          have w4 : IntKind.i64.wrap (16 * (A : Int)) = 16 * (A : Int) := IntWalk.i64_in _ (by omega)
                          have w5 : IntKind.i64.wrap (16 * (A : Int) + (B : Int)) = 16 * (A : Int) + (B : Int) := IntWalk.i64_in _ (by omega)
                          have w6 : IntKind.u8.wrap (16 * (A : Int) + (B : Int)) = 16 * (A : Int) + (B : Int) := by rw [IntKind.wrap_u8]; omega
                          have hcv2 := conv_drew wr (16 * (A : Int) + (B : Int)) (by omega) (by omega)
                          have hns : ¬ 9223372036854775807 < nb.size + 1 := by omega
                          have hK0 := Lib.hid (Below.drew (Below.refl wr.heap.size wr))
                          have hOA : Hid (∀ a o, Below wr.heap.size wr a → Below wr.heap.size wr (a.alloc o)) := Lib.hid fun a o h => h.alloc h.size o
                          clear hcv
                          go_region_held (fun w' => Below wr.heap.size wr w')
                            (first | exact hK0.out | exact hOA.out _ _ (by assumption) | assumption)
                            (first
                            | (go_at_call 79; ((with_reducible refine (hAH.out _).mono ?_); rintro e w' ⟨rfl, rfl⟩))
                            | (go_at_call 79; ((with_reducible refine (hBH.out _).mono ?_); rintro e w' ⟨rfl, rfl⟩)))
                          all_goals
                            have hbw : Below wr.heap.size wr ((wr.alloc (.cells #[.int .u8 (16 * (A : Int) + (B : Int))] 5)).drew) := (Below.alloc (Below.refl _ _) (Nat.le_refl _) _).drew
                            have hPw := hP.move hbw
                            clear hK0 hOA hcv2 w2 w3 w4 w5 w6 hbw
                            go_wp2_with fail
                            go_roundw
                            case rel => exact ⟨k + 4, ss, 34, op, false, nb ++ ⟨#[UInt8.ofNat (16 * (A : Int) + (B : Int)).toNat]⟩, rfl, rfl, rfl, rfl, by go_num, by omega, by omega, by omega, Lib.hid (Or.inr ⟨rfl, rfl⟩), hN, hPw⟩
                            case measure => simp [intOf]; omega
                      · have hmt : meantF 34 92 (s.data.toList.drop (k + 1)) = (turned s[k + 1], 2) := by
                          rw [hd1]
                          refine mf_turn ?_
                          by_cases h120 : s[k + 1] = 120
                          · right
                            by_cases hx3 : k + 3 < s.size
                            · have hd2 := str_cons s (k + 2) (by omega)
                              have hd3 := str_cons s (k + 3) hx3
                              have ea : s.data.toList.getD (k + 2) 0 = s[k + 2] := getD_at s (k + 2) (by omega)
                              have eb : s.data.toList.getD (k + 3) 0 = s[k + 3] := getD_at s (k + 3) hx3
                              rw [show k + 1 + 1 = k + 2 by omega, hd2, hd3]
                              simp only [hex2]
                              rw [if_neg]
                              rintro ⟨p1, p2⟩
                              exact hx ⟨hx3, h120, by rw [ea]; exact p1, by rw [eb]; exact p2⟩
                            · rw [show k + 1 + 1 = k + 2 by omega]
                              exact hex2_short (by simp; omega)
                          · exact Or.inl h120
                        have hN0 : go (txt ss) 34 op false (nb.data.toList ++ [turned s[k + 1]]) 0 (s.data.toList.drop (k + 2)) = T := by
                          rw [← hin, hmt, List.drop_drop]; rfl
                        have hxx : ¬ k + 3 < s.size ∨ (k + 3 < s.size ∧ ¬ s[k + 1] = 120) ∨ (k + 3 < s.size ∧ s[k + 1] = 120 ∧ 16 ≤ hexd (s.data.toList.getD (k + 2) 0)) ∨ (k + 3 < s.size ∧ s[k + 1] = 120 ∧ hexd (s.data.toList.getD (k + 2) 0) < 16 ∧ 16 ≤ hexd (s.data.toList.getD (k + 3) 0)) := by
                          by_cases p1 : k + 3 < s.size
                          · by_cases p2 : s[k + 1] = 120
                            · by_cases p3 : hexd (s.data.toList.getD (k + 2) 0) < 16
                              · by_cases p4 : hexd (s.data.toList.getD (k + 3) 0) < 16
                                · exact absurd ⟨p1, p2, p3, p4⟩ hx
                                · exact Or.inr (Or.inr (Or.inr ⟨p1, p2, p3, by omega⟩))
                              · exact Or.inr (Or.inr (Or.inl ⟨p1, p2, by omega⟩))
                            · exact Or.inr (Or.inl ⟨p1, p2⟩)
                          · exact Or.inl p1
                        have hTU := Lib.hid (fun w => turned_any s[k + 1] w)
                        have eX : UInt8.ofNat ((turned s[k + 1]).toNat : Int).toNat = turned s[k + 1] := by simp
                        have hcv := conv_one wr ((turned s[k + 1]).toNat : Int) (by omega) (by have := (turned s[k + 1]).toNat_lt; omega)
                        rw [eX] at hcv
                        have hN : Hid (go (txt ss) 34 op false (nb ++ ⟨#[turned s[k + 1]]⟩).data.toList 0 (s.data.toList.drop (k + 2)) = T) := Lib.hid (by rw [add_data]; exact hN0)
                        have hz3 : (nb ++ ⟨#[turned s[k + 1]]⟩ : ByteArray).size ≤ k + 1 := by rw [ByteArray.size_append]; show _ + 1 ≤ _; omega
                        have hPw := hP.move (Below.alloc (Below.refl wr.heap.size wr) (Nat.le_refl _) (.cells #[.int .u8 ((turned s[k + 1]).toNat : Int)] 5))
                        generalize turned s[k + 1] = x at hTU hcv hN hz3 hPw
                        clear hin hdr hd1 hmt hN0 eX h92 hqq h0 hx
                        rcases hxx with p1 | ⟨p1, p2⟩ | ⟨p1, p2, p3⟩ | ⟨p1, p2, p3, p4⟩
                        · go_wp2_with (go_at_call 80; ((with_reducible refine (hTU.out _).mono ?_); rintro e w' ⟨rfl, rfl⟩))
                          go_roundw
                          case rel => exact ⟨k + 2, ss, 34, op, false, nb ++ ⟨#[x]⟩, rfl, rfl, rfl, rfl, by go_num, by omega, by omega, by omega, Lib.hid (Or.inr ⟨rfl, rfl⟩), hN, hPw⟩
                          case measure => simp [intOf]; omega
                        · have x1 : ((s[k + 1].toNat : Int) == 120) = false := beq_eq_false_iff_ne.2 fun h => p2 (byte_of (n := 120) (by decide) h)
                          clear p2
                          as_aux_lemma =>
                            go_wp2_with (go_at_call 80; ((with_reducible refine (hTU.out _).mono ?_); rintro e w' ⟨rfl, rfl⟩))
                            go_roundw
                            case rel => exact ⟨k + 2, ss, 34, op, false, nb ++ ⟨#[x]⟩, rfl, rfl, rfl, rfl, by go_num, by omega, by omega, by omega, Lib.hid (Or.inr ⟨rfl, rfl⟩), hN, hPw⟩
                            case measure => simp [intOf]; omega
                        · have x1 : ((s[k + 1].toNat : Int) == 120) = true := by rw [p2]; rfl
                          have ea : s.data.toList.getD (k + 2) 0 = s[k + 2] := getD_at s (k + 2) (by omega)
                          rw [ea] at p3
                          have hA := fun w => digit_any s[k + 2] w
                          generalize hexd s[k + 2] = A at p3 hA
                          have hAH := Lib.hid hA
                          have xa : ¬ (A : Int) < 16 := by omega
                          clear hA ea p2 p3
                          as_aux_lemma =>
                            go_wp2_with (first
                              | (go_at_call 79; ((with_reducible refine (hAH.out _).mono ?_); rintro e w' ⟨rfl, rfl⟩))
                              | (go_at_call 80; ((with_reducible refine (hTU.out _).mono ?_); rintro e w' ⟨rfl, rfl⟩)))
                            go_roundw
                            case rel => exact ⟨k + 2, ss, 34, op, false, nb ++ ⟨#[x]⟩, rfl, rfl, rfl, rfl, by go_num, by omega, by omega, by omega, Lib.hid (Or.inr ⟨rfl, rfl⟩), hN, hPw⟩
                            case measure => simp [intOf]; omega
                        · have x1 : ((s[k + 1].toNat : Int) == 120) = true := by rw [p2]; rfl
                          have ea : s.data.toList.getD (k + 2) 0 = s[k + 2] := getD_at s (k + 2) (by omega)
                          have eb : s.data.toList.getD (k + 3) 0 = s[k + 3] := getD_at s (k + 3) p1
                          rw [ea] at p3
                          rw [eb] at p4
                          have hA := fun w => digit_any s[k + 2] w
                          have hB := fun w => digit_any s[k + 3] w
                          generalize hexd s[k + 2] = A at p3 hA
                          generalize hexd s[k + 3] = B at p4 hB
                          have hAH := Lib.hid hA
                          have hBH := Lib.hid hB
                          have xa : (A : Int) < 16 := by omega
                          have xb : ¬ (B : Int) < 16 := by omega
                          clear hA hB ea eb p2 p3 p4
                          as_aux_lemma =>
                            go_wp2_with (first
                              | (go_at_call 79; ((with_reducible refine (hAH.out _).mono ?_); rintro e w' ⟨rfl, rfl⟩))
                              | (go_at_call 79; ((with_reducible refine (hBH.out _).mono ?_); rintro e w' ⟨rfl, rfl⟩))
                              | (go_at_call 80; ((with_reducible refine (hTU.out _).mono ?_); rintro e w' ⟨rfl, rfl⟩)))
                            go_roundw
                            case rel => exact ⟨k + 2, ss, 34, op, false, nb ++ ⟨#[x]⟩, rfl, rfl, rfl, rfl, by go_num, by omega, by omega, by omega, Lib.hid (Or.inr ⟨rfl, rfl⟩), hN, hPw⟩
                            case measure => simp [intOf]; omega
                    · by_cases h39 : s[k + 1] = 39
                      · have hN : Hid (go (txt ss) 39 op false (nb ++ ⟨#[39]⟩).data.toList 0 (s.data.toList.drop (k + 2)) = T) := Lib.hid (by
                          rw [← hin, hd1, mf_39 h39, add_data]; rfl)
                        have hz3 : (nb ++ ⟨#[39]⟩ : ByteArray).size ≤ k + 1 := by rw [ByteArray.size_append]; show _ + 1 ≤ _; omega
                        have x1 : ((s[k + 1].toNat : Int) == 39) = true := by rw [h39]; rfl
                        clear hin hdr hd1 h92 hqq h0 h39
                        as_aux_lemma =>
                          go_wp2_with fail
                          go_roundw
                          case rel => exact ⟨k + 2, ss, 39, op, false, nb ++ ⟨#[39]⟩, rfl, rfl, rfl, rfl, by go_num, by omega, by omega, by omega, Lib.hid (Or.inr ⟨rfl, rfl⟩), hN, hP⟩
                          case measure => simp [intOf]; omega
                      · have hN : Hid (go (txt ss) 39 op false (nb ++ s.extract k (k + 1)).data.toList 0 (s.data.toList.drop (k + 1)) = T) := Lib.hid (by
                          rw [← hin, hd1, mf_39n h39, add_data, one_byte hlt, h92]; rfl)
                        have x1 : ((s[k + 1].toNat : Int) == 39) = false := beq_eq_false_iff_ne.2 fun h => h39 (byte_of (n := 39) (by decide) h)
                        clear hin hdr hd1 h92 hqq h0 h39
                        as_aux_lemma =>
                          go_wp2_with fail
                          go_roundw
                          case rel => exact ⟨k + 1, ss, 39, op, false, nb ++ s.extract k (k + 1), rfl, rfl, rfl, rfl, by go_num, by omega, hz2, by omega, Lib.hid (Or.inr ⟨rfl, rfl⟩), hN, hP⟩
                          case measure => simp [intOf]; omega
                  · have hN : Hid (go (txt ss) q op false (nb ++ s.extract k (k + 1)).data.toList 0 (s.data.toList.drop (k + 1)) = T) := Lib.hid (by
                      have hnil : s.data.toList.drop (k + 1) = [] := List.drop_eq_nil_of_le (by simp; omega)
                      rw [← hin, hnil, mf_end, add_data, one_byte hlt, h92]; rfl)
                    have hk1' : s.size = k + 1 := by omega
                    have q1 : ((k : Int) + 1 < s.size) = False := by simp; omega
                    have q3 : ((k : Int) + 3 < s.size) = False := by simp; omega
                    clear hin hdr h92 h0 hk1
                    rcases hqq2 with rfl | rfl
                    all_goals
                      as_aux_lemma =>
                        go_wp2_with fail
                        go_roundw
                        case rel => exact ⟨k + 1, ss, _, op, false, nb ++ s.extract k (k + 1), rfl, rfl, rfl, rfl, by go_num, by omega, hz2, by omega, Lib.hid (Or.inr ⟨rfl, rfl⟩), hN, hP⟩
                        case measure => simp [intOf]; omega
                · have hN : Hid (go (txt ss) q op false (nb ++ s.extract k (k + 1)).data.toList 0 (s.data.toList.drop (k + 1)) = T) := Lib.hid (by rw [← hin, mf_no h92, add_data, one_byte hlt]; rfl)
                  have f92 : ((s[k].toNat : Int) == 92) = false := beq_eq_false_iff_ne.2 fun h => h92 (byte_of (n := 92) (by decide) h)
                  clear hin hdr hqq h0 h92
                  as_aux_lemma =>
                    go_wp2_with fail
                    go_roundw
                    case rel => exact ⟨k + 1, ss, q, op, false, nb ++ s.extract k (k + 1), rfl, rfl, rfl, rfl, by go_num, by omega, hz2, by omega, hq2, hN, hP⟩
                    case measure => simp [intOf]; omega
    · have hnil : s.data.toList.drop k = [] := List.drop_eq_nil_of_le (by simp; omega)
      have hend := hT1.out
      rw [hnil, go] at hend
      clear hT1 hnil
      by_cases h0 : q = 0
      · subst h0
        rw [if_pos rfl] at hend
        have hz := hP.bel.size
        cases op with
        | true =>
          have hR : Hid (T = some (txt (ss ++ [nb]))) := Lib.hid (by rw [← hend]; simp [txt])
          clear hend hq
          as_aux_lemma =>
            go_wp2_with (at_builtin; refine wpList_append_own _ rfl (.tmp 185) (.tmp 187) 49 rfl w.heap.size 9 i0 (.string ⟨#[]⟩) 1 16 Tryz.underlying49 hi hz0 hz1 hz2 rfl (by decide) u4 ss.length (strV ss) rfl (hP.own.alloc _) ⟨wr.heap.size, 0, none⟩ 1 1 [.string nb] rfl rfl (one_cell wr (.string nb)) (one_str nb) (by unfold maxLen; omega) (by omega) (by simp; omega) ?_)
            intro v' w2 hown' hgrow _
            have hP2 := hP.next hown' hgrow
            clear hown' hgrow hP
            go_wp2_with fail
            go_ret2
            rw [hR.out]
            exact ⟨ss ++ [nb], _, rfl, rfl, hP2⟩
        | false =>
          have hR : Hid (T = some (txt ss)) := Lib.hid (by rw [← hend]; simp)
          clear hend hq
          as_aux_lemma =>
            go_wp2_with fail
            go_ret2
            rw [hR.out]
            exact ⟨ss, _, rfl, rfl, hP⟩
      · have hR : Hid (T = none) := Lib.hid (by rw [← hend, if_neg h0])
        have q1 : ((q.toNat : Int) != 0) = true := bne_iff_ne.2 fun e => h0 (byte_of (n := 0) (by decide) e)
        clear hend hq h0
        as_aux_lemma =>
          go_wp2_with fail
          go_ret2
          rw [hR.out]
          exact ⟨rfl, hP.bel⟩
end Go.Proofs.YtjidopgohdlfdaaGreatDoor.S4
