/-
  The walk of the reference's joining of arguments. A premise: each is no longer than 65536 bytes, and so is their line.
-/
import Derived.Test.YtkghdnifgoeljaaDoorWN
import Derived.Deep.CutRange
import Derived.Deep.CutBlock
namespace Go.Proofs.YtkghdnifgoeljaaDoor
open Go.RowKit Ln

theorem oneB {s : ByteArray} {k : Nat} (hk : k < s.size) : (s.extract k (k + 1)).data.toList = [s[k]] := by
  rw [Lib.extract_data, str_cons s k hk, show k + 1 - k = 1 by omega]
  rfl
theorem addD (a b : ByteArray) : (a ++ b).data.toList = a.data.toList ++ b.data.toList := by rw [ByteArray.data_append, Array.toList_append]
def SR (w : World) (A : Option Addr) (ss : List ByteArray) : Prop := ∀ i x, ss[i]? = some x → ∃ a, A = some a ∧ w.cell? (a.add i) = some (.string x)
theorem SB.sr {w : World} {B : Nat} {A : Option Addr} {ss : List ByteArray} (h : SB w B A ss) : SR w A ss := by
  intro i x hx
  obtain ⟨a, h1, _, h3⟩ := h i x hx
  exact ⟨a, h1, h3⟩
/-- Whether so many bytes of an argument are told as themselves, in the reference's words. -/
def plK (x : ByteArray) (k : Nat) : Bool := decide (0 < x.size) && (x.data.toList.take k).all bare
theorem plK_next {x : ByteArray} {k : Nat} (h : k < x.size) : plK x (k + 1) = (plK x k && bare x[k]) := by
  unfold plK
  rw [take_k h, List.all_append]
  simp [Bool.and_assoc]
theorem plK_all (x : ByteArray) : plK x x.size = plainA x.data.toList := by
  unfold plK plainA
  have e : x.data.toList.take x.size = x.data.toList := List.take_of_length_le (by simp)
  rw [e]
  congr 1
  cases h : x.data.toList with
  | nil =>
    have : x.size = 0 := by have := congrArg List.length h; simpa using this
    simp [this]
  | cons c t =>
    have : x.size = (c :: t).length := by rw [← h]; simp
    simp [this]
theorem bytes_of_list {a : ByteArray} {l : List UInt8} (h : a.data.toList = l) : a = ⟨l.toArray⟩ := by rw [← h]
/-- What bare asks, in Go's own numbers. -/
theorem bare_iff (c : UInt8) : bare c = true ↔ (33 ≤ c.toNat ∧ c.toNat ≤ 126 ∧ c.toNat ≠ 34 ∧ c.toNat ≠ 39 ∧ c.toNat ≠ 92) := by
  have key : ∀ n : Fin 256, bare (UInt8.ofNat n.1) = true ↔ (33 ≤ n.1 ∧ n.1 ≤ 126 ∧ n.1 ≠ 34 ∧ n.1 ≠ 39 ∧ n.1 ≠ 92) := by decide +kernel
  have e : UInt8.ofNat c.toNat = c := by simp
  have := key ⟨c.toNat, c.toNat_lt⟩
  rwa [e] at this
theorem drew_on {w wr : World} (h : Hid (∃ m, wr = w.drewN m)) (n : Nat) : Hid (∃ m, wr.drewN n = w.drewN m) := by
  obtain ⟨m, rfl⟩ := h.out
  exact Lib.hid ⟨m + n, by unfold World.drewN; simp [Nat.add_assoc]⟩

theorem encs_plain {l : List UInt8} (h : plainA l = true) : encs l = l := by
  unfold plainA at h
  simp only [Bool.and_eq_true, List.all_eq_true] at h
  have h2 := h.2
  clear h
  induction l with
  | nil => rfl
  | cons c l ih =>
    have e : encs (c :: l) = enc c ++ encs l := by simp [encs]
    have hc := (bare_iff c).1 (h2 c (by simp))
    rw [e, ih (fun d hd => h2 d (by simp [hd]))]
    unfold enc shown
    rw [if_neg, if_pos (decide_eq_true ⟨by omega, hc.2.1⟩)]
    · rfl
    · rintro (rfl | rfl)
      · exact hc.2.2.1 rfl
      · exact hc.2.2.2.2 rfl
theorem jn_size {o : ByteArray} {l : List UInt8} {n : Nat} (h : o = ⟨l.toArray⟩) (h1 : l.length ≤ n) (h2 : n ≤ 1048576) : o.size ≤ 1048576 := by
  rw [h]
  show l.toArray.size ≤ _
  rw [List.size_toArray]
  omega
def hxS : ByteArray := ⟨#[48, 49, 50, 51, 52, 53, 54, 55, 56, 57, 97, 98, 99, 100, 101, 102]⟩
theorem hxS_at {n : Nat} (h : n < 16) : (hxS.extract n (n + 1)).data.toList = [hexc n] := by
  rw [oneB (show n < hxS.size from h), hexc_at ⟨n, h⟩]
  rfl
theorem hxS_size {n : Nat} (h : n < 16) : (hxS.extract n (n + 1)).size = 1 := by
  have h1 := congrArg List.length (hxS_at h)
  rw [List.length_singleton, Array.length_toList] at h1
  exact h1

set_option maxRecDepth 100000 in
set_option maxHeartbeats 8000000 in
theorem rjoin_any (A : Option Addr) (c : Nat) (ss : List ByteArray) (w : World) (hn : ss.length ≤ 65536) (hz : Hid (∀ x ∈ ss, x.size ≤ 65536)) (hj : (joinF (txt ss)).length ≤ 1048576) (hr : SR w A ss) :
    Calls Tryd.prog 13 #[.slice A ss.length c] w fun e w' => e = .returned (.string ⟨(joinF (txt ss)).toArray⟩) ∧ ∃ n, w' = w.drewN n := by
  have hrH := Lib.hid hr
  clear hr
  go_enter Tryd.func13, Tryd.ntmps13
  go_wp2_with fail
  go_loopw [4, 5] (fun ov iv wr => ∃ (k : Nat) (o : ByteArray), iv = .int .i64 k ∧ ov = .string o ∧ k ≤ ss.length ∧ o.size ≤ 1048576 ∧ Hid (o = ⟨(jn ss k).toArray⟩) ∧ Hid (∃ m, wr = w.drewN m)) (fun _ iv _ => ss.length - (intOf iv).toNat)
  case atStart => exact ⟨0, ⟨#[]⟩, rfl, rfl, by omega, by decide, Lib.hid rfl, Lib.hid ⟨0, rfl⟩⟩
  case round =>
    obtain ⟨k, o, rfl, rfl, hk, hos, ho, hW⟩ := hrel
    by_cases hlt : k < ss.length
    · obtain ⟨x, hx⟩ : ∃ x, ss[k]? = some x := ⟨_, List.getElem?_eq_getElem hlt⟩
      obtain ⟨a, rfl, hc0⟩ := hrH.out k x hx
      have hxs := hz.out x (List.mem_of_getElem? hx)
      have hxH := Lib.hid hx
      have hcw : Hid (∀ W, (∃ m, W = w.drewN m) → W.cell? (a.add k) = some (.string x)) := Lib.hid (by rintro W ⟨m, rfl⟩; exact hc0)
      have hc := hcw.out wr hW.out
      clear hx hc0
      clear hc
      have hc := hcw.out wr hW.out
      go_wp2_with fail
      obtain ⟨wo, rfl⟩ : ∃ wo : World, wo = wr := ⟨_, rfl⟩
      go_loopw [6, 7, 8] (fun pv tv jv wi => ∃ (j : Nat) (t : ByteArray) (p : Bool), jv = .int .i64 j ∧ tv = .string t ∧ pv = .bool p ∧ j ≤ x.size ∧ t.size ≤ 4 * j ∧ Hid (p = plK x j) ∧ Hid (t.data.toList = encs (x.data.toList.take j)) ∧ Hid (∃ m, wi = w.drewN m)) (fun _ _ jv _ => x.size - (intOf jv).toNat)
      case atStart => exact ⟨0, ⟨#[]⟩, decide (0 < x.size), rfl, rfl, rfl, by omega, by decide, Lib.hid (by simp [plK]), Lib.hid (by simp [encs]), hW⟩
      case round =>
        clear hc
        obtain ⟨j, t, p, rfl, rfl, rfl, hjk, hts, hp, ht, hWi⟩ := hrel
        have hc := hcw.out _ hWi.out
        by_cases hjl : j < x.size
        · go_upto_region 12 with fail
          go_cut [6] from 37 to 57 (fun s6 wx => ∃ q : Bool, s6 = .bool q ∧ Hid (q = (p && bare x[j])) ∧ wx = wr)
          case first =>
            cases p with
            | false =>
              go_wp2_with fail
              go_meet
              case rel => exact ⟨false, rfl, Lib.hid rfl, rfl⟩
            | true =>
              have hb := bare_iff x[j]
              by_cases q1 : 33 ≤ x[j].toNat
              · by_cases q2 : x[j].toNat ≤ 126
                · by_cases q3 : x[j].toNat = 34
                  · have hbv : Hid (bare x[j] = false) := Lib.hid (Bool.eq_false_iff.2 fun h => (hb.1 h).2.2.1 q3)
                    have f3 : ((x[j].toNat : Int) != 34) = false := by rw [q3]; rfl
                    clear hb q3
                    go_wp2_with fail
                    go_meet
                    case rel => exact ⟨false, rfl, Lib.hid (by rw [hbv.out]; rfl), rfl⟩
                  · have f3 : ((x[j].toNat : Int) != 34) = true := bne_iff_ne.2 (by omega)
                    by_cases q4 : x[j].toNat = 39
                    · have hbv : Hid (bare x[j] = false) := Lib.hid (Bool.eq_false_iff.2 fun h => (hb.1 h).2.2.2.1 q4)
                      have f4 : ((x[j].toNat : Int) != 39) = false := by rw [q4]; rfl
                      clear hb q3 q4
                      go_wp2_with fail
                      go_meet
                      case rel => exact ⟨false, rfl, Lib.hid (by rw [hbv.out]; rfl), rfl⟩
                    · have f4 : ((x[j].toNat : Int) != 39) = true := bne_iff_ne.2 (by omega)
                      by_cases q5 : x[j].toNat = 92
                      · have hbv : Hid (bare x[j] = false) := Lib.hid (Bool.eq_false_iff.2 fun h => (hb.1 h).2.2.2.2 q5)
                        have f5 : ((x[j].toNat : Int) != 92) = false := by rw [q5]; rfl
                        clear hb q3 q4 q5
                        go_wp2_with fail
                        go_meet
                        case rel => exact ⟨false, rfl, Lib.hid (by rw [hbv.out]; rfl), rfl⟩
                      · have hbv : Hid (bare x[j] = true) := Lib.hid (hb.2 ⟨q1, q2, q3, q4, q5⟩)
                        have f5 : ((x[j].toNat : Int) != 92) = true := bne_iff_ne.2 (by omega)
                        clear hb q3 q4 q5
                        go_wp2_with fail
                        go_meet
                        case rel => exact ⟨true, rfl, Lib.hid (by rw [hbv.out]; rfl), rfl⟩
                · have hbv : Hid (bare x[j] = false) := Lib.hid (Bool.eq_false_iff.2 fun h => q2 (hb.1 h).2.1)
                  clear hb
                  go_wp2_with fail
                  go_meet
                  case rel => exact ⟨false, rfl, Lib.hid (by rw [hbv.out]; rfl), rfl⟩
              · have hbv : Hid (bare x[j] = false) := Lib.hid (Bool.eq_false_iff.2 fun h => q1 (hb.1 h).1)
                clear hb
                go_wp2_with fail
                go_meet
                case rel => exact ⟨false, rfl, Lib.hid (by rw [hbv.out]; rfl), rfl⟩
          case rest =>
            obtain ⟨q, rfl, hq, rfl⟩ := hcut
            have hp2 : Hid (q = plK x (j + 1)) := Lib.hid (by rw [plK_next hjl, ← hp.out, hq.out])
            have hte : Hid (encs (x.data.toList.take (j + 1)) = encs (x.data.toList.take j) ++ enc x[j]) := Lib.hid (by rw [take_k hjl, encs_snoc])
            have hz1 : (x.extract j (j + 1)).size = 1 := by simp; omega
            have hob := oneB hjl
            clear hp hq
            by_cases he : x[j] = 34 ∨ x[j] = 92
            · have hN : Hid ((t ++ (⟨#[92]⟩ ++ x.extract j (j + 1))).data.toList = encs (x.data.toList.take (j + 1))) := Lib.hid (by
                rw [hte.out, addD, addD, hob, ht.out]
                unfold enc
                rw [if_pos he]
                rfl)
              have hz2 : (t ++ (⟨#[92]⟩ ++ x.extract j (j + 1))).size ≤ 4 * (j + 1) := by rw [ByteArray.size_append, ByteArray.size_append, hz1]; show _ + (1 + 1) ≤ _; omega
              have hf : ((x[j].toNat : Int) == 34) = true ∨ (((x[j].toNat : Int) == 34) = false ∧ ((x[j].toNat : Int) == 92) = true) := by
                rcases he with h | h
                · exact Or.inl (by rw [h]; rfl)
                · exact Or.inr ⟨by rw [h]; rfl, by rw [h]; rfl⟩
              clear he hob
              rcases hf with f1 | ⟨f1, f2⟩
              all_goals
                go_wp2_with fail
                go_roundw
                case rel => exact ⟨j + 1, _, q, by go_num, rfl, rfl, by omega, hz2, hp2, hN, hWi⟩
                case measure => simp [intOf]; omega
            · have f1 : ((x[j].toNat : Int) == 34) = false := beq_eq_false_iff_ne.2 fun e => he (Or.inl (byte_of (n := 34) (by decide) e))
              have f2 : ((x[j].toNat : Int) == 92) = false := beq_eq_false_iff_ne.2 fun e => he (Or.inr (byte_of (n := 92) (by decide) e))
              by_cases hsh : 32 ≤ x[j].toNat ∧ x[j].toNat ≤ 126
              · have hN : Hid ((t ++ x.extract j (j + 1)).data.toList = encs (x.data.toList.take (j + 1))) := Lib.hid (by
                  rw [hte.out, addD, hob, ht.out]
                  unfold enc shown
                  rw [if_neg he, if_pos (decide_eq_true hsh)])
                have hz2 : (t ++ x.extract j (j + 1)).size ≤ 4 * (j + 1) := by rw [ByteArray.size_append, hz1]; omega
                obtain ⟨s1, s2⟩ := hsh
                clear he hob
                go_wp2_with fail
                go_roundw
                case rel => exact ⟨j + 1, _, q, by go_num, rfl, rfl, by omega, hz2, hp2, hN, hWi⟩
                case measure => simp [intOf]; omega
              · have hshf : x[j].toNat < 32 ∨ 126 < x[j].toNat := by omega
                have hc256 : x[j].toNat < 256 := x[j].toNat_lt
                have hN : Hid ((t ++ ((⟨#[92, 120]⟩ : ByteArray) ++ (hxS.extract (x[j].toNat / 16) (x[j].toNat / 16 + 1)) ++ (hxS.extract (x[j].toNat % 16) (x[j].toNat % 16 + 1)))).data.toList = encs (x.data.toList.take (j + 1))) := Lib.hid (by
                  rw [hte.out, addD, addD, addD, ht.out, hxS_at (by omega), hxS_at (by omega)]
                  unfold enc shown
                  rw [if_neg he, if_neg (by simp; omega)]
                  rfl)
                have hz2 : (t ++ ((⟨#[92, 120]⟩ : ByteArray) ++ (hxS.extract (x[j].toNat / 16) (x[j].toNat / 16 + 1)) ++ (hxS.extract (x[j].toNat % 16) (x[j].toNat % 16 + 1)))).size ≤ 4 * (j + 1) := by
                  rw [ByteArray.size_append, ByteArray.size_append, ByteArray.size_append, hxS_size (by omega), hxS_size (by omega)]
                  show _ + (2 + 1 + 1) ≤ _
                  omega
                clear hob hz1 he
                have d0 : 0 ≤ (x[j].toNat : Int) / 16 := by omega
                have d1 : (x[j].toNat : Int) / 16 < 16 := by omega
                have d2 : ((x[j].toNat : Int) / 16).toNat = x[j].toNat / 16 := by omega
                have d3 : IntKind.u8.wrap ((x[j].toNat : Int) / 16 + 1) = (x[j].toNat : Int) / 16 + 1 := by rw [IntKind.wrap_u8]; omega
                have d4 : ((x[j].toNat : Int) / 16 + 1).toNat = x[j].toNat / 16 + 1 := by omega
                have d5 : (x[j].toNat : Int) / 16 + 1 ≤ 16 := by omega
                have e0 : 0 ≤ (x[j].toNat : Int) % 16 := by omega
                have e1 : (x[j].toNat : Int) % 16 < 16 := by omega
                have e2 : ((x[j].toNat : Int) % 16).toNat = x[j].toNat % 16 := by omega
                have e3 : IntKind.u8.wrap ((x[j].toNat : Int) % 16 + 1) = (x[j].toNat : Int) % 16 + 1 := by rw [IntKind.wrap_u8]; omega
                have e4 : ((x[j].toNat : Int) % 16 + 1).toNat = x[j].toNat % 16 + 1 := by omega
                have e5 : (x[j].toNat : Int) % 16 + 1 ≤ 16 := by omega
                rcases hshf with hs1 | hs1
                all_goals
                  go_upto_region 13 with fail
                  go_quiet (fail)
                  clear d0 d1 d2 d3 d4 d5 e0 e1 e2 e3 e4 e5
                  go_wp2_with fail
                  go_roundw
                  case rel => exact ⟨j + 1, _, q, by go_num, rfl, rfl, by omega, hz2, hp2, hN, drew_on hWi _⟩
                  case measure => simp [intOf]; omega
        · have hjx : j = x.size := by omega
          have hpf : Hid (p = plainA x.data.toList) := Lib.hid (by rw [hp.out, hjx, plK_all])
          have htf : Hid (t.data.toList = encs x.data.toList) := Lib.hid (by rw [ht.out, hjx, List.take_of_length_le (by simp)])
          have hxl : x.data.toList.length = x.size := by simp
          have hel := encs_len x.data.toList
          clear hp ht
          have hjl2 := jn_len ss (k + 1)
          have hob : Hid (o.data.toList = jn ss k) := Lib.hid (by rw [ho.out])
          cases hpv : plainA x.data.toList with
          | true =>
            obtain rfl : p = true := by rw [hpf.out, hpv]
            have htk : tok x.data.toList = t.data.toList := by rw [htf.out, encs_plain hpv]; unfold tok; rw [if_pos hpv]
            rcases Nat.eq_zero_or_pos k with h0 | h0
            · subst h0
              have hc' := hc
              rw [show a.add 0 = a from by simp [Addr.add]] at hc'
              have hN : Hid (o ++ t = ⟨(jn ss (0 + 1)).toArray⟩) := Lib.hid (bytes_of_list (by rw [addD, hob.out, jn_first hxH.out, htk]; rfl))
              have hsz := jn_size hN.out hjl2 hj
              clear hpv htk hjx hel hxl
              as_aux_lemma =>
                go_wp2_with fail
                go_roundw
                case rel => exact ⟨0 + 1, _, by go_num, rfl, by omega, hsz, hN, hWi⟩
                case measure => simp [intOf]; omega
            · have hN : Hid (o ++ ⟨#[32]⟩ ++ t = ⟨(jn ss (k + 1)).toArray⟩) := Lib.hid (bytes_of_list (by rw [addD, addD, hob.out, jn_next hxH.out h0, htk]))
              have hsz := jn_size hN.out hjl2 hj
              clear hpv htk hjx hel hxl
              as_aux_lemma =>
                go_wp2_with fail
                go_roundw
                case rel => exact ⟨k + 1, _, by go_num, rfl, by omega, hsz, hN, hWi⟩
                case measure => simp [intOf]; omega
          | false =>
            obtain rfl : p = false := by rw [hpf.out, hpv]
            have htk : tok x.data.toList = 34 :: t.data.toList ++ [34] := by rw [htf.out]; unfold tok; rw [if_neg (by rw [hpv]; decide)]
            rcases Nat.eq_zero_or_pos k with h0 | h0
            · subst h0
              have hc' := hc
              rw [show a.add 0 = a from by simp [Addr.add]] at hc'
              have hN : Hid (o ++ ((⟨#[34]⟩ : ByteArray) ++ t ++ ⟨#[34]⟩) = ⟨(jn ss (0 + 1)).toArray⟩) := Lib.hid (bytes_of_list (by rw [addD, addD, addD, hob.out, jn_first hxH.out, htk]; rfl))
              have hsz := jn_size hN.out hjl2 hj
              clear hpv htk hjx hel hxl
              as_aux_lemma =>
                go_wp2_with fail
                go_roundw
                case rel => exact ⟨0 + 1, _, by go_num, rfl, by omega, hsz, hN, hWi⟩
                case measure => simp [intOf]; omega
            · have hN : Hid (o ++ ⟨#[32]⟩ ++ ((⟨#[34]⟩ : ByteArray) ++ t ++ ⟨#[34]⟩) = ⟨(jn ss (k + 1)).toArray⟩) := Lib.hid (bytes_of_list (by rw [addD, addD, addD, addD, hob.out, jn_next hxH.out h0, htk]; rfl))
              have hsz := jn_size hN.out hjl2 hj
              clear hpv htk hjx hel hxl
              as_aux_lemma =>
                go_wp2_with fail
                go_roundw
                case rel => exact ⟨k + 1, _, by go_num, rfl, by omega, hsz, hN, hWi⟩
                case measure => simp [intOf]; omega
    · have hE : Hid (o = ⟨(joinF (txt ss)).toArray⟩) := Lib.hid (by rw [ho.out, ← jn_all, show k = ss.length by omega])
      go_wp2_with fail
      go_ret
      exact ⟨by rw [hE.out]; rfl, hW.out⟩
end Go.Proofs.YtkghdnifgoeljaaDoor
