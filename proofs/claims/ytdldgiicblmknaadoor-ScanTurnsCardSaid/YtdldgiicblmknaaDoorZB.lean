/-
  The walk of the law of a table that does not change. The table of factors holds what the program's text lays; a length.
-/
import Derived.Test.YtdldgiicblmknaaDoorSM
import Derived.Deep.Cut
import Derived.Deep.CutRange
import Derived.Deep.CutBlock

namespace Go.Proofs.YtdldgiicblmknaaDoor
open Go.RowKit

/-- What so many turns from 0 on tell. -/
def tolds (X : Tb) (i : Nat) : List ByteArray := (List.range i).flatMap fun j => tK X (rev (tS X) j)
theorem tolds_all {X : Tb} (hI : Inv X) (hP : Par X) : (tolds X (2 ^ tS X)).Perm (kys X.ents) := whole_keys hI hP
theorem tolds_split (X : Tb) {i i' : Nat} (h : i ≤ i') : tolds X i' = tolds X i ++ (List.range' i (i' - i)).flatMap fun j => tK X (rev (tS X) j) := by
  unfold tolds
  rw [range_split i i' h, List.flatMap_append]
theorem tolds_len {X : Tb} (hI : Inv X) (hP : Par X) {i : Nat} (h : i ≤ 2 ^ tS X) : (tolds X i).length ≤ 1000000 := by
  have h1 := (tolds_all hI hP).length_eq
  rw [tolds_split X h, List.length_append, kys_len, ← hI.cnt] at h1
  have := hI.good.ct
  omega
theorem scan_step {X : Tb} (i : Nat) (hi : i < 2 ^ tS X) (count : Nat) (f : Nat) (hf : 0 < f) :
    ∃ i' seg, i < i' ∧ i' ≤ 2 ^ tS X ∧ scanF (tS X) (tK X) count f (rev (tS X) i) [] = (rev (tS X) i', seg) ∧ tolds X i' = tolds X i ++ seg := by
  obtain ⟨i', h1, h2, h3, _, h5⟩ := scanF_walk (tS X) (tK X) count f i [] hi
  exact ⟨i', _, h2 hf, h3, h5, tolds_split X h1⟩

set_option maxRecDepth 100000 in
set_option maxHeartbeats 8000000 in
theorem once_law (seed : Int) (A : Option Addr) (c : Nat) (l : List Op3) (count : Int) (w : World) (hU : U seed) (hr : OpsAt w w.heap.size A l) (hrg : ∀ x ∈ l, -9223372036854775808 ≤ x.2.2 ∧ x.2.2 ≤ 9223372036854775807) (hl : l.length ≤ 140737488355328) (hF : Fac w) (hz : 0 < w.heap.size) :
    Calls Tryd.prog 5 #[.int .u64 seed, .slice A l.length c, .int .i64 count] w fun e w' => e = .returned (.bool true) ∧ Below w.heap.size w w' := by
  have hfar := Lib.hid (far_any A c l w hr hl)
  have hal : Hid (∀ w1, Below w.heap.size w w1 → Calls Tryd.prog 8 #[] w1 fun e w' => e = .returned (.bool true) ∧ Below w1.heap.size w1 w') := Lib.hid (fun w1 hb => alive_any w1 (fac_below hF hz hb) (by have := hb.size; omega))
  have hrH := Lib.hid hr
  have hrgH := Lib.hid hrg
  have hFH := Lib.hid hF
  have hUH := Lib.hid hU
  clear hr hF hrg
  cases hfo : farO l with
  | true =>
    rw [hfo] at hfar
    go_enter Tryd.func5, Tryd.ntmps5
    go_wp2_with (first
      | (go_at_call 7; ((with_reducible refine (hfar.out).mono ?_); rintro r w1 ⟨rfl, hb1⟩; have hb1H := Lib.hid hb1; clear hb1))
      | (go_at_call 8; ((with_reducible refine (hal.out _ hb1H.out).mono ?_); rintro e w2 ⟨rfl, hb2⟩)))
    go_ret
    exact ⟨rfl, onB hb1H.out hb2 hb1H.out.size⟩
  | false =>
    rw [hfo] at hfar
    obtain ⟨hll, hks⟩ := farO_false hfo
    have hksH := Lib.hid hks
    clear hfo hks
    go_enter Tryd.func5, Tryd.ntmps5
    go_upto_region 4 with (first
      | (go_at_call 7; ((with_reducible refine (hfar.out).mono ?_); rintro r w1 ⟨rfl, hb1⟩))
      | (go_at_call 9; ((with_reducible refine (new_any seed _).mono ?_); rintro r w2 ⟨rfl, hw2⟩)))
    have hb1H := Lib.hid hb1
    have hb2 := hb1.alloc hb1.size (newX w1.heap.size seed).head
    have ht2 := heap_alloc_new w1 (newX w1.heap.size seed).head
    have hok := new_ok (B := w.heap.size) w1.heap.size seed hU (fac_below hFH.out hz hb2) hz hb1.size ht2
    have hokH := Lib.hid (And.intro hok (par_new w1.heap.size seed))
    have hb2H := Lib.hid hb2
    clear hok ht2 hb2 hb1 hw2
    generalize w1.alloc (newX w1.heap.size seed).head = w3 at *
    generalize w1.heap.size = T at *
    go_wp2_with fail
    go_loopw [23] (fun s23 wr => ∃ (k : Nat) (X : Tb), k ≤ l.length ∧ s23 = .int .i64 k ∧ Hid (Ok w.heap.size X wr ∧ Par X) ∧ Hid (X.T = T) ∧ Hid (X.count ≤ k) ∧ Hid (Below w.heap.size w wr)) (fun s23 _ => l.length - (intOf s23).toNat)
    case atStart => exact ⟨0, _, by omega, rfl, hokH, Lib.hid rfl, Lib.hid (Nat.le_refl _), hb2H⟩
    case round =>
      obtain ⟨k, X, hk, rfl, hO, hT, hC, hB⟩ := hrel
      by_cases hlt : k < l.length
      · obtain ⟨x, hx⟩ : ∃ x, l[k]? = some x := ⟨_, List.getElem?_eq_getElem hlt⟩
        obtain ⟨a, rfl, ha, x1, x2, x3⟩ := hrH.out.on hB.out k x hx
        have hxs := Lib.hid (hksH.out x (List.mem_of_getElem? hx))
        have hxr := Lib.hid (hrgH.out x (List.mem_of_getElem? hx))
        have hltH := Lib.hid hlt
        obtain ⟨kd, ok, ov⟩ := x
        simp only at x1 x2 x3 hxs hxr
        clear hx
        have hdo : Hid (∀ wo, Only [] wr wo → Calls Tryd.prog 11 #[.pointer (some ⟨T, 0, none⟩), .agg #[.int .i64 kd, .string ok, .int .i64 ov]] wo fun r w' => ∃ G, r = .returned (.tuple #[]) ∧ Did w.heap.size X G kd ok ov wo w') := Lib.hid fun wo ho => by
          have h := does_at (hO.out.1.on ho (by simp) (by simp)) hO.out.2 kd ok ov (by have := hxs.out; omega) hxr.out (by have := hC.out; have := hltH.out; omega)
          rw [hT.out] at h
          exact h
        go_wp2_with (go_at_call 11; ((with_reducible refine (hdo.out _ ((Only.refl _ _).alloc _)).mono ?_); rintro r w4 ⟨G, rfl, hG⟩; have hGH := Lib.hid hG; clear hG))
        go_roundw
        case rel => exact ⟨k + 1, G, by omega, by go_num, Lib.hid ⟨hGH.out.ok, hGH.out.par⟩, Lib.hid (hGH.out.same.1.trans hT.out), Lib.hid (by have := hGH.out.cnt; have := hC.out; omega), Lib.hid ((hB.out.alloc hB.out.size _).trans (hGH.out.only.below (by have := hB.out.size; simp; omega) (fun x hx => hO.out.1.live.own x hx)))⟩
        case measure => simp [intOf]; omega
      · clear hk hC
        obtain ⟨cN, hcN, hc1, hc50⟩ : ∃ cN : Nat, wrap64 (wrap64 ((IntKind.u64.wrap count).tmod 50) + 1) = (cN : Int) ∧ 1 ≤ cN ∧ cN ≤ 50 := by
          have h0 := IntKind.wrap_u64 count
          generalize IntKind.u64.wrap count = u at *
          have hu : 0 ≤ u := by omega
          have h1 : u.tmod 50 = u % 50 := Int.tmod_eq_emod_of_nonneg hu
          rw [h1]
          have h2 : wrap64 (u % 50) = u % 50 := IntWalk.wrap64_in _ (by omega)
          rw [h2]
          have h3 : wrap64 (u % 50 + 1) = u % 50 + 1 := IntWalk.wrap64_in _ (by omega)
          rw [h3]
          exact ⟨(u % 50 + 1).toNat, by omega, by omega, by omega⟩
        go_upto_region 10 with fail
        rw [hcN]
        have hsz := shape hO.out.1.inv hO.out.2
        have hs16 : tS X ≤ 16 := hsz.2.1
        have hp16 := pow_le16 hs16
        have hOr := Lib.hid (fun w1 (h : Below wr.heap.size wr w1) => hO.out.1.after h)
        have hOb := Lib.hid (fun x (hx : x ∈ X.blocks) => hO.out.1.live.here.lt hx)
        have hI := Lib.hid hO.out.1.inv
        have hP := Lib.hid hO.out.2
        have hB0 := Lib.hid hO.out.1.live.zero
        clear hsz hO hcN
        generalize wr = w5 at *
        go_wp2_with fail
        go_loopw [10, 11, 36] (fun s10 s11 s36 wr => ∃ (n i : Nat) (v10 : Value), n ≤ i ∧ i < 2 ^ tS X ∧ s36 = .int .i64 n ∧ s11 = .int .u64 (rev (tS X) i : Nat) ∧ v10 = s10 ∧ Hid (RowT wr w5.heap.size v10 (tolds X i)) ∧ Hid (Below w5.heap.size w5 wr)) (fun _ _ s36 _ => 100000 - (intOf s36).toNat)
        case atStart => exact ⟨0, 0, _, by omega, Nat.pos_of_ne_zero (by simp), rfl, by rw [rev_zero]; rfl, rfl, Lib.hid (rowT_nil _ _), Lib.hid (Below.refl _ _)⟩
        case round =>
          obtain ⟨n, i, v10, hni, hi2, rfl, rfl, rfl, how, hbq⟩ := hrel
          have hsb := rev_lt (tS X) i
          have hsc0 := scan_at (hOr.out wr hbq.out) hP.out (rev (tS X) i) (by omega) (cN : Int) (by omega)
          obtain ⟨i', seg, hii, hi3, hsg, htl⟩ := scan_step i hi2 (cntN (cN : Int)) (turnsN (cN : Int)) (turnsN_pos _)
          rw [hsg, hT.out] at hsc0
          have hsc := Lib.hid hsc0
          have hle := tolds_len hI.out hP.out hi3
          have hle2 := hle
          rw [htl, List.length_append] at hle2
          have htlH := Lib.hid htl
          have hzz := Lib.hid (rev_zero_iff (tS X) i' hi3 (by omega))
          clear hsc0 hsg htl
          generalize hcu : rev (tS X) i' = cu at *
          have hcuH := Lib.hid hcu
          clear hcu hsb
          have hpma : Hid (i' = 2 ^ tS X → (tolds X i').Perm (kys X.ents)) := Lib.hid fun hh => by rw [hh]; exact tolds_all hI.out hP.out
          have hd0 : decide ((n : Int) < 100000) = true := by simp; omega
          have hn1 : Hid (n < 100000) := Lib.hid (by omega)
          have hii2 : Hid (n + 1 ≤ i') := Lib.hid (by omega)
          have hi3H := Lib.hid hi3
          have hleH := Lib.hid hle2
          clear hi3 hle2 hle hp16 hi2 hni hii
          go_upto_region 17 with (first
            | (go_at_call 15; ((with_reducible refine (hsc.out).mono ?_); rintro e w1 ⟨v1, rfl, how1, hb1⟩))
            | (at_builtin; refine wpList_append_rowT rfl (.tmp 45) (.tmp 46) rfl w5.heap.size wr.heap.size v10 v1 _ _ rfl rfl (how.out.stay hb1) how1 (by have := hleH.out; omega) (by have := hbq.out.size; have := hb1.size; omega) ?happ))
          case happ =>
            intro v2 w2 how2 ho2 hv2
            have hb2 : Below w5.heap.size w5 w1 := onB hbq.out hb1 hbq.out.size
            have hb3 := Lib.hid (hb2.trans (ho2.below hb2.size (fun k hk => (how.out.lt k (by simpa using hk)).1)))
            rw [← htlH.out] at how2
            have how2H := Lib.hid how2
            clear how2 ho2 hv2 how1 hb1 hb2
            by_cases hz' : i' = 2 ^ tS X
            · have hcz := hzz.out.2 hz'
              subst hcz
              obtain ⟨A2, c2, hv2⟩ := how2H.out.len
              have hpm := hpma.out hz'
              have hl2 : (tolds X i').length = X.count := by rw [hpm.length_eq, kys_len, hI.out.cnt]
              rw [hl2] at hv2
              subst hv2
              have hpmH := Lib.hid hpm
              have hln := len_at (hOr.out w2 hb3.out)
              rw [hT.out] at hln
              have hlnH := Lib.hid hln
              have hks := keysT_at (hOr.out w2 hb3.out)
              rw [hT.out] at hks
              have hksH2 := Lib.hid hks
              have hkc : (kys X.ents).length = X.count := by rw [kys_len, hI.out.cnt]
              have hcl := hI.out.good.ct
              generalize X.count = ct at *
              generalize tolds X i' = tl at *
              generalize kys X.ents = K at *
              clear hln hks hpm
              go_upto_region 22 with (first
                | (go_at_call 23; ((with_reducible refine (hlnH.out).mono ?_); rintro r w8 ⟨rfl, rfl⟩))
                | (go_at_call 20; ((with_reducible refine (hksH2.out).mono ?_); rintro r w4 ⟨v4, rfl, how4, hb4⟩; obtain ⟨A4, c4, hv4⟩ := how4.len; rw [hkc] at hv4; subst hv4; have how4H := Lib.hid how4; have hb4H := Lib.hid hb4; clear how4 hb4)))
              have ht4 := Lib.hid (how2H.out.stay hb4H.out)
              have hb04 := Lib.hid (onB hb3.out hb4H.out hb3.out.size)
              go_wp2_with fail
              go_loopw [64] (fun s64 wz => ∃ j : Nat, j ≤ ct ∧ s64 = .int .i64 j ∧ Hid (Below w4.heap.size w4 wz)) (fun s64 _ => ct - (intOf s64).toNat)
              case atStart => exact ⟨0, by omega, rfl, Lib.hid (Below.refl _ _)⟩
              case round =>
                obtain ⟨j, hj, rfl, hbz⟩ := hrel
                by_cases hjl : j < ct
                · obtain ⟨x, hx⟩ : ∃ x, K[j]? = some x := ⟨_, List.getElem?_eq_getElem (by omega)⟩
                  have hxm := hpmH.out.mem_iff.2 (List.mem_of_getElem? hx)
                  obtain ⟨g, c9, heq, _, _, hcell⟩ := (how4H.out.stay hbz.out).cell hx
                  cases heq
                  have hh := has_at (ht4.out.stay hbz.out) x (by have := hl2; omega)
                  rw [hasB_mem.2 hxm] at hh
                  have hhH := Lib.hid hh
                  clear hh hxm hx
                  go_wp2_with (go_at_call 21; ((with_reducible refine (hhH.out).mono ?_); rintro r w7 ⟨rfl, ho7⟩; have ho7H := Lib.hid ho7; clear ho7))
                  go_roundw
                  case rel => exact ⟨j + 1, by omega, by go_num, Lib.hid (hbz.out.trans (ho7H.out.below (by have := hbz.out.size; omega) (by simp)))⟩
                  case measure => simp [intOf]; omega
                · have hje : j = ct := by omega
                  subst hje
                  have hbe := onB hB.out (onB hb04.out hbz.out hb04.out.size) hB.out.size
                  have halH := Lib.hid (hal.out _ hbe)
                  have hbeH := Lib.hid hbe
                  clear hbe
                  go_wp2_with (go_at_call 8; ((with_reducible refine (halH.out).mono ?_); rintro e w9 ⟨rfl, hb9⟩))
                  go_ret
                  exact ⟨rfl, onB hbeH.out hb9 hbeH.out.size⟩
            · have hcz : cu ≠ 0 := fun hh => hz' (hzz.out.1 hh)
              have hd1 : ((cu : Int) == 0) = false := by simp; omega
              have hd2 : decide ((cu : Int) = 0) = false := by simp; omega
              have hnb := hn1.out
              go_wp2_with fail
              go_roundw
              case rel => exact ⟨n + 1, i', _, hii2.out, Nat.lt_of_le_of_ne hi3H.out hz', by have := hn1.out; go_num, by rw [hcuH.out], rfl, how2H, hb3⟩
              case measure => have := hn1.out; simp [intOf]; omega

end Go.Proofs.YtdldgiicblmknaaDoor

/-
  The walk of the law's without; what is held between two turns: a table, what stays, what was told. A table's shape.
-/
namespace Go.Proofs.YtdldgiicblmknaaDoor
open Go.RowKit

theorem rowT_one (w : World) (x : ByteArray) : RowT (w.alloc (.cells #[.string x] 9)) w.heap.size (.slice (some ⟨w.heap.size, 0, none⟩) 1 1) [x] :=
  ⟨rfl, Or.inr ⟨w.heap.size, 1, #[.string x], rfl, Nat.le_refl _, heap_alloc_new w _, by simp, by unfold maxLen; omega, rfl, rfl⟩⟩
/-- Texts without one. -/
def outB (L : List ByteArray) (s : ByteArray) : List ByteArray := L.filter fun x => !(x.toList == s.toList)
theorem outB_mem {L : List ByteArray} {s k : ByteArray} : k ∈ outB L s ↔ k ∈ L ∧ s ≠ k := by
  unfold outB
  rw [List.mem_filter]
  refine and_congr_right fun _ => ?_
  cases he : (k.toList == s.toList) with
  | true => simp [bytes_eq he]
  | false =>
    simp only [Bool.not_false, true_iff]
    intro hh; subst hh; simp at he
theorem outB_len (L : List ByteArray) (s : ByteArray) : (outB L s).length ≤ L.length := List.length_filter_le _ _

set_option maxHeartbeats 2000000 in
theorem without_at {w : World} {base : Nat} {v : Value} {L : List ByteArray} (h : RowT w base v L) (s : ByteArray) (hl : L.length ≤ 1000000) :
    Calls Tryd.prog 22 #[v, .string s] w fun r w' => ∃ v', r = .returned v' ∧ RowT w' w.heap.size v' (outB L s) ∧ Below w.heap.size w w' := by
  have hH := Lib.hid h
  obtain ⟨A, cp, rfl⟩ := h.len
  clear h
  generalize hn : L.length = n at *
  have hnH := Lib.hid hn
  go_enter Tryd.func22, Tryd.ntmps22
  go_wp2_with fail
  go_loopw [5, 10] (fun s5 s10 wr => ∃ (i : Nat) (v5 : Value), i ≤ n ∧ s10 = .int .i64 i ∧ v5 = s5 ∧ Hid (RowT wr w.heap.size v5 (outB (L.take i) s)) ∧ Hid (Below w.heap.size w wr)) (fun _ s10 _ => n - (intOf s10).toNat)
  case atStart => exact ⟨0, _, by omega, rfl, rfl, Lib.hid (rowT_nil _ _), Lib.hid (Below.refl _ _)⟩
  case round =>
    obtain ⟨i, v5, hi, rfl, rfl, how, hb⟩ := hrel
    by_cases hil : i < n
    · obtain ⟨e, he⟩ : ∃ e, L[i]? = some e := ⟨_, List.getElem?_eq_getElem (by omega)⟩
      obtain ⟨g1, c1, heq, _, hg1, hc1⟩ := (hH.out.stay hb.out).cell he
      have htk : L.take (i + 1) = L.take i ++ [e] := by rw [List.take_add_one, he]; rfl
      have hlt := outB_len (L.take i) s
      rw [List.length_take] at hlt
      cases heq
      cases heb : (e.toList == s.toList) with
      | true =>
        have ho : outB (L.take (i + 1)) s = outB (L.take i) s := by rw [htk]; unfold outB; rw [List.filter_append]; simp [heb]
        have hoH := Lib.hid ho
        clear ho he htk
        go_wp2_with fail
        go_roundw
        case rel => exact ⟨i + 1, _, by omega, by go_num, rfl, Lib.hid (by rw [hoH.out]; exact how.out), hb⟩
        case measure => simp [intOf]; omega
      | false =>
        have ho : outB (L.take (i + 1)) s = outB (L.take i) s ++ [e] := by rw [htk]; unfold outB; rw [List.filter_append]; simp [heb]
        have hoH := Lib.hid ho
        have hbs := hb.out.size
        clear ho he htk
        go_wp2_with (at_builtin; refine wpList_append_rowT rfl (.tmp 17) (.tmp 19) rfl w.heap.size wr.heap.size v5 _ _ _ rfl rfl (how.out.stay ((Below.refl _ _).alloc (Nat.le_refl _) _)) (rowT_one wr e) (by simp; omega) (by simp; omega) ?happ)
        case happ =>
          intro v2 w2 how2 ho2 hv2
          have hb2 : Below w.heap.size w (wr.alloc (.cells #[.string e] 9)) := hb.out.alloc hb.out.size _
          have hb3 := Lib.hid (hb2.trans (ho2.below hb2.size (fun k hk => (how.out.lt k (by simpa using hk)).1)))
          rw [← hoH.out] at how2
          have how2H := Lib.hid how2
          clear how2 ho2 hv2 hb2
          go_wp2_with fail
          go_roundw
          case rel => exact ⟨i + 1, _, by omega, by go_num, rfl, how2H, hb3⟩
          case measure => simp [intOf]; omega
    · have hin : i = n := by omega
      subst hin
      have ho := how.out
      rw [← hnH.out, List.take_length] at ho
      have hoH := Lib.hid ho
      clear ho
      go_wp2_with fail
      go_ret
      exact ⟨_, rfl, hoH.out, hb.out⟩

/-- What is held between two turns. -/
structure FB (B : Nat) (w0 : World) (seed : Int) (T : Nat) (Y : Tb) (vs vt : Value) (S Td : List ByteArray) (N M : Nat) (wr : World) : Prop where
  ok : Ok B Y wr
  par : Par Y
  tab : Y.T = T ∧ Y.seed = seed
  cnt : Y.count ≤ N
  rs : RowT wr B vs S
  rt : RowT wr B vt Td
  ss : ∀ k, vs.ownBlock = some k → k ∉ Y.blocks
  st : ∀ k, vt.ownBlock = some k → k ∉ Y.blocks
  sep : ∀ k, vs.ownBlock = some k → vt.ownBlock ≠ some k
  len : Td.length ≤ M
  lenS : S.length ≤ 1000000
  below : Below B w0 wr
variable {B : Nat} {w0 : World} {seed : Int} {T : Nat} {Y : Tb} {vs vt : Value} {S Td : List ByteArray} {N M : Nat} {wr : World}
theorem FB.after (h : FB B w0 seed T Y vs vt S Td N M wr) {w' : World} (hb : Below wr.heap.size wr w') (hB : B ≤ wr.heap.size) : FB B w0 seed T Y vs vt S Td N M w' :=
  ⟨h.ok.after hb, h.par, h.tab, h.cnt, h.rs.stay hb, h.rt.stay hb, h.ss, h.st, h.sep, h.len, h.lenS, onB h.below hb hB⟩
theorem FB.app (h : FB B w0 seed T Y vs vt S Td N M wr) {w3 : World} {vt' : Value} {Q : List ByteArray} (hr : RowT w3 B vt' (Td ++ Q)) (ho : Only vt.ownBlock.toList wr w3) (hv : vt'.ownBlock = vt.ownBlock ∨ vt'.ownBlock = some wr.heap.size) (hQ : Q.length ≤ 3000000) (hB : B ≤ wr.heap.size) :
    FB B w0 seed T Y vs vt' S (Td ++ Q) N (M + 3000000) w3 := by
  have hz := h.ok.live.zero
  have hrt := h.rt.lt
  refine ⟨h.ok.on ho (fun x hx => h.st x (by simpa using hx)) (fun h0 => by have := (hrt 0 (by simpa using h0)).1; have := h.ok.live.pos; omega), h.par, h.tab, h.cnt, h.rs.only ho (fun k hk hm => h.sep k hk (by simpa using hm)), hr, h.ss, ?_, ?_, ?_, h.lenS, h.below.trans (ho.below hB (fun k hk => (hrt k (by simpa using hk)).1))⟩
  · intro k hk hm
    rcases hv with hv | hv
    · rw [hv] at hk; exact h.st k hk hm
    · rw [hv] at hk; cases hk; have := h.ok.live.here.lt hm; omega
  · intro k hk hh
    rcases hv with hv | hv
    · rw [hv] at hh; exact h.sep k hk hh
    · rw [hv] at hh; cases hh; have := (h.rs.lt _ hk).2; omega
  · rw [List.length_append]; have := h.len; omega
theorem FB.did (h : FB B w0 seed T Y vs vt S Td N M wr) {w4 : World} {G : Tb} {kd : Int} {key : ByteArray} {v : Int} (hd : Did B Y G kd key v wr w4) : FB B w0 seed T G vs vt S Td (N + 1) M w4 := by
  refine ⟨hd.ok, hd.par, ⟨hd.same.1.trans h.tab.1, hd.same.2.trans h.tab.2⟩, by have := hd.cnt; have := h.cnt; omega, h.rs.only hd.only h.ss, h.rt.only hd.only h.st, ?_, ?_, h.sep, h.len, h.lenS, h.below.trans (hd.only.below (by have := h.ok.live.le; omega) (fun x hx => h.ok.live.own x hx))⟩
  · intro k hk hm
    rcases hd.blk k hm with h1 | h1
    · exact h.ss k hk h1
    · have := (h.rs.lt k hk).2; omega
  · intro k hk hm
    rcases hd.blk k hm with h1 | h1
    · exact h.st k hk h1
    · have := (h.rt.lt k hk).2; omega
theorem FB.less (h : FB B w0 seed T Y vs vt S Td N M wr) {w5 : World} {vs' : Value} {S' : List ByteArray} (hr : RowT w5 wr.heap.size vs' S') (hb : Below wr.heap.size wr w5) (hl : S'.length ≤ S.length) (hB : B ≤ wr.heap.size) :
    FB B w0 seed T Y vs' vt S' Td N M w5 := by
  refine ⟨h.ok.after hb, h.par, h.tab, h.cnt, hr.base hB, h.rt.stay hb, ?_, h.st, ?_, h.len, by have := h.lenS; omega, onB h.below hb hB⟩
  · intro k hk hm
    have h1 := (hr.lt k hk).1
    have h2 := h.ok.live.here.lt hm
    omega
  · intro k hk hh
    have h1 := (hr.lt k hk).1
    have h2 := (h.rt.lt k hh).2
    omega

end Go.Proofs.YtdldgiicblmknaaDoor
