/-
  The document's answers: Halve, All. Premises: a row of keys with counts of one's own, from 1 to 255.
-/
import Derived.Test.YtpbmgaipeofpaaaR
namespace Go.Proofs.Ytpbmgaipeofpaaa
open Go.RowKit

theorem halveF_snoc (R : List Sc) (x : Sc) : halveF (R ++ [x]) = halveF R ++ [halfO x] := by unfold halveF; rw [List.map_append]; rfl
set_option maxHeartbeats 8000000 in
/-- Halve, as the document has it. -/
theorem rhalve_any {w : World} {B : Nat} {v : Value} {L : List Sc} (h : RowS w B v L) (hn : L.length ≤ 1000000) (hc : Cnt L) :
    Calls Try.prog 15 #[v] w fun e w' => ∃ v', e = .returned (.tuple #[v', .int .i64 (lessF L : Nat)]) ∧ RowS w' w.heap.size v' (halveF L) ∧ Only [] w w' := by
  obtain ⟨A, c, rfl⟩ := h.len
  have hstep : Hid (∀ (i : Nat) (y : Sc), L[i]? = some y → halveF (L.take (i + 1)) = halveF (L.take i) ++ [halfO y] ∧ lessF (L.take (i + 1)) = lessF (L.take i) + (if 1 < y.2 then 1 else 0)) := Lib.hid (fun i y hy => by
    rw [List.take_add_one, hy]
    exact ⟨halveF_snoc _ _, lessF_snoc _ _⟩)
  have hfin : Hid (halveF (L.take L.length) = halveF L ∧ lessF (L.take L.length) = lessF L) := Lib.hid (by rw [List.take_length]; exact ⟨rfl, rfl⟩)
  have hle : Hid (∀ i : Nat, (halveF (L.take i)).length ≤ 1000000 ∧ lessF (L.take i) ≤ 1000000) := Lib.hid (fun i => by
    have := lessF_le (L.take i)
    unfold halveF
    rw [List.length_map]
    rw [List.length_take] at this ⊢
    omega)
  have hcel := Lib.hid (fun (w2 : World) (ho : Only [] w w2) => rowS_cell (h.none ho))
  have hcn : Hid (∀ (i : Nat) (y : Sc), L[i]? = some y → 1 ≤ y.2 ∧ y.2 ≤ 255) := Lib.hid (fun i y hy => hc y (List.mem_of_getElem? hy))
  obtain ⟨G, hG⟩ : ∃ G, G = halveF L := ⟨_, rfl⟩
  obtain ⟨m, hm⟩ : ∃ m, m = lessF L := ⟨_, rfl⟩
  rw [← hG, ← hm] at hfin
  rw [← hG, ← hm]
  obtain ⟨n, hnn⟩ : ∃ n, n = L.length := ⟨_, rfl⟩
  rw [← hnn] at hfin hn hcel ⊢
  clear h hnn hG hm hc
  go_enter Try.func15, Try.ntmps15
  go_wp2_with fail
  go_loopw [4, 5, 6] (fun s4 s5 s6 wr => ∃ (i q : Nat) (v4 : Value), i ≤ n ∧ s6 = .int .i64 i ∧ s5 = .int .i64 (q : Int) ∧ v4 = s4 ∧ Hid (q = lessF (L.take i)) ∧ Hid (RowS wr w.heap.size v4 (halveF (L.take i))) ∧ Hid (Only [] w wr)) (fun _ _ s6 _ => n - (intOf s6).toNat)
  case atStart => exact ⟨0, 0, _, by omega, rfl, rfl, rfl, Lib.hid rfl, Lib.hid (rowS_nil _ _), Lib.hid (Only.refl _ _)⟩
  case round =>
    obtain ⟨i, q, v4, hi, rfl, rfl, rfl, hq, hR, hon⟩ := hrel
    by_cases hil : i < n
    · obtain ⟨y, g, hy, rfl, d1, d2⟩ := hcel.out wr hon.out i hil
      have hix := run_ixS g i n c hil
      have hilH := Lib.hid hil
      obtain ⟨hs1, hs2⟩ := hstep.out i y hy
      obtain ⟨c1, c2⟩ := hcn.out i y hy
      have hlt : decide ((i : Int) < (n : Int)) = true := decide_eq_true (by omega)
      have hltn : decide (i < n) = true := decide_eq_true hil
      have hwk := wrap_small (x := (i : Int) + 1) (by omega)
      have hql : q ≤ 1000000 := by rw [hq.out]; exact (hle.out i).2
      have hwq := wrap_small (x := (q : Int) + 1) (by omega)
      obtain ⟨yk, yt⟩ := y
      simp only at d1 d2 hs2 c1 c2
      clear hil hy
      obtain ⟨T, hT⟩ : ∃ T, T = halveF (L.take i) := ⟨_, rfl⟩
      have hTl := Lib.hid (hle.out i).1
      rw [← hT] at hR hs1 hTl
      have hs1H := Lib.hid hs1
      have hs2H := Lib.hid hs2
      have hal := Lib.hid ((Only.refl [] wr).alloc (.cells #[.string yk, .int .i64 yt] 64))
      clear hT hs1 hs2
      by_cases hk : 1 < yt
      · have hd : decide ((1 : Int) < yt) = true := decide_eq_true hk
        have hwh := wrap_small (x := yt.tdiv 2) (by have : yt.tdiv 2 = yt / 2 := Int.tdiv_eq_ediv_of_nonneg (by omega); omega)
        have hkH := Lib.hid hk
        clear hk c1 c2
        have ho2 := Lib.hid (((Only.refl [] wr).alloc (.cells #[.string yk, .int .i64 (yt.tdiv 2)] 64)).alloc (.cells #[.string yk, .int .i64 (yt.tdiv 2)] 64))
        have hone : RowS ((wr.alloc (.cells #[.string yk, .int .i64 (yt.tdiv 2)] 64)).alloc (.cells #[.string yk, .int .i64 (yt.tdiv 2)] 64)) (wr.heap.size + 1) (.slice (some ⟨wr.heap.size + 1, 0, none⟩) 1 1) [(yk, (yt.tdiv 2))] := by
          have := rowS_one (w := wr.alloc (.cells #[.string yk, .int .i64 (yt.tdiv 2)] 64)) (yk, (yt.tdiv 2)) (Nat.le_refl _)
          rwa [World.size_alloc] at this
        have honeH := Lib.hid hone
        clear hone
        go_wp2_with (first
          | (at_builtin; refine wpList_append_s (o := ⟨some 30, _, _, _, _, _⟩) (by rfl) (.tmp 27) (.tmp 29) (by rfl) w.heap.size v4 (.slice (some ⟨wr.heap.size + 1, 0, none⟩) 1 1) T [(yk, (yt.tdiv 2))] (by rfl) (by rfl) (hR.out.none ho2.out) honeH.out.src (by have := hTl.out; simp; omega) (by have := hon.out.size; have := ho2.out.size; omega) ?_; intro v7 w7 hR7 hO7 hv7; have hR7H := Lib.hid hR7; have hO7H := Lib.hid (own_newS hO7 (hon.out.trans ho2.out (by simp)) (fun x hx => (hR.out.lt x hx).1)); clear hR7 hO7 hv7))
        go_roundw
        case rel => exact ⟨i + 1, q + 1, v7, by have := hilH.out; omega, by go_num, by go_num, rfl, Lib.hid (by rw [hs2H.out, if_pos hkH.out, hq.out]), Lib.hid (by rw [hs1H.out, show halfO (yk, yt) = (yk, yt.tdiv 2) from if_pos hkH.out]; exact hR7H.out), hO7H⟩
        case measure => have := hilH.out; simp [intOf]; omega
      · have hd : decide ((1 : Int) < yt) = false := decide_eq_false hk
        have hkH := Lib.hid hk
        clear hk c1 c2
        have ho2 := Lib.hid (((Only.refl [] wr).alloc (.cells #[.string yk, .int .i64 yt] 64)).alloc (.cells #[.string yk, .int .i64 yt] 64))
        have hone : RowS ((wr.alloc (.cells #[.string yk, .int .i64 yt] 64)).alloc (.cells #[.string yk, .int .i64 yt] 64)) (wr.heap.size + 1) (.slice (some ⟨wr.heap.size + 1, 0, none⟩) 1 1) [(yk, yt)] := by
          have := rowS_one (w := wr.alloc (.cells #[.string yk, .int .i64 yt] 64)) (yk, yt) (Nat.le_refl _)
          rwa [World.size_alloc] at this
        have honeH := Lib.hid hone
        clear hone
        go_wp2_with (first
          | (at_builtin; refine wpList_append_s (o := ⟨some 30, _, _, _, _, _⟩) (by rfl) (.tmp 27) (.tmp 29) (by rfl) w.heap.size v4 (.slice (some ⟨wr.heap.size + 1, 0, none⟩) 1 1) T [(yk, yt)] (by rfl) (by rfl) (hR.out.none ho2.out) honeH.out.src (by have := hTl.out; simp; omega) (by have := hon.out.size; have := ho2.out.size; omega) ?_; intro v7 w7 hR7 hO7 hv7; have hR7H := Lib.hid hR7; have hO7H := Lib.hid (own_newS hO7 (hon.out.trans ho2.out (by simp)) (fun x hx => (hR.out.lt x hx).1)); clear hR7 hO7 hv7))
        go_roundw
        case rel => exact ⟨i + 1, q, v7, by have := hilH.out; omega, by go_num, rfl, rfl, Lib.hid (by rw [hs2H.out, if_neg hkH.out, hq.out]; rfl), Lib.hid (by rw [hs1H.out, show halfO (yk, yt) = (yk, yt) from if_neg hkH.out]; exact hR7H.out), hO7H⟩
        case measure => have := hilH.out; simp [intOf]; omega
    · have hin : i = n := by omega
      subst hin
      have hR2 := hR.out
      have hq2 := hq.out
      rw [hfin.out.1] at hR2
      rw [hfin.out.2] at hq2
      subst hq2
      obtain ⟨A6, c6, rfl⟩ := hR2.len
      have hR2H := Lib.hid hR2
      clear hR2 hR
      go_wp2_with fail
      go_ret2
      exact ⟨_, rfl, hR2H.out, hon.out⟩
set_option maxHeartbeats 8000000 in
/-- All, as the document has it. -/
theorem rall_any {w : World} {B : Nat} {v : Value} {L : List Sc} (h : RowS w B v L) (hn : L.length ≤ 1000000) :
    Calls Try.prog 19 #[v] w fun e w' => ∃ v', e = .returned v' ∧ RowT w' w.heap.size v' (allF L) ∧ Only [] w w' := by
  obtain ⟨A, c, rfl⟩ := h.len
  have hlen : Hid (∀ k : Nat, (uptoF L k).length ≤ 1000000) := Lib.hid (fun k => by
    rw [uptoF_len]
    exact Nat.le_trans (List.length_filter_le _ _) hn)
  have hrow : Hid (∀ (i : Nat) (m : Int), (rowF (L.take i) m).length ≤ 1000000) := Lib.hid (fun i m => by
    unfold rowF
    rw [List.length_map]
    refine Nat.le_trans (List.length_filter_le _ _) ?_
    rw [List.length_take]
    omega)
  have hstep : Hid (∀ (i : Nat) (y : Sc) (m : Int), L[i]? = some y → rowF (L.take (i + 1)) m = rowF (L.take i) m ++ (if y.2 = m then [y.1] else [])) := Lib.hid (fun i y m hy => by
    rw [List.take_add_one, hy]
    exact rowF_snoc _ _ _)
  have hfin : Hid (∀ m : Int, rowF (L.take L.length) m = rowF L m) := Lib.hid (fun m => by rw [List.take_length])
  have hcel := Lib.hid (fun (w2 : World) (ho : Only [] w w2) => rowS_cell (h.none ho))
  obtain ⟨n, hnn⟩ : ∃ n, n = L.length := ⟨_, rfl⟩
  rw [← hnn] at hfin hn hcel ⊢
  clear h hnn
  go_enter Try.func19, Try.ntmps19
  go_wp2_with fail
  go_loopw [3, 4] (fun s3 s4 wr => ∃ (k : Nat) (v3 : Value), k ≤ 255 ∧ s4 = .int .i64 ((k : Int) + 1) ∧ v3 = s3 ∧ Hid (RowT wr w.heap.size v3 (uptoF L k)) ∧ Hid (Only [] w wr)) (fun _ s4 _ => 256 - (intOf s4).toNat)
  case atStart => exact ⟨0, _, by omega, rfl, rfl, Lib.hid (rowT_nil _ _), Lib.hid (Only.refl _ _)⟩
  case round =>
    obtain ⟨k, v3, hk, rfl, rfl, hR, hon⟩ := hrel
    by_cases hkl : k < 255
    · have hd1 : decide ((k : Int) + 1 ≤ 255) = true := decide_eq_true (by omega)
      have hwk2 := wrap_small (x := (k : Int) + 1 + 1) (by omega)
      obtain ⟨m, hm⟩ : ∃ m : Int, m = (k : Int) + 1 := ⟨_, rfl⟩
      rw [← hm] at hd1 hwk2 ⊢
      have hmH := Lib.hid hm
      have hklH := Lib.hid hkl
      clear hm hkl
      go_wp2_with fail
      go_loopw [3, 5] (fun s3 s5 w4 => ∃ (i : Nat) (v4 : Value), i ≤ n ∧ s5 = .int .i64 i ∧ v4 = s3 ∧ Hid (RowT w4 w.heap.size v4 (uptoF L k ++ rowF (L.take i) m)) ∧ Hid (Only [] w w4)) (fun _ s5 _ => n - (intOf s5).toNat)
      case atStart => exact ⟨0, _, by omega, rfl, rfl, Lib.hid (by rw [show rowF (L.take 0) m = [] from rfl, List.append_nil]; exact hR.out), Lib.hid hon.out⟩
      case round =>
        obtain ⟨i, v4, hi, rfl, rfl, hR4, hon4⟩ := hrel
        by_cases hil : i < n
        · obtain ⟨y, g, hy, rfl, d1, d2⟩ := hcel.out wr hon4.out i hil
          have hix := run_ixS g i n c hil
          have hilH := Lib.hid hil
          have hs1H := Lib.hid (hstep.out i y m hy)
          have hlt : decide ((i : Int) < (n : Int)) = true := decide_eq_true (by omega)
          have hltn : decide (i < n) = true := decide_eq_true hil
          have hwk := wrap_small (x := (i : Int) + 1) (by omega)
          obtain ⟨yk, yt⟩ := y
          simp only at d1 d2 hs1H
          clear hil hy
          by_cases hq : yt = m
          · subst hq
            have hbq : (yt == yt) = true := by simp
            have hs2H := Lib.hid hs1H.out
            rw [if_pos rfl] at hs2H
            clear hs1H
            obtain ⟨T, hT⟩ : ∃ T, T = uptoF L k ++ rowF (L.take i) yt := ⟨_, rfl⟩
            have hTl : Hid (T.length ≤ 2000000) := Lib.hid (by
              have h1 := hlen.out k
              have h2 := hrow.out i yt
              rw [hT, List.length_append]
              omega)
            rw [← hT] at hR4
            have hTH := Lib.hid hT
            clear hT
            go_wp2_with (first
              | (at_builtin; refine wpList_append_rowT (o := ⟨some 30, _, _, _, _, _⟩) (by rfl) (.tmp 23) (.tmp 29) (by rfl) w.heap.size wr.heap.size v4 (.slice (some ⟨wr.heap.size, 0, none⟩) 1 1) T [yk] (by rfl) (by rfl) (hR4.out.same ((Only.refl [] wr).alloc (.cells #[.string yk] 9))) (rowT_one wr yk (Nat.le_refl _)) (by have := hTl.out; simp; omega) (by have := hon4.out.size; have := ((Only.refl [] wr).alloc (.cells #[.string yk] 9)).size; omega) ?_; intro v7 w7 hR7 hO7 hv7; have hR7H := Lib.hid hR7; have hO7H := Lib.hid (own_newS hO7 (hon4.out.alloc _) (fun x hx => (hR4.out.lt x hx).1)); clear hR7 hO7 hv7))
            go_roundw
            case rel => exact ⟨i + 1, v7, by have := hilH.out; omega, by go_num, rfl, Lib.hid (by rw [hs2H.out, ← List.append_assoc, ← hTH.out]; exact hR7H.out), hO7H⟩
            case measure => have := hilH.out; simp [intOf]; omega
          · have hbq : (yt == m) = false := beq_false_of_ne hq
            have hs2H := Lib.hid hs1H.out
            rw [if_neg hq] at hs2H
            clear hs1H hq
            go_wp2_with fail
            go_roundw
            case rel => exact ⟨i + 1, v4, by have := hilH.out; omega, by go_num, rfl, Lib.hid (by rw [hs2H.out, List.append_nil]; exact hR4.out), hon4⟩
            case measure => have := hilH.out; simp [intOf]; omega
        · have hin : i = n := by omega
          subst hin
          have hR5 := hR4.out
          rw [hfin.out m, hmH.out, ← uptoF_succ] at hR5
          have hR5H := Lib.hid hR5
          clear hR5 hR4
          go_wp2_with fail
          go_roundw
          case rel => exact ⟨k + 1, v4, by have := hklH.out; omega, by rw [hmH.out]; go_num, rfl, hR5H, hon4⟩
          case measure => have := hmH.out; have := hklH.out; simp [intOf]; omega
    · have hk2 : k = 255 := by omega
      subst hk2
      have hR2 := hR.out
      rw [uptoF_all] at hR2
      obtain ⟨A6, c6, rfl⟩ := hR2.len
      generalize (allF L).length = na at *
      have hR2H := Lib.hid hR2
      clear hR2 hR
      go_wp2_with fail
      go_ret
      exact ⟨_, rfl, hR2H.out, hon.out⟩
end Go.Proofs.Ytpbmgaipeofpaaa
