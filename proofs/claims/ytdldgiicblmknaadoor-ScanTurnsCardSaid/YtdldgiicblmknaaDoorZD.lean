/-
  The walks of the document's Chain, Keys, Len, Size. A table's shape.
-/
import Derived.Test.YtdldgiicblmknaaDoorZC

namespace Go.Proofs.YtdldgiicblmknaaDoor
open Go.RowKit

variable {B T : Nat} {t : KT} {vo vn : Value} {w : World}

set_option maxHeartbeats 2000000 in
theorem rchain_old (h : RAt B T t vo vn w) (n : Nat) (hl : ∀ c ∈ t.old, c.length ≤ 1000000) :
    Calls Tryd.prog 37 #[.pointer (some ⟨T, 0, none⟩), .bool true, .int .i64 n] w fun e w' => ∃ v', e = .returned v' ∧ RowT w' w.heap.size v' (t.old.getD n []) ∧ Below w.heap.size w w' := by
  obtain ⟨c0, c1, c2, c3, cf⟩ := h.cells
  have hd0 : decide ((n : Int) < 0) = false := by simp
  by_cases hin : n < t.old.length
  · obtain ⟨g, cap, u, cur, heq, hg0, hg1, hcur, hcell, hch⟩ := h.old.cell hin
    subst heq
    obtain ⟨Au, cpu, hue⟩ := hch.len
    subst hue
    have hcl : (t.old.getD n []).length ≤ 1000000 := hl _ (by rw [List.getD_eq_getElem?_getD, List.getElem?_eq_getElem hin]; exact List.getElem_mem _)
    have hd1 : decide ((t.old.length : Int) ≤ (n : Int)) = false := by simp; omega
    have hd2 : decide (t.old.length ≤ n) = false := by simp; omega
    have hH := Lib.hid h
    have hchH := Lib.hid hch
    have hcellH := Lib.hid hcell
    have hg1H := Lib.hid hg1
    clear h hch hl c0 c3 cf hcell hcur
    generalize t.old.getD n [] = c at *
    generalize t.old.length = ol at *
    go_enter Tryd.func37, Tryd.ntmps37
    go_wp2_with fail
    go_loopw [7, 9] (fun s7 s9 wr => ∃ (i : Nat) (v7 : Value), i ≤ c.length ∧ s9 = .int .i64 i ∧ v7 = s7 ∧ Hid (RowT wr w.heap.size v7 (c.take i)) ∧ Hid (Below w.heap.size w wr)) (fun _ s9 _ => c.length - (intOf s9).toNat)
    case atStart => exact ⟨0, _, by omega, rfl, rfl, Lib.hid (rowT_nil _ _), Lib.hid (Below.refl _ _)⟩
    case round =>
      obtain ⟨i, v7, hi, rfl, rfl, how, hb⟩ := hrel
      have hcl1 : wr.cell? ⟨g, n, none⟩ = some (.slice Au c.length cpu) := (hb.out.cell (p := ⟨g, n, none⟩) hg1H.out).trans hcellH.out
      by_cases hil : i < c.length
      · obtain ⟨e, he⟩ : ∃ e, c[i]? = some e := ⟨_, List.getElem?_eq_getElem hil⟩
        obtain ⟨g1, cp1, cur1, v1, heq, _, hg1', hcur1, d0, d1⟩ := (hchH.out.same (rsame_below hb.out)).cell he
        rw [Nat.mul_comm] at d0
        cases heq
        have htk := Lib.hid (show c.take (i + 1) = c.take i ++ [e] by rw [List.take_add_one, he]; rfl)
        have hbs := hb.out.size
        clear he hcur1 d1
        go_wp2_with (at_builtin; refine wpList_append_rowT rfl (.tmp 37) (.tmp 46) rfl w.heap.size wr.heap.size v7 _ _ _ rfl rfl (how.out.stay ((Below.refl _ _).alloc (Nat.le_refl _) _)) (rowT_one wr e) (by simp; omega) (by simp; omega) ?happ)
        case happ =>
          intro v2 w2 how2 ho2 hv2
          have hb2 : Below w.heap.size w (wr.alloc (.cells #[.string e] 9)) := hb.out.alloc hb.out.size _
          have hb3 := Lib.hid (hb2.trans (ho2.below hb2.size (fun k hk => (how.out.lt k (by simpa using hk)).1)))
          rw [← htk.out] at how2
          have how2H := Lib.hid how2
          clear how2 ho2 hv2 hb2 hcl1
          go_wp2_with fail
          go_roundw
          case rel => exact ⟨i + 1, _, by omega, by go_num, rfl, how2H, hb3⟩
          case measure => simp [intOf]; omega
      · have hie : i = c.length := by omega
        subst hie
        have ho := how.out
        rw [List.take_length] at ho
        have hoH := Lib.hid ho
        clear ho
        go_wp2_with fail
        go_ret
        exact ⟨_, rfl, hoH.out, hb.out⟩
  · have hnil : t.old.getD n [] = [] := by rw [List.getD_eq_getElem?_getD, List.getElem?_eq_none (by omega)]; rfl
    rw [hnil]
    obtain ⟨Av, cpv, hv⟩ := h.old.len
    subst hv
    have hd1 : decide ((t.old.length : Int) ≤ (n : Int)) = true := by simp; omega
    clear h hl cf c0 c3
    go_enter Tryd.func37, Tryd.ntmps37
    go_wp2_with fail
    go_ret
    first
      | exact ⟨_, rfl, rowT_nil _ _, Below.refl _ _⟩
      | exact ⟨rowT_nil _ _, Below.refl _ _⟩

set_option maxHeartbeats 2000000 in
theorem rchain_new (h : RAt B T t vo vn w) (n : Nat) (hl : ∀ c ∈ t.new, c.length ≤ 1000000) :
    Calls Tryd.prog 37 #[.pointer (some ⟨T, 0, none⟩), .bool false, .int .i64 n] w fun e w' => ∃ v', e = .returned v' ∧ RowT w' w.heap.size v' (t.new.getD n []) ∧ Below w.heap.size w w' := by
  obtain ⟨c0, c1, c2, c3, cf⟩ := h.cells
  have hd0 : decide ((n : Int) < 0) = false := by simp
  by_cases hin : n < t.new.length
  · obtain ⟨g, cap, u, cur, heq, hg0, hg1, hcur, hcell, hch⟩ := h.new.cell hin
    subst heq
    obtain ⟨Au, cpu, hue⟩ := hch.len
    subst hue
    have hcl : (t.new.getD n []).length ≤ 1000000 := hl _ (by rw [List.getD_eq_getElem?_getD, List.getElem?_eq_getElem hin]; exact List.getElem_mem _)
    have hd1 : decide ((t.new.length : Int) ≤ (n : Int)) = false := by simp; omega
    have hd2 : decide (t.new.length ≤ n) = false := by simp; omega
    have hH := Lib.hid h
    have hchH := Lib.hid hch
    have hcellH := Lib.hid hcell
    have hg1H := Lib.hid hg1
    clear h hch hl c0 c3 cf hcell hcur
    generalize t.new.getD n [] = c at *
    generalize t.new.length = ol at *
    go_enter Tryd.func37, Tryd.ntmps37
    go_wp2_with fail
    go_loopw [7, 9] (fun s7 s9 wr => ∃ (i : Nat) (v7 : Value), i ≤ c.length ∧ s9 = .int .i64 i ∧ v7 = s7 ∧ Hid (RowT wr w.heap.size v7 (c.take i)) ∧ Hid (Below w.heap.size w wr)) (fun _ s9 _ => c.length - (intOf s9).toNat)
    case atStart => exact ⟨0, _, by omega, rfl, rfl, Lib.hid (rowT_nil _ _), Lib.hid (Below.refl _ _)⟩
    case round =>
      obtain ⟨i, v7, hi, rfl, rfl, how, hb⟩ := hrel
      have hcl1 : wr.cell? ⟨g, n, none⟩ = some (.slice Au c.length cpu) := (hb.out.cell (p := ⟨g, n, none⟩) hg1H.out).trans hcellH.out
      by_cases hil : i < c.length
      · obtain ⟨e, he⟩ : ∃ e, c[i]? = some e := ⟨_, List.getElem?_eq_getElem hil⟩
        obtain ⟨g1, cp1, cur1, v1, heq, _, hg1', hcur1, d0, d1⟩ := (hchH.out.same (rsame_below hb.out)).cell he
        rw [Nat.mul_comm] at d0
        cases heq
        have htk := Lib.hid (show c.take (i + 1) = c.take i ++ [e] by rw [List.take_add_one, he]; rfl)
        have hbs := hb.out.size
        clear he hcur1 d1
        go_wp2_with (at_builtin; refine wpList_append_rowT rfl (.tmp 37) (.tmp 46) rfl w.heap.size wr.heap.size v7 _ _ _ rfl rfl (how.out.stay ((Below.refl _ _).alloc (Nat.le_refl _) _)) (rowT_one wr e) (by simp; omega) (by simp; omega) ?happ)
        case happ =>
          intro v2 w2 how2 ho2 hv2
          have hb2 : Below w.heap.size w (wr.alloc (.cells #[.string e] 9)) := hb.out.alloc hb.out.size _
          have hb3 := Lib.hid (hb2.trans (ho2.below hb2.size (fun k hk => (how.out.lt k (by simpa using hk)).1)))
          rw [← htk.out] at how2
          have how2H := Lib.hid how2
          clear how2 ho2 hv2 hb2 hcl1
          go_wp2_with fail
          go_roundw
          case rel => exact ⟨i + 1, _, by omega, by go_num, rfl, how2H, hb3⟩
          case measure => simp [intOf]; omega
      · have hie : i = c.length := by omega
        subst hie
        have ho := how.out
        rw [List.take_length] at ho
        have hoH := Lib.hid ho
        clear ho
        go_wp2_with fail
        go_ret
        exact ⟨_, rfl, hoH.out, hb.out⟩
  · have hnil : t.new.getD n [] = [] := by rw [List.getD_eq_getElem?_getD, List.getElem?_eq_none (by omega)]; rfl
    rw [hnil]
    obtain ⟨Av, cpv, hv⟩ := h.new.len
    subst hv
    have hd1 : decide ((t.new.length : Int) ≤ (n : Int)) = true := by simp; omega
    clear h hl cf c0 c3
    go_enter Tryd.func37, Tryd.ntmps37
    go_wp2_with fail
    go_ret
    first
      | exact ⟨_, rfl, rowT_nil _ _, Below.refl _ _⟩
      | exact ⟨rowT_nil _ _, Below.refl _ _⟩

/-- All keys, place by place. -/
theorem chain_ref (h : RAt B T t vo vn w) (hk : KOk t) (b : Bool) (n : Nat) :
    Calls Tryd.prog 37 #[.pointer (some ⟨T, 0, none⟩), .bool b, .int .i64 n] w fun e w' => ∃ v', e = .returned v' ∧ RowT w' w.heap.size v' ((if b then t.old else t.new).getD n []) ∧ Below w.heap.size w w' := by
  have hct := hk.ct
  cases b with
  | true => exact rchain_old h n (fun c hc => by have := mem_flat_len hc; omega)
  | false => exact rchain_new h n (fun c hc => by have := mem_flat_len hc; omega)
theorem take_flat (l : List (List ByteArray)) (i : Nat) (h : i < l.length) : (l.take (i + 1)).flatten = (l.take i).flatten ++ l.getD i [] := by
  rw [List.take_add_one, List.flatten_append, List.getD_eq_getElem?_getD, List.getElem?_eq_getElem h]
  simp

set_option maxHeartbeats 2000000 in
theorem keys_ref (h : RAt B T t vo vn w) (hk : KOk t) :
    Calls Tryd.prog 18 #[.pointer (some ⟨T, 0, none⟩)] w fun e w' => ∃ v', e = .returned v' ∧ RowT w' w.heap.size v' (t.old.flatten ++ t.new.flatten) ∧ Below w.heap.size w w' := by
  have hH := Lib.hid h
  obtain ⟨Ao, cpo, hvo⟩ := h.old.len
  obtain ⟨An, cpn, hvn⟩ := h.new.len
  subst hvo hvn
  have hct := hk.ct
  have hch : Hid (∀ wr, Below w.heap.size w wr → ∀ (b : Bool) (n : Nat), Calls Tryd.prog 37 #[.pointer (some ⟨T, 0, none⟩), .bool b, .int .i64 n] wr fun e w' => ∃ v', e = .returned v' ∧ RowT w' wr.heap.size v' ((if b then t.old else t.new).getD n []) ∧ Below wr.heap.size wr w') := Lib.hid fun wr hb b n => chain_ref (hH.out.after hb) hk b n
  have hlo : t.old.length ≤ 65536 := by obtain ⟨k, _, hk16, hl⟩ := hk.s0; rw [hl]; exact pw_le hk16
  have hln : t.new.length ≤ 65536 := by
    rcases hk.s1 with ⟨_, h1⟩ | ⟨_, _, k, _, hk16, hl⟩
    · rw [h1]; simp
    · rw [hl]; exact pw_le hk16
  have hcol : Hid (∀ i, ((t.old.take i).flatten).length ≤ t.old.flatten.length) := Lib.hid fun i => by
    have h4 : t.old.flatten = (t.old.take i).flatten ++ (t.old.drop i).flatten := by rw [← List.flatten_append, List.take_append_drop]
    have := congrArg List.length h4; rw [List.length_append] at this; omega
  have hcnl : Hid (∀ i, ((t.new.take i).flatten).length ≤ t.new.flatten.length) := Lib.hid fun i => by
    have h4 : t.new.flatten = (t.new.take i).flatten ++ (t.new.drop i).flatten := by rw [← List.flatten_append, List.take_append_drop]
    have := congrArg List.length h4; rw [List.length_append] at this; omega
  have hgol : Hid (∀ i, (t.old.getD i []).length ≤ 1000000) := Lib.hid fun i => by
    rw [List.getD_eq_getElem?_getD]
    cases hc : t.old[i]? with
    | none => simp
    | some c => have := mem_flat_len (List.mem_of_getElem? hc); show c.length ≤ _; omega
  have hgnl : Hid (∀ i, (t.new.getD i []).length ≤ 1000000) := Lib.hid fun i => by
    rw [List.getD_eq_getElem?_getD]
    cases hc : t.new[i]? with
    | none => simp
    | some c => have := mem_flat_len (List.mem_of_getElem? hc); show c.length ≤ _; omega
  have hctH := Lib.hid hct
  clear h hk hct
  go_enter Tryd.func18, Tryd.ntmps18
  go_wp2_with fail
  go_loopw [3, 4] (fun s3 s4 wr => ∃ (i : Nat) (v3 : Value), i ≤ t.old.length ∧ s4 = .int .i64 i ∧ v3 = s3 ∧ Hid (RowT wr w.heap.size v3 (t.old.take i).flatten) ∧ Hid (Below w.heap.size w wr)) (fun _ s4 _ => t.old.length - (intOf s4).toNat)
  case atStart => exact ⟨0, _, by omega, rfl, rfl, Lib.hid (rowT_nil _ _), Lib.hid (Below.refl _ _)⟩
  case round =>
    obtain ⟨i, v3, hi, rfl, rfl, how, hb⟩ := hrel
    obtain ⟨c0, c1, c2, c3, cf⟩ := (hH.out.after hb.out).cells
    by_cases hil : i < t.old.length
    · have hc1 := hch.out wr hb.out true i
      simp only [if_true] at hc1
      have hc1H := Lib.hid hc1
      have htk := Lib.hid (take_flat t.old i hil)
      have hsz := Lib.hid (show ((t.old.take i).flatten).length + (t.old.getD i []).length ≤ 8000000000000 by have := hcol.out i; have := hgol.out i; have := hctH.out; omega)
      clear hc1 c0 c3 cf
      generalize t.old.getD i [] = cI at *
      go_wp2_with (first
        | (go_at_call 37; ((with_reducible refine (hc1H.out).mono ?_); rintro r w1 ⟨v1, rfl, how1, hb1⟩))
        | (at_builtin; refine wpList_append_rowT rfl (.tmp 15) (.tmp 18) rfl w.heap.size wr.heap.size v3 v1 _ _ rfl rfl (how.out.stay hb1) how1 hsz.out (by have := hb.out.size; have := hb1.size; omega) ?happ))
      case happ =>
        intro v2 w2 how2 ho2 hv2
        have hb2 : Below w.heap.size w w1 := onB hb.out hb1 hb.out.size
        have hb3 := Lib.hid (hb2.trans (ho2.below hb2.size (fun k hk => (how.out.lt k (by simpa using hk)).1)))
        rw [← htk.out] at how2
        have how2H := Lib.hid how2
        clear how2 ho2 hv2 hb2 c1 c2 how1 hb1
        go_wp2_with fail
        go_roundw
        case rel => exact ⟨i + 1, _, by omega, by go_num, rfl, how2H, hb3⟩
        case measure => simp [intOf]; omega
    · have hie : i = t.old.length := by omega
      subst hie
      have ho := how.out
      rw [List.take_length] at ho
      have hoH := Lib.hid ho
      have hb0 := hb
      clear ho how c0 c3 cf
      generalize wr = w5 at *
      go_wp2_with fail
      go_loopw [3, 5] (fun s3 s5 wr => ∃ (j : Nat) (v3 : Value), j ≤ t.new.length ∧ s5 = .int .i64 j ∧ v3 = s3 ∧ Hid (RowT wr w.heap.size v3 (t.old.flatten ++ (t.new.take j).flatten)) ∧ Hid (Below w.heap.size w wr)) (fun _ s5 _ => t.new.length - (intOf s5).toNat)
      case atStart => exact ⟨0, _, by omega, rfl, rfl, Lib.hid (by simpa using hoH.out), hb0⟩
      case round =>
        obtain ⟨j, v6, hj, rfl, rfl, how, hb⟩ := hrel
        obtain ⟨c0, c1, c2, c3, cf⟩ := (hH.out.after hb.out).cells
        by_cases hjl : j < t.new.length
        · have hc1 := hch.out wr hb.out false j
          simp only [Bool.false_eq_true, if_false] at hc1
          have hc1H := Lib.hid hc1
          have htk := Lib.hid (take_flat t.new j hjl)
          have hsz := Lib.hid (show (t.old.flatten ++ (t.new.take j).flatten).length + (t.new.getD j []).length ≤ 8000000000000 by rw [List.length_append]; have := hcnl.out j; have := hgnl.out j; have := hctH.out; omega)
          clear hc1 c0 c3 cf
          generalize t.new.getD j [] = cI at *
          go_wp2_with (first
            | (go_at_call 37; ((with_reducible refine (hc1H.out).mono ?_); rintro r w1 ⟨v1, rfl, how1, hb1⟩))
            | (at_builtin; refine wpList_append_rowT rfl (.tmp 29) (.tmp 32) rfl w.heap.size wr.heap.size v6 v1 _ _ rfl rfl (how.out.stay hb1) how1 hsz.out (by have := hb.out.size; have := hb1.size; omega) ?happ))
          case happ =>
            intro v2 w2 how2 ho2 hv2
            have hb2 : Below w.heap.size w w1 := onB hb.out hb1 hb.out.size
            have hb3 := Lib.hid (hb2.trans (ho2.below hb2.size (fun k hk => (how.out.lt k (by simpa using hk)).1)))
            first | rw [List.append_assoc, ← htk.out] at how2 | rw [← htk.out] at how2
            have how2H := Lib.hid how2
            clear how2 ho2 hv2 hb2 c1 c2 how1 hb1
            go_wp2_with fail
            go_roundw
            case rel => exact ⟨j + 1, _, by omega, by go_num, rfl, how2H, hb3⟩
            case measure => simp [intOf]; omega
        · have hje : j = t.new.length := by omega
          subst hje
          have ho := how.out
          rw [List.take_length] at ho
          have hoH2 := Lib.hid ho
          clear ho how c0 c3 cf
          go_wp2_with fail
          go_ret
          exact ⟨_, rfl, hoH2.out, hb.out⟩

theorem len_ref (h : RAt B T t vo vn w) (hk : KOk t) :
    Calls Tryd.prog 53 #[.pointer (some ⟨T, 0, none⟩)] w fun e w' => e = .returned (.int .i64 (cntK t : Nat)) ∧ Below w.heap.size w w' := by
  have hks := Lib.hid (keys_ref h hk)
  have hl : (t.old.flatten ++ t.new.flatten).length = cntK t := by unfold cntK; rw [List.length_append]
  clear h hk
  generalize t.old.flatten ++ t.new.flatten = K at *
  go_enter Tryd.func53, Tryd.ntmps53
  go_wp2_with (go_at_call 18; ((with_reducible refine (hks.out).mono ?_); rintro r w1 ⟨v1, rfl, how1, hb1⟩; obtain ⟨A1, c1, hv1⟩ := how1.len; rw [hl] at hv1; subst hv1; have hb1H := Lib.hid hb1; clear how1 hb1))
  go_ret
  exact ⟨rfl, hb1H.out⟩
theorem size_ref (h : RAt B T t vo vn w) (k : Nat) (hk : k ≤ 16) (hl : t.old.length = pw k) :
    Calls Tryd.prog 35 #[.pointer (some ⟨T, 0, none⟩)] w fun e w' => e = .returned (.int .i64 (k : Nat)) ∧ w = w' := by
  obtain ⟨c0, c1, c2, c3, cf⟩ := h.cells
  obtain ⟨Ao, cpo, hvo⟩ := h.old.len
  subst hvo
  rw [hl] at c1
  have hlg := Lib.hid (fun w => log7_any k hk w)
  clear h hl c0 c2 c3 cf
  generalize pw k = P at *
  go_enter Tryd.func35, Tryd.ntmps35
  go_wp2_with (go_at_call 58; ((with_reducible refine (hlg.out _).mono ?_); rintro e w' ⟨rfl, rfl⟩))
  go_ret
  exact ⟨rfl, rfl⟩

end Go.Proofs.YtdldgiicblmknaaDoor

