/-
  The law Last: keys stand in the order of when they were touched last.
-/
import Derived.Test.YtcpiaifaebpoaaaW
namespace Go.Proofs.Ytcpiaifaebpoaaa
open Go.RowKit

theorem add_add (p : Addr) (x y : Nat) : (p.add x).add y = p.add (x + y) := by
  unfold Addr.add
  by_cases hx : x = 0
  · subst hx
    rw [if_pos rfl, Nat.zero_add]
  · rw [if_neg hx]
    by_cases hy : y = 0
    · subst hy
      rw [if_pos rfl, Nat.add_zero, if_neg hx]
    · rw [if_neg hy, if_neg (by omega), Nat.add_assoc]
theorem info_op : (Try.prog.info? 29).map (fun i => (i.zero, i.size, i.bytes)) = some (some (.agg #[.bool false, .string ⟨#[]⟩]), 2, 24) := by kernel_rfl
/-- What stands behind a place. -/
theorem cut_ops {w : World} {B : Nat} {a : Addr} {c : Nat} {l : List OpD} (h : OpsAt w B (some a) l) (hc : l.length ≤ c) (k : Nat) (hk : k ≤ l.length) : ∃ A' c', (∀ w, (Instr.slice 22 (.slice (some a) l.length c) (some (.int .i64 (k : Int))) none none).run Try.prog w = .ok (.slice A' (l.length - k) c') w) ∧ OpsAt w B A' (l.drop k) := by
  refine ⟨if c = k then some a else (some a).map (·.add (k * 2)), c - k, fun w => ?_, ?_⟩
  · rw [run_slice_l (P := Try.prog) w 22 (some a) l.length c (by kernel_rfl) .i64 (k : Int) (by omega) (by omega)]
    simp only [Int.toNat_natCast]
    obtain ⟨i, hi, _, hz, _⟩ := info_partsS info_op
    have hel : Try.prog.elem 22 = 29 := by kernel_rfl
    rw [hel]
    simp [sizeOf, typeInfo, hi, hz, Result.andThen, sliced]
  · intro j x hj
    rw [List.getElem?_drop] at hj
    have hlt := (List.getElem?_eq_some_iff.1 hj).1
    obtain ⟨a', ha, h1, h2, h3⟩ := h _ _ hj
    cases ha
    refine ⟨a.add (k * 2), by rw [if_neg (by omega)]; rfl, by rw [add_block]; exact h1, ?_, ?_⟩
    · rw [add_add, ← Nat.add_mul]
      exact h2
    · rw [add_add, ← Nat.add_mul]
      exact h3
theorem take_next {α : Type} {l : List α} {i : Nat} {x : α} (h : l[i]? = some x) : l.take (i + 1) = l.take i ++ [x] := by rw [List.take_add_one, h]; rfl
set_option maxRecDepth 100000 in
set_option maxHeartbeats 64000000 in
theorem last_any (w : World) (A : Option Addr) (c : Nat) (l : List OpD) (hO : OpsAt w w.heap.size A l) (hsz : ∀ o ∈ l, o.2.size ≤ maxLen) (hl : l.length ≤ 140737488355328) (hc : l.length ≤ c) :
    Calls Try.prog 4 #[.slice A l.length c] w fun e w' => e = .returned (.bool true) ∧ Below w.heap.size w w' := by
  have hfar := Lib.hid (far_any (c := c) hO hl hsz)
  cases hf : farF l with
  | true =>
    rw [hf] at hfar
    clear hO hsz hl hf hc
    generalize l.length = n at *
    go_enter Try.func4, Try.ntmps4
    go_wp2_with (first
      | (go_at_call 6; ((with_reducible refine (hfar.out).mono ?_); rintro e w2 ⟨rfl, h2⟩; have h2H := Lib.hid h2; clear h2))
      | (go_at_call 7; ((with_reducible refine (alive_any w2).mono ?_); rintro e w3 ⟨rfl, h3⟩; have h3H := Lib.hid (only_nil h2H.out h3); clear h3)))
    all_goals go_ret
    exact ⟨rfl, h3H.out.below (Nat.le_refl _) (by simp)⟩
  | false =>
    rw [hf] at hfar
    obtain ⟨hn300, hk200⟩ := farF_no hf
    have hkey : Hid (∀ o ∈ l, o.2.size ≤ maxLen) := Lib.hid hsz
    have hOH := Lib.hid hO
    have hcut : Hid (∀ a, A = some a → ∀ k, k ≤ l.length → ∃ A' c', (∀ w, (Instr.slice 22 (.slice (some a) l.length c) (some (.int .i64 (k : Int))) none none).run Try.prog w = .ok (.slice A' (l.length - k) c') w) ∧ OpsAt w w.heap.size A' (l.drop k)) := Lib.hid (fun a ha k hk => by subst ha; exact cut_ops hOH.out hc k hk)
    obtain ⟨n, hnn⟩ : ∃ n, n = l.length := ⟨_, rfl⟩
    have hnH := Lib.hid hnn
    rw [← hnn] at hfar hcut ⊢
    have hnew := Lib.hid (fun w2 (h2 : Only [] w w2) => pl_new h2)
    have hnb : n ≤ 300 := by omega
    clear hO hsz hl hf hn300 hk200 hnn hc
    go_enter Try.func4, Try.ntmps4
    go_upto_region 5 with (first
      | (go_at_call 6; ((with_reducible refine (hfar.out).mono ?_); rintro e w2 ⟨rfl, h2⟩; have hnw := Lib.hid (hnew.out w2 h2); clear h2))
      | (go_at_call 8; ((with_reducible refine (hnw.out).mono ?_); rintro e w3 ⟨D, O3, rfl, h3, _⟩; have h3H := Lib.hid h3; clear h3)))
    clear hnw hnew hfar
    go_loopw [23] (fun s23 wr => ∃ i : Nat, i ≤ n ∧ s23 = .int .i64 i ∧ Hid (∃ O, Pl w wr D O (runD (l.take i)))) (fun s23 _ => n - (intOf s23).toNat)
    case atStart => exact ⟨0, by omega, rfl, Lib.hid ⟨_, h3H.out⟩⟩
    case round =>
      obtain ⟨i, hi, rfl, htw⟩ := hrel
      by_cases hil : i < n
      · obtain ⟨y, hy⟩ : ∃ y, l[i]? = some y := ⟨_, List.getElem?_eq_getElem (by have := hnH.out; omega)⟩
        obtain ⟨a, rfl⟩ := hOH.out.form (by have := hnH.out; omega)
        obtain ⟨x0, x1⟩ := hOH.out.get (htw.out.choose_spec.most.below (Nat.le_refl _) (by simp)) hy
        have hyk := hkey.out y (List.mem_of_getElem? hy)
        have hS := Lib.hid (take_next hy)
        obtain ⟨d, ya⟩ := y
        simp only at x0 x1 hyk
        have hykH := Lib.hid hyk
        have hll : Hid ((runD (l.take i)).length < 1000000) := Lib.hid (by have := runD_le (l.take i); rw [List.length_take] at this; omega)
        have hlt : decide ((i : Int) < (n : Int)) = true := decide_eq_true (by omega)
        have hltn : decide (i < n) = true := decide_eq_true hil
        have hwk := wrap_small (x := (i : Int) + 1) (by omega)
        have hilH := Lib.hid hil
        clear hkey hOH hyk hy hcut
        cases d with
        | true =>
          have hSt : Hid (∀ W, (∃ O, Pl w W D O (runD (l.take i))) → Calls Try.prog 9 #[.pointer (some ⟨D, 0, none⟩), .string ya] W fun e w' => (∃ b, e = .returned (.bool b)) ∧ ∃ O, Pl w w' D O (runD (l.take (i + 1)))) := Lib.hid (fun W ⟨O, h⟩ => by
            rw [hS.out, runD_snoc]
            refine (h.drop ya hykH.out).mono ?_
            rintro e w' ⟨rfl, O', h', _⟩
            exact ⟨⟨_, rfl⟩, O', h'⟩)
          go_wp2_with (go_at_call 9; ((with_reducible refine (hSt.out _ (htw.out.imp fun _ h => h.same ((Only.refl [] wr).alloc _))).mono ?_); rintro e w5 ⟨⟨b5, rfl⟩, h5⟩; have h5H := Lib.hid h5; clear h5))
          go_roundw
          case rel => exact ⟨i + 1, by have := hilH.out; omega, by go_num, h5H⟩
          case measure => have := hilH.out; simp [intOf]; omega
        | false =>
          have hSt : Hid (∀ W, (∃ O, Pl w W D O (runD (l.take i))) → Calls Try.prog 11 #[.pointer (some ⟨D, 0, none⟩), .string ya] W fun e w' => (∃ b, e = .returned (.bool b)) ∧ ∃ O, Pl w w' D O (runD (l.take (i + 1)))) := Lib.hid (fun W ⟨O, h⟩ => by
            rw [hS.out, runD_snoc]
            refine (h.touch hll.out ya hykH.out).mono ?_
            rintro e w' ⟨rfl, O', h', _⟩
            exact ⟨⟨_, rfl⟩, O', h'⟩)
          go_wp2_with (go_at_call 11; ((with_reducible refine (hSt.out _ (htw.out.imp fun _ h => h.same ((Only.refl [] wr).alloc _))).mono ?_); rintro e w5 ⟨⟨b5, rfl⟩, h5⟩; have h5H := Lib.hid h5; clear h5))
          go_roundw
          case rel => exact ⟨i + 1, by have := hilH.out; omega, by go_num, h5H⟩
          case measure => have := hilH.out; simp [intOf]; omega
      · have hin : n = i := by omega
        subst hin
        obtain ⟨O, hP⟩ := htw.out
        rw [List.take_of_length_le (by have := hnH.out; omega)] at hP
        have hLl : (runD l).length ≤ 300 := by
          have := runD_le l
          have := hnH.out
          omega
        obtain ⟨ho1, ho2⟩ := runD_order l
        have hgone := Lib.hid (fun (i : Nat) (o : OpD) (h : l[i]? = some o) => gone_last l h)
        obtain ⟨L, hL⟩ : ∃ L, L = runD l := ⟨_, rfl⟩
        rw [← hL] at hP hLl ho1 ho2 hgone
        obtain ⟨N, hN⟩ : ∃ N, N = L.length := ⟨_, rfl⟩
        have hNH := Lib.hid hN
        have hNb : N ≤ 300 := by omega
        have hpw : Hid (∀ (i j : Nat) (x y : ByteArray), i < j → L[i]? = some x → L[j]? = some y → lastD l x < lastD l y) := Lib.hid (fun i j x y hij hx hy => by
          obtain ⟨hi, rfl⟩ := List.getElem?_eq_some_iff.1 hx
          obtain ⟨hj, rfl⟩ := List.getElem?_eq_some_iff.1 hy
          exact List.pairwise_iff_getElem.1 ho1 i j hi hj hij)
        have hge : Hid (∀ (i : Nat) (x : ByteArray), L[i]? = some x → 0 ≤ lastD l x) := Lib.hid (fun i x hx => (ho2 x).1 (List.mem_of_getElem? hx))
        have hPH := Lib.hid hP
        clear ho1 ho2 hL hN hLl hP htw h3H
        go_upto_region 13 with (go_at_call 16; ((with_reducible refine (hPH.out.all).mono ?_); rintro e w5 ⟨v5, rfl, h5, o5⟩; obtain ⟨A5, c5, e5⟩ := h5.len; rw [← hNH.out] at e5; subst e5; have hst : Hid ((∃ O, Pl w w5 D O L) ∧ ∃ B, RowT w5 B (.slice A5 N c5) L) := Lib.hid ⟨⟨O, hPH.out.same o5⟩, _, h5⟩; clear h5 o5))
        clear hPH
        go_loopw [6, 41] (fun s6 s41 wr => ∃ (q : Nat) (t : Int), q ≤ N ∧ s41 = .int .i64 q ∧ s6 = .int .i64 t ∧ Hid ((q = 0 ∧ t = -1) ∨ ∃ x, 0 < q ∧ L[q - 1]? = some x ∧ t = lastD l x) ∧ Hid ((∃ O, Pl w wr D O L) ∧ ∃ B, RowT wr B (.slice A5 N c5) L)) (fun _ s41 _ => N - (intOf s41).toNat)
        case atStart => exact ⟨0, -1, by omega, rfl, rfl, Lib.hid (Or.inl ⟨rfl, rfl⟩), hst⟩
        case round =>
          obtain ⟨q, t, hq, rfl, rfl, htt, hst2⟩ := hrel
          by_cases hql : q < N
          · obtain ⟨x, hx⟩ : ∃ x, L[q]? = some x := ⟨_, List.getElem?_eq_getElem (by have := hNH.out; omega)⟩
            obtain ⟨B, hrow⟩ := hst2.out.2
            obtain ⟨g, c', he, _, _, d0⟩ := hrow.cell hx
            have hA : A5 = some ⟨g, 0, none⟩ := by injection he
            clear he hrow
            subst hA
            have hix := run_ixT g q N c5 hql
            have hlt2 : t < lastD l x := by
              rcases htt.out with ⟨h1, h2⟩ | ⟨z, h1, h2, h3⟩
              · have := hge.out q x hx
                omega
              · rw [h3]
                exact hpw.out _ _ z x (by omega) h2 hx
            have hxH := Lib.hid hx
            have hqlH := Lib.hid hql
            have hd1 : decide ((q : Int) < (N : Int)) = true := decide_eq_true (by omega)
            have hd2 : decide (q < N) = true := decide_eq_true hql
            have hwq := wrap_small (x := (q : Int) + 1) (by omega)
            obtain ⟨t2, ht2⟩ : ∃ t2, t2 = lastD l x := ⟨_, rfl⟩
            have hno : decide (t2 ≤ t) = false := decide_eq_false (by rw [ht2]; omega)
            have ht2H := Lib.hid ht2
            clear hlt2 ht2 hql hx htt
            go_upto_region 17 with fail
            go_loopw [9, 47] (fun s9 s47 w3 => ∃ i : Nat, i ≤ n ∧ s47 = .int .i64 i ∧ s9 = .int .i64 (lastD (l.take i) x) ∧ Hid (Only [] wr w3)) (fun _ s47 _ => n - (intOf s47).toNat)
            case atStart => exact ⟨0, by omega, rfl, rfl, Lib.hid (Only.refl _ _)⟩
            case round =>
              obtain ⟨i, hi, rfl, rfl, hon⟩ := hrel
              by_cases hil : i < n
              · obtain ⟨y, hy⟩ : ∃ y, l[i]? = some y := ⟨_, List.getElem?_eq_getElem (by have := hnH.out; omega)⟩
                obtain ⟨a, rfl⟩ := hOH.out.form (by have := hnH.out; omega)
                obtain ⟨x0, x1⟩ := hOH.out.get ((only_nil hst2.out.1.choose_spec.most hon.out).below (Nat.le_refl _) (by simp)) hy
                have hS := take_next hy
                obtain ⟨d, ya⟩ := y
                simp only at x0 x1
                have hla := lastD_snoc (l.take i) (d, ya) x
                rw [← hS, List.length_take, Nat.min_eq_left (by have := hnH.out; omega)] at hla
                simp only at hla
                have hlt : decide ((i : Int) < (n : Int)) = true := decide_eq_true (by omega)
                have hltn : decide (i < n) = true := decide_eq_true hil
                have hwk := wrap_small (x := (i : Int) + 1) (by omega)
                have hilH := Lib.hid hil
                obtain ⟨t3, ht3⟩ : ∃ t3, t3 = lastD (l.take i) x := ⟨_, rfl⟩
                rw [← ht3] at hla ⊢
                clear hy hS ht3
                by_cases hyx : ya = x
                · subst hyx
                  rw [if_pos rfl] at hla
                  have hbq : (ya.toList == ya.toList) = true := by simp
                  cases d with
                  | true =>
                    rw [if_pos rfl] at hla
                    have hlaH := Lib.hid hla
                    clear hla
                    go_wp2_with fail
                    go_roundw
                    case rel => exact ⟨i + 1, by have := hilH.out; omega, by go_num, by rw [hlaH.out], Lib.hid (hon.out.alloc _)⟩
                    case measure => have := hilH.out; simp [intOf]; omega
                  | false =>
                    rw [if_neg (by simp)] at hla
                    have hlaH := Lib.hid hla
                    clear hla
                    go_wp2_with fail
                    go_roundw
                    case rel => exact ⟨i + 1, by have := hilH.out; omega, by go_num, by rw [hlaH.out], Lib.hid (hon.out.alloc _)⟩
                    case measure => have := hilH.out; simp [intOf]; omega
                · rw [if_neg hyx] at hla
                  have hne := key_ne hyx
                  have hlaH := Lib.hid hla
                  clear hla hyx
                  go_wp2_with fail
                  go_roundw
                  case rel => exact ⟨i + 1, by have := hilH.out; omega, by go_num, by rw [hlaH.out], Lib.hid (hon.out.alloc _)⟩
                  case measure => have := hilH.out; simp [intOf]; omega
              · have hin : n = i := by omega
                subst hin
                rw [List.take_of_length_le (by have := hnH.out; omega), ← ht2H.out]
                clear hil
                go_wp2_with fail
                go_roundw
                case rel => exact ⟨q + 1, t2, by have := hqlH.out; omega, by go_num, rfl, Lib.hid (Or.inr ⟨x, by omega, by rw [Nat.add_sub_cancel]; exact hxH.out, ht2H.out⟩), Lib.hid ⟨hst2.out.1.imp fun _ h => h.same hon.out, hst2.out.2.imp fun _ h => h.same hon.out⟩⟩
                case measure => have := hqlH.out; simp [intOf]; omega
          · have hqn : N = q := by omega
            subst hqn
            clear hql htt
            have hst3 := Lib.hid hst2.out.1
            clear hst2 hst hpw hge
            go_upto_region 29 with fail
            go_loopw [73] (fun s73 w4 => ∃ i : Nat, i ≤ n ∧ s73 = .int .i64 i ∧ Hid (∃ O, Pl w w4 D O L)) (fun s73 _ => n - (intOf s73).toNat)
            case atStart => exact ⟨0, by omega, rfl, hst3⟩
            case round =>
              obtain ⟨i, hi, rfl, hpl⟩ := hrel
              by_cases hil : i < n
              · obtain ⟨y, hy⟩ : ∃ y, l[i]? = some y := ⟨_, List.getElem?_eq_getElem (by have := hnH.out; omega)⟩
                obtain ⟨a, rfl⟩ := hOH.out.form (by have := hnH.out; omega)
                obtain ⟨x0, x1⟩ := hOH.out.get (hpl.out.choose_spec.most.below (Nat.le_refl _) (by simp)) hy
                have hyk := hkey.out y (List.mem_of_getElem? hy)
                have hgo := hgone.out i y hy
                obtain ⟨A8, c8, hsl, hops8⟩ := hcut.out a rfl (i + 1) (by have := hnH.out; omega)
                obtain ⟨d, ya⟩ := y
                simp only at x0 x1 hyk hgo
                have hykH := Lib.hid hyk
                have hgoH := Lib.hid hgo
                have hops8H := Lib.hid hops8
                have hlt : decide ((i : Int) < (n : Int)) = true := decide_eq_true (by omega)
                have hltn : decide (i < n) = true := decide_eq_true hil
                have hwk := wrap_small (x := (i : Int) + 1) (by omega)
                have hwk2 : ((i + 1 : Nat) : Int) = (i : Int) + 1 := by omega
                rw [hwk2] at hsl
                have hslx : ∀ w, Sem.run Try.prog (Instr.slice 22 (.slice (some a) n c) (some (.int .i64 ((i : Int) + 1))) none none) w = .ok (.slice A8 (n - (i + 1)) c8) w := hsl
                have hilH := Lib.hid hil
                obtain ⟨m8, hm8⟩ : ∃ m8, m8 = n - (i + 1) := ⟨_, rfl⟩
                have hm8H := Lib.hid hm8
                rw [← hm8] at hslx
                obtain ⟨R, hR⟩ : ∃ R, R = l.drop (i + 1) := ⟨_, rfl⟩
                have hRl : Hid (R.length = m8) := Lib.hid (by rw [hR, List.length_drop, hm8]; have := hnH.out; omega)
                have hops9 : Hid (OpsAt w w.heap.size A8 R) := Lib.hid (by rw [hR]; exact hops8H.out)
                have hgo9 : Hid (goneD ya R d = true ↔ ya ∉ L) := Lib.hid (by rw [hR]; exact hgoH.out)
                have hm8b : m8 ≤ 300 := by omega
                clear hyk hy hgo hops8 hops8H hgoH hsl hm8 hwk2 hR
                go_upto_region 33 with fail
                have hoA : Only [] wr (wr.alloc (.cells #[.bool d, .string ya] 29)) := (Only.refl [] wr).alloc _
                have hbk := heap_alloc_new wr (.cells #[.bool d, .string ya] 29)
                have hpl2 : Hid (∃ O, Pl w (wr.alloc (.cells #[.bool d, .string ya] 29)) D O L) := Lib.hid (hpl.out.imp fun _ h => h.same hoA)
                have hbkH := Lib.hid hbk
                clear hbk hoA hpl x0 x1 hslx
                generalize wr.alloc (.cells #[.bool d, .string ya] 29) = W at *
                generalize wr.heap.size = b13 at *
                go_loopw [14, 85] (fun s14 s85 w5 => ∃ j : Nat, j ≤ m8 ∧ s85 = .int .i64 j ∧ s14 = .bool (goneD ya (R.take j) d) ∧ Hid (Only [] W w5)) (fun _ s85 _ => m8 - (intOf s85).toNat)
                case atStart => exact ⟨0, by omega, rfl, rfl, Lib.hid (Only.refl _ _)⟩
                case round =>
                  obtain ⟨j, hj, rfl, rfl, hon⟩ := hrel
                  by_cases hjl : j < m8
                  · obtain ⟨z, hz⟩ : ∃ z, R[j]? = some z := ⟨_, List.getElem?_eq_getElem (by have := hRl.out; omega)⟩
                    obtain ⟨a8, rfl⟩ := hops9.out.form (by have := hRl.out; omega)
                    obtain ⟨x0, x1⟩ := hops9.out.get ((only_nil hpl2.out.choose_spec.most hon.out).below (Nat.le_refl _) (by simp)) hz
                    have z1 := cell_keep hon.out (show W.cell? ⟨b13, 1, none⟩ = some (.string ya) from Lib.cell_of_heap hbkH.out 1)
                    have hS := take_next hz
                    obtain ⟨dz, za⟩ := z
                    simp only at x0 x1
                    have z2 : (wr.alloc (.cells #[.bool dz, .string za] 29)).cell? ⟨b13, 1, none⟩ = some (.string ya) := cell_past z1 _
                    have hla := goneD_snoc ya (R.take j) (dz, za) d
                    rw [← hS] at hla
                    simp only at hla
                    have hlt2 : decide ((j : Int) < (m8 : Int)) = true := decide_eq_true (by omega)
                    have hltn2 : decide (j < m8) = true := decide_eq_true hjl
                    have hwj := wrap_small (x := (j : Int) + 1) (by omega)
                    have hjlH := Lib.hid hjl
                    obtain ⟨t3, ht3⟩ : ∃ t3, t3 = goneD ya (R.take j) d := ⟨_, rfl⟩
                    rw [← ht3] at hla ⊢
                    clear hz hS ht3
                    by_cases hyx : za = ya
                    · subst hyx
                      rw [if_pos rfl] at hla
                      have hbq : (za.toList == za.toList) = true := by simp
                      have hlaH := Lib.hid hla
                      clear hla
                      go_wp2_with fail
                      go_roundw
                      case rel => exact ⟨j + 1, by have := hjlH.out; omega, by go_num, by rw [hlaH.out], Lib.hid (hon.out.alloc _)⟩
                      case measure => have := hjlH.out; simp [intOf]; omega
                    · rw [if_neg hyx] at hla
                      have hne := key_ne hyx
                      have hlaH := Lib.hid hla
                      clear hla hyx
                      go_wp2_with fail
                      go_roundw
                      case rel => exact ⟨j + 1, by have := hjlH.out; omega, by go_num, by rw [hlaH.out], Lib.hid (hon.out.alloc _)⟩
                      case measure => have := hjlH.out; simp [intOf]; omega
                  · have hjm : m8 = j := by omega
                    rw [List.take_of_length_le (by have := hRl.out; omega)]
                    have z1 := cell_keep hon.out (show W.cell? ⟨b13, 1, none⟩ = some (.string ya) from Lib.cell_of_heap hbkH.out 1)
                    have hpl5 := hpl2.out.imp fun _ h => h.same hon.out
                    obtain ⟨O5, hp5⟩ := hpl5
                    have hgv := hgo9.out
                    have hHs := hp5.has ya hykH.out
                    have hbv : hasK L ya = !goneD ya R d := by
                      cases hq : goneD ya R d with
                      | true => exact hasK_no.2 (hgv.1 hq)
                      | false =>
                        cases hq2 : hasK L ya with
                        | true => rfl
                        | false => rw [hgv.2 (hasK_no.1 hq2)] at hq; cases hq
                    rw [hbv] at hHs
                    generalize goneD ya R d = gv at *
                    have hHsH := Lib.hid hHs
                    have hp5H := Lib.hid hp5
                    have hnb2 : ((!gv) == gv) = false := by cases gv <;> rfl
                    subst hjm
                    clear hHs hp5 hbv hgv hjl hpl2
                    go_wp2_with (go_at_call 17; ((with_reducible refine (hHsH.out).mono ?_); rintro e w6 ⟨rfl, h6⟩; have h6H := Lib.hid (hp5H.out.same h6); clear h6))
                    go_roundw
                    case rel => exact ⟨i + 1, by have := hilH.out; omega, by go_num, Lib.hid ⟨_, h6H.out⟩⟩
                    case measure => have := hilH.out; simp [intOf]; omega
              · have hin : n = i := by omega
                subst hin
                clear hil
                obtain ⟨O9, hp9⟩ := hpl.out
                have hp9H := Lib.hid hp9.most
                clear hp9
                go_wp2_with (go_at_call 7; ((with_reducible refine (alive_any _).mono ?_); rintro e w9 ⟨rfl, hO9⟩; have hO9H := Lib.hid (only_nil hp9H.out hO9); clear hO9))
                go_ret
                exact ⟨rfl, hO9H.out.below (Nat.le_refl _) (by simp)⟩
end Go.Proofs.Ytcpiaifaebpoaaa
