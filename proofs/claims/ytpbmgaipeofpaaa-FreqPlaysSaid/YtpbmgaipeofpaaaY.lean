/-
  The law Least: counts rise in order; of one count they stand in the order of their last touches; the least key is the first one.
-/
import Derived.Test.YtpbmgaipeofpaaaX
namespace Go.Proofs.Ytpbmgaipeofpaaa
open Go.RowKit

/-- A book of the call's own with keys R, and beside it a row v of keys M. -/
def St (w W : World) (D B : Nat) (R : List Sc) (v : Value) (M : List ByteArray) : Prop := (∃ O, Pl w W D O R) ∧ RowT W B v M
theorem St.same {w W W' : World} {D B : Nat} {R : List Sc} {v : Value} {M : List ByteArray} (h : St w W D B R v M) (ho : Only [] W W') : St w W' D B R v M := by
  obtain ⟨⟨O, h1⟩, h2⟩ := h
  exact ⟨⟨O, h1.same ho⟩, h2.same ho⟩
theorem St.most {w W : World} {D B : Nat} {R : List Sc} {v : Value} {M : List ByteArray} (h : St w W D B R v M) : Only [] w W := by
  obtain ⟨⟨O, h1⟩, h2⟩ := h
  exact h1.most
theorem St.count {w W : World} {D B : Nat} {R : List Sc} {v : Value} {M : List ByteArray} (h : St w W D B R v M) (key : ByteArray) (hk : key.size ≤ maxLen) :
    Calls Try.prog 17 #[.pointer (some ⟨D, 0, none⟩), .string key] W fun e w' => e = .returned (.int .i64 (cntF R key)) ∧ St w w' D B R v M := by
  have h' := h
  obtain ⟨⟨O, h1⟩, _⟩ := h
  exact (h1.count key hk).mono fun _ _ ⟨he, ho⟩ => ⟨he, h'.same ho⟩
theorem St.least {w W : World} {D B : Nat} {R : List Sc} {v : Value} {M : List ByteArray} (h : St w W D B R v M) :
    Calls Try.prog 20 #[.pointer (some ⟨D, 0, none⟩)] W fun e w' => e = .returned (.tuple #[.string ((allF R).headD ⟨#[]⟩), .bool (decide (0 < (allF R).length))]) ∧ St w w' D B R v M := by
  have h' := h
  obtain ⟨⟨O, h1⟩, _⟩ := h
  exact (h1.least).mono fun _ _ ⟨he, ho⟩ => ⟨he, h'.same ho⟩
theorem St.len {w W : World} {D B : Nat} {R : List Sc} {v : Value} {M : List ByteArray} (h : St w W D B R v M) :
    Calls Try.prog 16 #[.pointer (some ⟨D, 0, none⟩)] W fun e w' => e = .returned (.int .i64 (R.length : Nat)) ∧ St w w' D B R v M := by
  have h' := h
  obtain ⟨⟨O, h1⟩, _⟩ := h
  exact (h1.len).mono fun _ _ ⟨he, ho⟩ => ⟨he, h'.same ho⟩
theorem run_sizes {l : List OpD} (h : ∀ o ∈ l, o.2.size ≤ maxLen) : ∀ x ∈ runF l, x.1.size ≤ maxLen := by
  revert h
  refine opd_ind (p := fun l => (∀ o ∈ l, o.2.size ≤ maxLen) → ∀ x ∈ runF l, x.1.size ≤ maxLen) (by simp [runF]) (fun l o ih h => ?_) l
  have h1 := ih (fun o ho => h o (List.mem_append_left _ ho))
  have h2 := h o (by simp)
  intro x hx
  rw [runF_snoc] at hx
  unfold stepF at hx
  split at hx
  · rcases List.mem_append.1 hx with hx | hx
    · exact h1 x (mem_goF.1 hx).1
    · rw [List.mem_singleton.1 hx]; exact h2
  · split at hx
    · exact h1 x (mem_goF.1 hx).1
    · obtain ⟨y, hy, rfl⟩ := List.mem_map.1 hx
      rw [halfO_key]
      exact h1 y hy
set_option maxRecDepth 100000 in
set_option maxHeartbeats 64000000 in
theorem least_any (w : World) (A : Option Addr) (c : Nat) (l : List OpD) (hO : OpsAt w w.heap.size A l) (hsz : ∀ o ∈ l, o.2.size ≤ maxLen) (hl : l.length ≤ 140737488355328) :
    Calls Try.prog 4 #[.slice A l.length c] w fun e w' => e = .returned (.bool true) ∧ Below w.heap.size w w' := by
  have hfar := Lib.hid (far_any (c := c) hO hl hsz)
  cases hf1 : farF l with
  | true =>
    have hal : Hid (∀ W, Only [] w W → Calls Try.prog 8 #[] W fun e w' => e = .returned (.bool true) ∧ Only [] w w') := Lib.hid (fun W h => (alive_any W).mono fun _ _ ⟨he, ho⟩ => ⟨he, only_nil h ho⟩)
    rw [hf1] at hfar
    clear hO hsz hl hf1
    generalize l.length = n at *
    go_enter Try.func4, Try.ntmps4
    go_wp2_with (first
      | (go_at_call 7; ((with_reducible refine (hfar.out).mono ?_); rintro e w2 ⟨rfl, h2⟩; have h2H := Lib.hid h2; clear h2))
      | (go_at_call 8; ((with_reducible refine (hal.out _ h2H.out).mono ?_); rintro e w3 ⟨rfl, h3⟩; have h3H := Lib.hid h3; clear h3)))
    all_goals go_ret
    exact ⟨rfl, h3H.out.below (Nat.le_refl _) (by simp)⟩
  | false =>
    rw [hf1] at hfar
    obtain ⟨hn400, _⟩ := farF_no hf1
    have hkey : Hid (∀ o ∈ l, o.2.size ≤ maxLen) := Lib.hid hsz
    have hOH := Lib.hid hO
    have hLa : Hid (∀ W k, Only [] w W → Calls Try.prog 23 #[.slice A l.length c, .string k] W fun e w' => e = .returned (.int .i64 (lastT l k)) ∧ Only [] W w') := Lib.hid (fun W k h => last_any (hO.on (h.below (Nat.le_refl _) (by simp))) h.size hn400 k)
    have hord := Lib.hid (runF_order l)
    have hrs := Lib.hid (run_sizes hsz)
    have hrl := Lib.hid (runF_le l)
    obtain ⟨n, hnn⟩ : ∃ n, n = l.length := ⟨_, rfl⟩
    have hnH := Lib.hid hnn
    rw [← hnn] at hfar hLa hn400 hrl ⊢
    have hnew := Lib.hid (fun w2 (h2 : Only [] w w2) => pl_new h2)
    clear hO hsz hl hnn hf1
    go_enter Try.func4, Try.ntmps4
    go_upto_region 5 with (first
      | (go_at_call 7; ((with_reducible refine (hfar.out).mono ?_); rintro e w2 ⟨rfl, h2⟩; have hnw := Lib.hid (hnew.out w2 h2); clear h2))
      | (go_at_call 9; ((with_reducible refine (hnw.out).mono ?_); rintro e w3 ⟨D, O3, rfl, h3, _⟩; have h3H := Lib.hid h3; clear h3)))
    clear hnw hnew hfar
    go_loopw [17] (fun s17 wr => ∃ j : Nat, j ≤ n ∧ s17 = .int .i64 j ∧ Hid (∃ O, Pl w wr D O (runF (l.take j)))) (fun s17 _ => n - (intOf s17).toNat)
    case atStart => exact ⟨0, by omega, rfl, Lib.hid ⟨O3, h3H.out⟩⟩
    case round =>
      obtain ⟨j, hj, rfl, hT⟩ := hrel
      by_cases hjl : j < n
      · obtain ⟨y, hy⟩ : ∃ y, l[j]? = some y := ⟨_, List.getElem?_eq_getElem (by have := hnH.out; omega)⟩
        obtain ⟨a, rfl⟩ := hOH.out.form (by have := hnH.out; omega)
        obtain ⟨O, hT1⟩ := hT.out
        obtain ⟨x0, x1⟩ := hOH.out.get (hT1.most.below (Nat.le_refl _) (by simp)) hy
        have hyk := Lib.hid (hkey.out y (List.mem_of_getElem? hy))
        have hstep : Hid (runF (l.take (j + 1)) = stepF (runF (l.take j)) y) := Lib.hid (by
          rw [List.take_add_one, hy]
          exact runF_snoc _ _)
        have hLl : Hid ((runF (l.take j)).length ≤ 400) := Lib.hid (by have := runF_le (l.take j); rw [List.length_take] at this; omega)
        obtain ⟨kd, ya⟩ := y
        simp only at x0 x1 hyk
        have hjlH := Lib.hid hjl
        have hlt : decide ((j : Int) < (n : Int)) = true := decide_eq_true (by omega)
        have hltn : decide (j < n) = true := decide_eq_true hjl
        have hwk := wrap_small (x := (j : Int) + 1) (by omega)
        have hTm := Lib.hid (hT1.same ((Only.refl [] wr).alloc (.cells #[.int .i64 kd, .string ya] 29)))
        have q0 : (wr.alloc (.cells #[.int .i64 kd, .string ya] 29)).cell? ⟨wr.heap.size, 0, none⟩ = some (.int .i64 kd) := Lib.cell_of_heap (heap_alloc_new wr _) 0
        have q1 : (wr.alloc (.cells #[.int .i64 kd, .string ya] 29)).cell? ⟨wr.heap.size, 1, none⟩ = some (.string ya) := Lib.cell_of_heap (heap_alloc_new wr _) 1
        clear hy hT1 hT
        generalize hL : runF (l.take j) = L at *
        clear hL
        go_upto_block 2 with fail
        generalize wr.alloc (.cells #[.int .i64 kd, .string ya] 29) = wo at *
        generalize wr.heap.size = b0 at *
        clear x0 x1
        by_cases hk0 : kd = 0
        · subst hk0
          have hS1 := Lib.hid (hTm.out.touch (by have := hLl.out; omega) ya hyk.out)
          go_wp2_with (go_at_call 10; ((with_reducible refine (hS1.out).mono ?_); rintro e w3 ⟨rfl, hq3⟩))
          obtain ⟨O4, k1, _⟩ := hq3
          go_roundw
          case rel => exact ⟨j + 1, hjlH.out, by go_num, Lib.hid ⟨O4, by rw [hstep.out]; exact k1⟩⟩
          case measure => have := hjlH.out; simp [intOf]; omega
        · have hz0 : (kd == 0) = false := beq_false_of_ne hk0
          by_cases hk1 : kd = 1
          · subst hk1
            have hS1 := Lib.hid (hTm.out.drop ya hyk.out)
            go_wp2_with (go_at_call 12; ((with_reducible refine (hS1.out).mono ?_); rintro e w3 ⟨rfl, hq3⟩))
            obtain ⟨O4, k1, _⟩ := hq3
            go_roundw
            case rel => exact ⟨j + 1, hjlH.out, by go_num, Lib.hid ⟨O4, by rw [hstep.out]; exact k1⟩⟩
            case measure => have := hjlH.out; simp [intOf]; omega
          · have hz1 : (kd == 1) = false := beq_false_of_ne hk1
            have hS1 := Lib.hid hTm.out.halve
            have hst : Hid (stepF L (kd, ya) = halveF L) := Lib.hid (by unfold stepF; rw [if_neg hk0, if_neg hk1])
            clear hk0 hk1
            go_wp2_with (go_at_call 14; ((with_reducible refine (hS1.out).mono ?_); rintro e w3 ⟨rfl, hq3⟩))
            obtain ⟨O4, k1, _⟩ := hq3
            go_roundw
            case rel => exact ⟨j + 1, hjlH.out, by go_num, Lib.hid ⟨O4, by rw [hstep.out, hst.out]; exact k1⟩⟩
            case measure => have := hjlH.out; simp [intOf]; omega
      · have hjn : j = n := by omega
        subst hjn
        clear hjl
        obtain ⟨O, hT1⟩ := hT.out
        rw [hnH.out, List.take_length] at hT1
        obtain ⟨R, hR⟩ : ∃ R, R = runF l := ⟨_, rfl⟩
        rw [← hR] at hT1 hord hrs hrl
        obtain ⟨hU, hCn, hPw⟩ := hord.out
        have hris := uptoF_rises (lt := fun a b => lastT l a < lastT l b) hU hPw 255
        rw [uptoF_all] at hris
        obtain ⟨M, hM⟩ : ∃ M, M = allF R := ⟨_, rfl⟩
        have hMl : Hid (M.length = R.length) := Lib.hid (by rw [hM]; exact allF_len hCn)
        have hF1 : Hid (∀ (i : Nat) (k : ByteArray), M[i]? = some k → (1 ≤ cntF R k ∧ cntF R k ≤ 255) ∧ k.size ≤ maxLen) := Lib.hid (fun i k hk => by
          obtain ⟨c', hc'⟩ := mem_allF (hM ▸ List.mem_of_getElem? hk)
          have e := cntF_mem hU hc'
          simp only at e
          rw [e]
          exact ⟨hCn _ hc', hrs.out _ hc'⟩)
        have hF2 : Hid (∀ (i : Nat) (x y : ByteArray), M[i]? = some x → M[i + 1]? = some y → cntF R x < cntF R y ∨ (cntF R x = cntF R y ∧ lastT l x < lastT l y)) := Lib.hid (fun i x y hx hy => by
          rw [hM] at hx hy
          obtain ⟨a1, a2⟩ := List.getElem?_eq_some_iff.1 hx
          obtain ⟨b1, b2⟩ := List.getElem?_eq_some_iff.1 hy
          have := (List.pairwise_iff_getElem.1 hris) i (i + 1) a1 b1 (by omega)
          rw [a2, b2] at this
          exact this)
        have hAl := Lib.hid hT1.all
        have hT1H := Lib.hid hT1
        have hLe := Lib.hid (fun W B v (h : St w W D B R v M) => h.least)
        have hLn := Lib.hid (fun W B v (h : St w W D B R v M) => h.len)
        rw [← hM] at hAl hLe
        rw [← hMl.out] at hLn
        have hRl : Hid (M.length ≤ 400) := Lib.hid (by rw [hMl.out]; have := hrl.out; omega)
        obtain ⟨m, hm⟩ : ∃ m, m = M.length := ⟨_, rfl⟩
        have hmH := Lib.hid hm
        rw [← hm] at hRl hLn
        clear hris hU hCn hPw hM hR hT1 hT hm hord hrs hkey hOH hj
        have hm400 := hRl.out
        go_upto_region 16 with (go_at_call 22; ((with_reducible refine (hAl.out).mono ?_); rintro e w4 ⟨v4, rfl, hr4, ho4⟩; obtain ⟨A4, c4, hv4⟩ := hr4.len; rw [← hmH.out] at hv4; subst hv4; have hS4 : Hid (St w w4 D wr.heap.size R (.slice A4 m c4) M) := Lib.hid ⟨⟨O, hT1H.out.same ho4⟩, hr4⟩; clear hr4 ho4))
        clear hAl hT1H
        generalize wr.heap.size = Bv at *
        go_loopw [42] (fun s42 w5 => ∃ i : Nat, i ≤ m ∧ s42 = .int .i64 i ∧ Hid (St w w5 D Bv R (.slice A4 m c4) M)) (fun s42 _ => m - (intOf s42).toNat)
        case atStart => exact ⟨0, by omega, rfl, hS4⟩
        case round =>
          obtain ⟨i, hi, rfl, hS0⟩ := hrel
          by_cases him : i < m
          · obtain ⟨k, hk⟩ : ∃ k, M[i]? = some k := ⟨_, List.getElem?_eq_getElem (by have := hmH.out; omega)⟩
            obtain ⟨g, c', he, _, _, z0⟩ := hS0.out.2.cell hk
            have e1 : A4 = some ⟨g, 0, none⟩ := by injection he
            subst e1
            clear he
            obtain ⟨⟨f1, f2⟩, f3⟩ := hF1.out i k hk
            have hix := run_ixT g i m c4 him
            have himH := Lib.hid him
            have hCk := Lib.hid (fun W (h : St w W D Bv R (.slice (some ⟨g, 0, none⟩) m c4) M) => h.count k f3)
            have hLk := Lib.hid (fun W (h : St w W D Bv R (.slice (some ⟨g, 0, none⟩) m c4) M) => hLa.out W k h.most)
            obtain ⟨t, ht⟩ : ∃ t, t = cntF R k := ⟨_, rfl⟩
            obtain ⟨lk, hlk⟩ : ∃ lk, lk = lastT l k := ⟨_, rfl⟩
            have htH := Lib.hid ht
            have hlkH := Lib.hid hlk
            rw [← ht] at hCk f1 f2
            rw [← hlk] at hLk
            have hd1 : decide (t < 1) = false := decide_eq_false (by omega)
            have hd2 : decide (255 < t) = false := decide_eq_false (by omega)
            have hlt : decide ((i : Int) < (m : Int)) = true := decide_eq_true (by omega)
            have hltn : decide (i < m) = true := decide_eq_true him
            have hwk := wrap_small (x := (i : Int) + 1) (by omega)
            have hkH := Lib.hid hk
            clear f1 f2 f3 ht hlk hk
            by_cases hi0 : i = 0
            · subst hi0
              have hd3 : decide ((0 : Int) < ((0 : Nat) : Int)) = false := by decide
              clear him
              go_wp2_with (first
                | (go_at_call 17; ((with_reducible refine (hCk.out _ hS0.out).mono ?_); rintro e w6 ⟨rfl, h6⟩; have hS6 := Lib.hid h6; clear h6))
                | (go_at_call 17; ((with_reducible refine (hCk.out _ hS6.out).mono ?_); rintro e w7 ⟨rfl, h7⟩; have hS7 := Lib.hid h7; clear h7)))
              go_roundw
              case rel => exact ⟨1, by have := himH.out; omega, by go_num, hS7⟩
              case measure => have := himH.out; simp [intOf]; omega
            · obtain ⟨y, hy⟩ : ∃ y, M[i - 1]? = some y := ⟨_, List.getElem?_eq_getElem (by have := hmH.out; omega)⟩
              obtain ⟨_, f3⟩ := hF1.out (i - 1) y hy
              have hway := hF2.out (i - 1) y k hy (by rw [show i - 1 + 1 = i by omega]; exact hkH.out)
              rw [← htH.out, ← hlkH.out] at hway
              have hCy := Lib.hid (fun W (h : St w W D Bv R (.slice (some ⟨g, 0, none⟩) m c4) M) => h.count y f3)
              have hLy := Lib.hid (fun W (h : St w W D Bv R (.slice (some ⟨g, 0, none⟩) m c4) M) => hLa.out W y h.most)
              obtain ⟨ty, hty⟩ : ∃ ty, ty = cntF R y := ⟨_, rfl⟩
              obtain ⟨ly, hly⟩ : ∃ ly, ly = lastT l y := ⟨_, rfl⟩
              rw [← hty] at hCy hway
              rw [← hly] at hLy hway
              have hzy : Hid (∀ W, St w W D Bv R (.slice (some ⟨g, 0, none⟩) m c4) M → W.cell? ⟨g, i - 1, none⟩ = some (.string y)) := Lib.hid (fun W h => by
                obtain ⟨g', c'', he, _, _, zy⟩ := h.2.cell hy
                injection he with e1 _ _
                injection e1 with e1
                injection e1 with e1
                subst e1
                exact zy)
              have hwi := wrap_small (x := (i : Int) - 1) (by omega)
              have hixy : ∀ w, Sem.run Try.prog (Instr.indexAt 39 (.slice (some ⟨g, 0, none⟩) m c4) (.int .i64 ((i : Int) - 1))) w = .ok (.pointer (some ⟨g, i - 1, none⟩)) w := fun w => by
                have := run_ixT g (i - 1) m c4 (by omega) w
                rwa [show (((i - 1 : Nat)) : Int) = (i : Int) - 1 by omega] at this
              have hd3 : decide ((0 : Int) < (i : Int)) = true := decide_eq_true (by omega)
              have hd4 : decide (0 < i) = true := decide_eq_true (by omega)
              generalize i - 1 = i1 at *
              clear hy hty hly him hi0
              have hd5 : decide (t < ty) = false := decide_eq_false (by omega)
              rcases hway with h1 | ⟨h1, h2⟩
              · have hd6 : (ty == t) = false := beq_false_of_ne (by omega)
                clear h1
                go_wp2_with (first
                  | (go_at_call 17; ((with_reducible refine (hCk.out _ hS0.out).mono ?_); rintro e w6 ⟨rfl, h6⟩; have hS6 := Lib.hid h6; clear h6))
                  | (go_at_call 17; ((with_reducible refine (hCk.out _ hS6.out).mono ?_); rintro e w7 ⟨rfl, h7⟩; have hS7 := Lib.hid h7; have z7 := hzy.out _ h7; clear h7))
                  | (go_at_call 17; ((with_reducible refine (hCy.out _ hS7.out).mono ?_); rintro e w8 ⟨rfl, h8⟩; have hS8 := Lib.hid h8; clear h8))
                  | (go_at_call 17; ((with_reducible refine (hCk.out _ hS8.out).mono ?_); rintro e w9 ⟨rfl, h9⟩; have hS9 := Lib.hid h9; have z9 := hzy.out _ h9; clear h9))
                  | (go_at_call 17; ((with_reducible refine (hCy.out _ hS9.out).mono ?_); rintro e w10 ⟨rfl, h10⟩; have hS10 := Lib.hid h10; clear h10))
                  | (go_at_call 17; ((with_reducible refine (hCk.out _ hS10.out).mono ?_); rintro e w11 ⟨rfl, h11⟩; have hS11 := Lib.hid h11; clear h11)))
                go_roundw
                case rel => exact ⟨i + 1, by have := himH.out; omega, by go_num, hS11⟩
                case measure => have := himH.out; simp [intOf]; omega
              · subst h1
                have hd6 : (ty == ty) = true := by simp
                have hd7 : decide (lk ≤ ly) = false := decide_eq_false (by omega)
                clear h2
                go_wp2_with (first
                  | (go_at_call 17; ((with_reducible refine (hCk.out _ hS0.out).mono ?_); rintro e w6 ⟨rfl, h6⟩; have hS6 := Lib.hid h6; clear h6))
                  | (go_at_call 17; ((with_reducible refine (hCk.out _ hS6.out).mono ?_); rintro e w7 ⟨rfl, h7⟩; have hS7 := Lib.hid h7; have z7 := hzy.out _ h7; clear h7))
                  | (go_at_call 17; ((with_reducible refine (hCy.out _ hS7.out).mono ?_); rintro e w8 ⟨rfl, h8⟩; have hS8 := Lib.hid h8; clear h8))
                  | (go_at_call 17; ((with_reducible refine (hCk.out _ hS8.out).mono ?_); rintro e w9 ⟨rfl, h9⟩; have hS9 := Lib.hid h9; have z9 := hzy.out _ h9; clear h9))
                  | (go_at_call 17; ((with_reducible refine (hCy.out _ hS9.out).mono ?_); rintro e w10 ⟨rfl, h10⟩; have hS10 := Lib.hid h10; clear h10))
                  | (go_at_call 17; ((with_reducible refine (hCk.out _ hS10.out).mono ?_); rintro e w11 ⟨rfl, h11⟩; have hS11 := Lib.hid h11; have z11 := hzy.out _ h11; clear h11))
                  | (go_at_call 23; ((with_reducible refine (hLy.out _ hS11.out).mono ?_); rintro e w12 ⟨rfl, ho12⟩; have hS12 := Lib.hid (hS11.out.same ho12); clear ho12))
                  | (go_at_call 23; ((with_reducible refine (hLk.out _ hS12.out).mono ?_); rintro e w13 ⟨rfl, ho13⟩; have hS13 := Lib.hid (hS12.out.same ho13); clear ho13)))
                go_roundw
                case rel => exact ⟨i + 1, by have := himH.out; omega, by go_num, hS13⟩
                case measure => have := himH.out; simp [intOf]; omega
          · have him' : i = m := by omega
            subst him'
            have hmm : ((i : Int) == (i : Int)) = true := by simp
            clear him hi hF1 hF2 hLa
            cases hMc : M with
            | nil =>
              have hn0 : i = 0 := by rw [hmH.out, hMc]; rfl
              have hOx : Hid (∀ W B v, St w W D B R v M → Calls Try.prog 20 #[.pointer (some ⟨D, 0, none⟩)] W fun e w' => e = .returned (.tuple #[.string ⟨#[]⟩, .bool false]) ∧ St w w' D B R v M) := Lib.hid (fun W B v h => by
                have := hLe.out W B v h
                rw [show decide (0 < M.length) = false from decide_eq_false (by rw [hMc]; simp), show M.headD ⟨#[]⟩ = ⟨#[]⟩ by rw [hMc]; rfl] at this
                exact this)
              subst hn0
              clear hMc hLe
              go_wp2_with (first
                | (go_at_call 20; ((with_reducible refine (hOx.out _ _ _ hS0.out).mono ?_); rintro e w6 ⟨rfl, h6⟩; have hS6 := Lib.hid h6; clear h6))
                | (go_at_call 16; ((with_reducible refine (hLn.out _ _ _ hS6.out).mono ?_); rintro e w7 ⟨rfl, h7⟩; have hS7 := Lib.hid h7; clear h7))
                | (go_at_call 8; ((with_reducible refine (alive_any _).mono ?_); rintro e w8 ⟨rfl, ho8⟩; have hO8H := Lib.hid (only_nil hS7.out.most ho8); clear ho8)))
              all_goals go_ret
              exact ⟨rfl, hO8H.out.below (Nat.le_refl _) (by simp)⟩
            | cons x0 M0 =>
              have hm0 : 0 < i := by rw [hmH.out, hMc]; simp
              have hz : Hid (M[0]? = some x0) := Lib.hid (by rw [hMc]; rfl)
              have hOx : Hid (∀ W B v, St w W D B R v M → Calls Try.prog 20 #[.pointer (some ⟨D, 0, none⟩)] W fun e w' => e = .returned (.tuple #[.string x0, .bool true]) ∧ St w w' D B R v M) := Lib.hid (fun W B v h => by
                have := hLe.out W B v h
                rw [show decide (0 < M.length) = true from decide_eq_true (by rw [hMc]; simp), show M.headD ⟨#[]⟩ = x0 by rw [hMc]; rfl] at this
                exact this)
              have hd0 : decide ((0 : Int) < (i : Int)) = true := decide_eq_true (by omega)
              have hd1 : decide (0 < i) = true := decide_eq_true hm0
              have hbq : (x0.toList == x0.toList) = true := by simp
              obtain ⟨g, c', he, _, _, _⟩ := hS0.out.2.cell hz.out
              have e1 : A4 = some ⟨g, 0, none⟩ := by injection he
              subst e1
              clear he
              have hixx : ∀ w, Sem.run Try.prog (Instr.indexAt 39 (.slice (some ⟨g, 0, none⟩) i c4) (.int .i64 0)) w = .ok (.pointer (some ⟨g, 0, none⟩)) w := fun w => run_ixT g 0 i c4 hm0 w
              clear hMc hLe hm0
              go_wp2_with (first
                | (go_at_call 20; ((with_reducible refine (hOx.out _ _ _ hS0.out).mono ?_); rintro e w6 ⟨rfl, h6⟩; have hS6 := Lib.hid h6; clear h6))
                | (go_at_call 16; ((with_reducible refine (hLn.out _ _ _ hS6.out).mono ?_); rintro e w7 ⟨rfl, h7⟩; have z0 := h7.2.first hz.out; have hS7 := Lib.hid h7; clear h7))
                | (go_at_call 8; ((with_reducible refine (alive_any _).mono ?_); rintro e w8 ⟨rfl, ho8⟩; have hO8H := Lib.hid (only_nil hS7.out.most ho8); clear ho8)))
              all_goals go_ret
              exact ⟨rfl, hO8H.out.below (Nat.le_refl _) (by simp)⟩
end Go.Proofs.Ytpbmgaipeofpaaa
