/-
  The law Plays: each answer, and all keys in order, is the document's.
-/
import Derived.Test.YtcpiaifaebpoaaaW
namespace Go.Proofs.Ytcpiaifaebpoaaa
open Go.RowKit

def longF (l : List OpD) (key : ByteArray) : Bool := farF l || decide (200 < key.size)
set_option maxRecDepth 100000 in
set_option maxHeartbeats 64000000 in
theorem plays_any (w : World) (A : Option Addr) (c : Nat) (l : List OpD) (key : ByteArray) (hO : OpsAt w w.heap.size A l) (hsz : ∀ o ∈ l, o.2.size ≤ maxLen) (hl : l.length ≤ 140737488355328) (hk : key.size ≤ maxLen) :
    Calls Try.prog 3 #[.slice A l.length c, .string key] w fun e w' => e = .returned (.bool true) ∧ Below w.heap.size w w' := by
  have hfar := Lib.hid (far_any (c := c) hO hl hsz)
  cases hf : longF l key with
  | true =>
    have hal : Hid (∀ W, Only [] w W → Calls Try.prog 7 #[] W fun e w' => e = .returned (.bool true) ∧ Only [] w w') := Lib.hid (fun W h => (alive_any W).mono fun _ _ ⟨he, ho⟩ => ⟨he, only_nil h ho⟩)
    cases hf1 : farF l with
    | true =>
      rw [hf1] at hfar
      clear hO hsz hl hf hf1
      generalize l.length = n at *
      go_enter Try.func3, Try.ntmps3
      go_wp2_with (first
        | (go_at_call 6; ((with_reducible refine (hfar.out).mono ?_); rintro e w2 ⟨rfl, h2⟩; have h2H := Lib.hid h2; clear h2))
        | (go_at_call 7; ((with_reducible refine (hal.out _ h2H.out).mono ?_); rintro e w3 ⟨rfl, h3⟩; have h3H := Lib.hid h3; clear h3)))
      all_goals go_ret
      exact ⟨rfl, h3H.out.below (Nat.le_refl _) (by simp)⟩
    | false =>
      rw [hf1] at hfar
      unfold longF at hf
      rw [hf1, Bool.false_or] at hf
      have hk2 := of_decide_eq_true hf
      have hd : decide ((200 : Int) < (key.size : Int)) = true := decide_eq_true (by omega)
      have hd2 : decide (200 < key.size) = true := hf
      clear hO hsz hl hf hf1 hk2 hk
      generalize l.length = n at *
      go_enter Try.func3, Try.ntmps3
      go_wp2_with (first
        | (go_at_call 6; ((with_reducible refine (hfar.out).mono ?_); rintro e w2 ⟨rfl, h2⟩; have h2H := Lib.hid h2; clear h2))
        | (go_at_call 7; ((with_reducible refine (hal.out _ h2H.out).mono ?_); rintro e w3 ⟨rfl, h3⟩; have h3H := Lib.hid h3; clear h3)))
      all_goals go_ret
      exact ⟨rfl, h3H.out.below (Nat.le_refl _) (by simp)⟩
  | false =>
    unfold longF at hf
    rw [Bool.or_eq_false_iff] at hf
    obtain ⟨hf1, hf2⟩ := hf
    rw [hf1] at hfar
    have hk2 := of_decide_eq_false hf2
    have hd : decide ((200 : Int) < (key.size : Int)) = false := decide_eq_false (by omega)
    have hkH := Lib.hid hk
    obtain ⟨hn300, hk200⟩ := farF_no hf1
    have hkey : Hid (∀ o ∈ l, o.2.size ≤ maxLen) := Lib.hid hsz
    have hOH := Lib.hid hO
    obtain ⟨n, hnn⟩ : ∃ n, n = l.length := ⟨_, rfl⟩
    have hnH := Lib.hid hnn
    rw [← hnn] at hfar ⊢
    have hnew := Lib.hid (fun w2 (h2 : Only [] w w2) => pl_new h2)
    have hnb : n ≤ 300 := by omega
    clear hO hsz hl hn300 hk200 hnn hf1 hk2 hk
    go_enter Try.func3, Try.ntmps3
    go_upto_region 6 with (first
      | (go_at_call 6; ((with_reducible refine (hfar.out).mono ?_); rintro e w2 ⟨rfl, h2⟩; have hnw := Lib.hid (hnew.out w2 h2); clear h2))
      | (go_at_call 8; ((with_reducible refine (hnw.out).mono ?_); rintro e w3 ⟨D, O3, rfl, h3, _⟩; have h3H := Lib.hid (Ply.start h3); clear h3)))
    clear hnw hnew hfar hd hf2
    go_loopw [6, 24] (fun s6 s24 wr => ∃ (j : Nat) (L : List ByteArray) (v6 : Value), j ≤ n ∧ s24 = .int .i64 j ∧ v6 = s6 ∧ Hid (Ply w wr D v6 L L []) ∧ Hid (L.length ≤ j)) (fun _ s24 _ => n - (intOf s24).toNat)
    case atStart => exact ⟨0, [], _, by omega, rfl, rfl, h3H, Lib.hid (Nat.le_refl _)⟩
    case round =>
      obtain ⟨j, L, v6, hj, rfl, rfl, hT, hLl⟩ := hrel
      by_cases hjl : j < n
      · obtain ⟨y, hy⟩ : ∃ y, l[j]? = some y := ⟨_, List.getElem?_eq_getElem (by have := hnH.out; omega)⟩
        obtain ⟨a, rfl⟩ := hOH.out.form (by have := hnH.out; omega)
        obtain ⟨x0, x1⟩ := hOH.out.get (hT.out.most.below (Nat.le_refl _) (by simp)) hy
        have hyk := Lib.hid (hkey.out y (List.mem_of_getElem? hy))
        obtain ⟨d, ya⟩ := y
        simp only at x0 x1 hyk
        have hjlH := Lib.hid hjl
        have hlt : decide ((j : Int) < (n : Int)) = true := decide_eq_true (by omega)
        have hltn : decide (j < n) = true := decide_eq_true hjl
        have hwk := wrap_small (x := (j : Int) + 1) (by omega)
        have hL6 : Hid (L.length ≤ 300) := Lib.hid (by have := hLl.out; omega)
        clear hy hkey hOH
        go_upto_region 8 with fail
        have hTm := hT.out.make #[.bool d, .string ya] 29
        have hTo := Lib.hid hTm
        have q0 : (wr.alloc (.cells #[.bool d, .string ya] 29)).cell? ⟨wr.heap.size, 0, none⟩ = some (.bool d) := hTm.cell (List.mem_cons_self ..) 0
        have q1 : (wr.alloc (.cells #[.bool d, .string ya] 29)).cell? ⟨wr.heap.size, 1, none⟩ = some (.string ya) := hTm.cell (List.mem_cons_self ..) 1
        clear hTm x0 x1 hT
        generalize wr.alloc (.cells #[.bool d, .string ya] 29) = wo at *
        generalize wr.heap.size = b0 at *
        have hl6 : Hid (L.length ≤ 1000000) := Lib.hid (by have := hL6.out; omega)
        obtain ⟨L', hL'⟩ : ∃ L', L' = stepD L (d, ya) := ⟨_, rfl⟩
        have hLl' : Hid (L'.length ≤ j + 1) := Lib.hid (by have := stepD_le L (d, ya); have := hLl.out; rw [hL']; omega)
        have hl7 : Hid (L'.length ≤ 1000000) := Lib.hid (by have := hLl'.out; omega)
        cases d with
        | true =>
          have hS1 := hTo.out.drop ya hyk.out
          rw [show goK L ya = L' from hL'.symm] at hS1
          have hS2 := Lib.hid (fun w3 (hT3 : Hid (Ply w w3 D v6 L' L [(b0, .cells #[.bool true, .string ya] 29)])) => hT3.out.rgo hl6.out ya)
          rw [show goK L ya = L' from hL'.symm] at hS2
          obtain ⟨hb, hbe⟩ : ∃ hb, hb = hasK L ya := ⟨_, rfl⟩
          rw [← hbe] at hS1 hS2
          have hS1H := Lib.hid hS1
          clear hS1 hbe hL'
          obtain ⟨hq, hqe⟩ : ∃ hq, hq = hasK L' key := ⟨_, rfl⟩
          have hqH := Lib.hid hqe
          obtain ⟨m, hm⟩ : ∃ m, m = L'.length := ⟨_, rfl⟩
          have hmH := Lib.hid hm
          clear hqe hm
          have hLe : Hid (∀ W r, Ply w W D r L' L' [(b0, .cells #[.bool true, .string ya] 29)] → Calls Try.prog 14 #[.pointer (some ⟨D, 0, none⟩)] W fun e w' => e = .returned (.int .i64 (m : Nat)) ∧ Ply w w' D r L' L' [(b0, .cells #[.bool true, .string ya] 29)]) := Lib.hid (fun W r h => by rw [hmH.out]; exact h.len)
          have hAl := Lib.hid (fun W r (h : Ply w W D r L' L' [(b0, .cells #[.bool true, .string ya] 29)]) => h.all)
          have hSa := Lib.hid (fun W r v (h : Ply w W D r L' L' [(b0, .cells #[.bool true, .string ya] 29)]) (hv : ∃ B, RowT W B v L') => h.rsame hv hl7.out)
          have hHa := Lib.hid (fun W r (h : Ply w W D r L' L' [(b0, .cells #[.bool true, .string ya] 29)]) => h.has key hkH.out)
          have hRh := Lib.hid (fun W r (h : Ply w W D r L' L' [(b0, .cells #[.bool true, .string ya] 29)]) => h.rhas hl7.out key)
          rw [← hqH.out] at hHa hRh
          have hOl := Lib.hid (fun W r (h : Ply w W D r L' L' [(b0, .cells #[.bool true, .string ya] 29)]) => h.oldest)
          cases hLc : L' with
          | nil =>
            have hm0 : ¬ 0 < m := by rw [hmH.out, hLc]; simp
            have hOx : Hid (∀ W r, Ply w W D r L' L' [(b0, .cells #[.bool true, .string ya] 29)] → Calls Try.prog 13 #[.pointer (some ⟨D, 0, none⟩)] W fun e w' => e = .returned (.tuple #[.string ⟨#[]⟩, .bool false]) ∧ Ply w w' D r L' L' [(b0, .cells #[.bool true, .string ya] 29)]) := Lib.hid (fun W r h => by have := hOl.out W r h; rw [show decide (0 < L'.length) = false from decide_eq_false (by rw [hLc]; simp), show L'.headD ⟨#[]⟩ = ⟨#[]⟩ by rw [hLc]; rfl] at this; exact this)
            have hd0 : decide ((0 : Int) < (m : Int)) = false := decide_eq_false (by omega)
            have hd1 : decide (0 < m) = false := decide_eq_false hm0
            clear hLc hOl
            go_upto_region 14 with (first
              | (go_at_call 9; ((with_reducible refine (hS1H.out).mono ?_); rintro e w3 ⟨rfl, h3⟩; have hT3 := Lib.hid h3; have y0 : w3.cell? ⟨b0, 0, none⟩ = some (.bool true) := h3.cell (List.mem_cons_self ..) 0; have y1 : w3.cell? ⟨b0, 1, none⟩ = some (.string ya) := h3.cell (List.mem_cons_self ..) 1; clear h3))
              | (go_at_call 10; ((with_reducible refine (hS2.out w3 hT3).mono ?_); rintro e w4 ⟨r4, rfl, h4⟩; have hT4 := Lib.hid h4; clear h4)))
            clear y0 y1 q0 q1 hT3 hTo hS1H hS2
            obtain ⟨A4, c4, hv4⟩ := hT4.out.rows.len
            rw [← hmH.out] at hv4
            subst hv4
            go_wp2_with (first
              | (go_at_call 13; ((with_reducible refine (hOx.out _ _ hT4.out).mono ?_); rintro e w5 ⟨rfl, h5⟩; have hT5 := Lib.hid h5; clear h5))
              | (go_at_call 14; ((with_reducible refine (hLe.out _ _ hT5.out).mono ?_); rintro e w6 ⟨rfl, h6⟩; have hT6 := Lib.hid h6; clear h6))
              | (go_at_call 16; ((with_reducible refine (hAl.out _ _ hT6.out).mono ?_); rintro e w7 ⟨v7, rfl, hr7, h7⟩; have hT7 := Lib.hid h7; have hr7H := Lib.hid hr7; clear h7 hr7))
              | (go_at_call 15; ((with_reducible refine (hSa.out _ _ _ hT7.out hr7H.out).mono ?_); rintro e w8 ⟨rfl, h8⟩; have hT8 := Lib.hid h8; clear h8))
              | (go_at_call 17; ((with_reducible refine (hHa.out _ _ hT8.out).mono ?_); rintro e w9 ⟨rfl, h9⟩; have hT9 := Lib.hid h9; clear h9))
              | (go_at_call 18; ((with_reducible refine (hRh.out _ _ hT9.out).mono ?_); rintro e w' ⟨rfl, rfl⟩)))
            go_roundw
            case rel => exact ⟨j + 1, L', _, hjlH.out, by go_num, rfl, Lib.hid (hT9.out.less (K' := []) (by simp)), hLl'⟩
            case measure => have := hjlH.out; simp [intOf]; omega
          | cons x M =>
            have hm0 : 0 < m := by rw [hmH.out, hLc]; simp
            have hz : Hid (L'[0]? = some x) := Lib.hid (by rw [hLc]; rfl)
            have hOx : Hid (∀ W r, Ply w W D r L' L' [(b0, .cells #[.bool true, .string ya] 29)] → Calls Try.prog 13 #[.pointer (some ⟨D, 0, none⟩)] W fun e w' => e = .returned (.tuple #[.string x, .bool true]) ∧ Ply w w' D r L' L' [(b0, .cells #[.bool true, .string ya] 29)]) := Lib.hid (fun W r h => by have := hOl.out W r h; rw [show decide (0 < L'.length) = true from decide_eq_true (by rw [hLc]; simp), show L'.headD ⟨#[]⟩ = x by rw [hLc]; rfl] at this; exact this)
            have hd0 : decide ((0 : Int) < (m : Int)) = true := decide_eq_true (by omega)
            have hd1 : decide (0 < m) = true := decide_eq_true hm0
            have hbq : (x.toList == x.toList) = true := by simp
            clear hLc hOl
            have hix : Hid (0 < m) := Lib.hid hm0
            clear hm0
            go_upto_region 14 with (first
              | (go_at_call 9; ((with_reducible refine (hS1H.out).mono ?_); rintro e w3 ⟨rfl, h3⟩; have hT3 := Lib.hid h3; have y0 : w3.cell? ⟨b0, 0, none⟩ = some (.bool true) := h3.cell (List.mem_cons_self ..) 0; have y1 : w3.cell? ⟨b0, 1, none⟩ = some (.string ya) := h3.cell (List.mem_cons_self ..) 1; clear h3))
              | (go_at_call 10; ((with_reducible refine (hS2.out w3 hT3).mono ?_); rintro e w4 ⟨r4, rfl, h4⟩; have hT4 := Lib.hid h4; clear h4)))
            clear y0 y1 q0 q1 hT3 hTo hS1H hS2
            obtain ⟨A4, c4, hv4⟩ := hT4.out.rows.len
            rw [← hmH.out] at hv4
            subst hv4
            have hgx : Hid (∀ W, Ply w W D (.slice A4 m c4) L' L' [(b0, .cells #[.bool true, .string ya] 29)] → ∃ g, A4 = some ⟨g, 0, none⟩ ∧ W.cell? ⟨g, 0, none⟩ = some (.string x)) := Lib.hid (fun W h => by
              obtain ⟨g, c', he, _, _, hc⟩ := h.rows.cell hz.out
              injection he with e1 e2 e3
              exact ⟨g, e1, hc⟩)
            obtain ⟨g, rfl, _⟩ := hgx.out _ hT4.out
            have hixx : ∀ w, Sem.run Try.prog (Instr.indexAt 27 (.slice (some ⟨g, 0, none⟩) m c4) (.int .i64 0)) w = .ok (.pointer (some ⟨g, 0, none⟩)) w := fun w => run_ixT g 0 m c4 hix.out w
            go_wp2_with (first
              | (go_at_call 13; ((with_reducible refine (hOx.out _ _ hT4.out).mono ?_); rintro e w5 ⟨rfl, h5⟩; have hT5 := Lib.hid h5; clear h5))
              | (go_at_call 14; ((with_reducible refine (hLe.out _ _ hT5.out).mono ?_); rintro e w6 ⟨rfl, h6⟩; have hT6 := Lib.hid h6; clear h6))
              | (go_at_call 16; ((with_reducible refine (hAl.out _ _ hT6.out).mono ?_); rintro e w7 ⟨v7, rfl, hr7, h7⟩; have hT7 := Lib.hid h7; have hr7H := Lib.hid hr7; clear h7 hr7))
              | (go_at_call 15; ((with_reducible refine (hSa.out _ _ _ hT7.out hr7H.out).mono ?_); rintro e w8 ⟨rfl, h8⟩; have hT8 := Lib.hid h8; clear h8))
              | (go_at_call 17; ((with_reducible refine (hHa.out _ _ hT8.out).mono ?_); rintro e w9 ⟨rfl, h9⟩; obtain ⟨g2, hg2, z0⟩ := hgx.out _ h9; cases hg2; have hT9 := Lib.hid h9; clear h9))
              | (go_at_call 18; ((with_reducible refine (hRh.out _ _ hT9.out).mono ?_); rintro e w' ⟨rfl, rfl⟩)))
            go_roundw
            case rel => exact ⟨j + 1, L', _, hjlH.out, by go_num, rfl, Lib.hid (hT9.out.less (K' := []) (by simp)), hLl'⟩
            case measure => have := hjlH.out; simp [intOf]; omega
        | false =>
          have hS1 := hTo.out.touch (by have := hL6.out; omega) ya hyk.out
          rw [show tipK L ya = L' from hL'.symm] at hS1
          have hS2 := Lib.hid (fun w3 (hT3 : Hid (Ply w w3 D v6 L' L [(b0, .cells #[.bool false, .string ya] 29)])) => hT3.out.rtip hl6.out ya)
          rw [show tipK L ya = L' from hL'.symm] at hS2
          obtain ⟨hb, hbe⟩ : ∃ hb, hb = hasK L ya := ⟨_, rfl⟩
          rw [← hbe] at hS1 hS2
          have hS1H := Lib.hid hS1
          clear hS1 hbe hL'
          obtain ⟨hq, hqe⟩ : ∃ hq, hq = hasK L' key := ⟨_, rfl⟩
          have hqH := Lib.hid hqe
          obtain ⟨m, hm⟩ : ∃ m, m = L'.length := ⟨_, rfl⟩
          have hmH := Lib.hid hm
          clear hqe hm
          have hLe : Hid (∀ W r, Ply w W D r L' L' [(b0, .cells #[.bool false, .string ya] 29)] → Calls Try.prog 14 #[.pointer (some ⟨D, 0, none⟩)] W fun e w' => e = .returned (.int .i64 (m : Nat)) ∧ Ply w w' D r L' L' [(b0, .cells #[.bool false, .string ya] 29)]) := Lib.hid (fun W r h => by rw [hmH.out]; exact h.len)
          have hAl := Lib.hid (fun W r (h : Ply w W D r L' L' [(b0, .cells #[.bool false, .string ya] 29)]) => h.all)
          have hSa := Lib.hid (fun W r v (h : Ply w W D r L' L' [(b0, .cells #[.bool false, .string ya] 29)]) (hv : ∃ B, RowT W B v L') => h.rsame hv hl7.out)
          have hHa := Lib.hid (fun W r (h : Ply w W D r L' L' [(b0, .cells #[.bool false, .string ya] 29)]) => h.has key hkH.out)
          have hRh := Lib.hid (fun W r (h : Ply w W D r L' L' [(b0, .cells #[.bool false, .string ya] 29)]) => h.rhas hl7.out key)
          rw [← hqH.out] at hHa hRh
          have hOl := Lib.hid (fun W r (h : Ply w W D r L' L' [(b0, .cells #[.bool false, .string ya] 29)]) => h.oldest)
          cases hLc : L' with
          | nil =>
            have hm0 : ¬ 0 < m := by rw [hmH.out, hLc]; simp
            have hOx : Hid (∀ W r, Ply w W D r L' L' [(b0, .cells #[.bool false, .string ya] 29)] → Calls Try.prog 13 #[.pointer (some ⟨D, 0, none⟩)] W fun e w' => e = .returned (.tuple #[.string ⟨#[]⟩, .bool false]) ∧ Ply w w' D r L' L' [(b0, .cells #[.bool false, .string ya] 29)]) := Lib.hid (fun W r h => by have := hOl.out W r h; rw [show decide (0 < L'.length) = false from decide_eq_false (by rw [hLc]; simp), show L'.headD ⟨#[]⟩ = ⟨#[]⟩ by rw [hLc]; rfl] at this; exact this)
            have hd0 : decide ((0 : Int) < (m : Int)) = false := decide_eq_false (by omega)
            have hd1 : decide (0 < m) = false := decide_eq_false hm0
            clear hLc hOl
            go_upto_region 14 with (first
              | (go_at_call 11; ((with_reducible refine (hS1H.out).mono ?_); rintro e w3 ⟨rfl, h3⟩; have hT3 := Lib.hid h3; have y0 : w3.cell? ⟨b0, 0, none⟩ = some (.bool false) := h3.cell (List.mem_cons_self ..) 0; have y1 : w3.cell? ⟨b0, 1, none⟩ = some (.string ya) := h3.cell (List.mem_cons_self ..) 1; clear h3))
              | (go_at_call 12; ((with_reducible refine (hS2.out w3 hT3).mono ?_); rintro e w4 ⟨r4, rfl, h4⟩; have hT4 := Lib.hid h4; clear h4)))
            clear y0 y1 q0 q1 hT3 hTo hS1H hS2
            obtain ⟨A4, c4, hv4⟩ := hT4.out.rows.len
            rw [← hmH.out] at hv4
            subst hv4
            go_wp2_with (first
              | (go_at_call 13; ((with_reducible refine (hOx.out _ _ hT4.out).mono ?_); rintro e w5 ⟨rfl, h5⟩; have hT5 := Lib.hid h5; clear h5))
              | (go_at_call 14; ((with_reducible refine (hLe.out _ _ hT5.out).mono ?_); rintro e w6 ⟨rfl, h6⟩; have hT6 := Lib.hid h6; clear h6))
              | (go_at_call 16; ((with_reducible refine (hAl.out _ _ hT6.out).mono ?_); rintro e w7 ⟨v7, rfl, hr7, h7⟩; have hT7 := Lib.hid h7; have hr7H := Lib.hid hr7; clear h7 hr7))
              | (go_at_call 15; ((with_reducible refine (hSa.out _ _ _ hT7.out hr7H.out).mono ?_); rintro e w8 ⟨rfl, h8⟩; have hT8 := Lib.hid h8; clear h8))
              | (go_at_call 17; ((with_reducible refine (hHa.out _ _ hT8.out).mono ?_); rintro e w9 ⟨rfl, h9⟩; have hT9 := Lib.hid h9; clear h9))
              | (go_at_call 18; ((with_reducible refine (hRh.out _ _ hT9.out).mono ?_); rintro e w' ⟨rfl, rfl⟩)))
            go_roundw
            case rel => exact ⟨j + 1, L', _, hjlH.out, by go_num, rfl, Lib.hid (hT9.out.less (K' := []) (by simp)), hLl'⟩
            case measure => have := hjlH.out; simp [intOf]; omega
          | cons x M =>
            have hm0 : 0 < m := by rw [hmH.out, hLc]; simp
            have hz : Hid (L'[0]? = some x) := Lib.hid (by rw [hLc]; rfl)
            have hOx : Hid (∀ W r, Ply w W D r L' L' [(b0, .cells #[.bool false, .string ya] 29)] → Calls Try.prog 13 #[.pointer (some ⟨D, 0, none⟩)] W fun e w' => e = .returned (.tuple #[.string x, .bool true]) ∧ Ply w w' D r L' L' [(b0, .cells #[.bool false, .string ya] 29)]) := Lib.hid (fun W r h => by have := hOl.out W r h; rw [show decide (0 < L'.length) = true from decide_eq_true (by rw [hLc]; simp), show L'.headD ⟨#[]⟩ = x by rw [hLc]; rfl] at this; exact this)
            have hd0 : decide ((0 : Int) < (m : Int)) = true := decide_eq_true (by omega)
            have hd1 : decide (0 < m) = true := decide_eq_true hm0
            have hbq : (x.toList == x.toList) = true := by simp
            clear hLc hOl
            have hix : Hid (0 < m) := Lib.hid hm0
            clear hm0
            go_upto_region 14 with (first
              | (go_at_call 11; ((with_reducible refine (hS1H.out).mono ?_); rintro e w3 ⟨rfl, h3⟩; have hT3 := Lib.hid h3; have y0 : w3.cell? ⟨b0, 0, none⟩ = some (.bool false) := h3.cell (List.mem_cons_self ..) 0; have y1 : w3.cell? ⟨b0, 1, none⟩ = some (.string ya) := h3.cell (List.mem_cons_self ..) 1; clear h3))
              | (go_at_call 12; ((with_reducible refine (hS2.out w3 hT3).mono ?_); rintro e w4 ⟨r4, rfl, h4⟩; have hT4 := Lib.hid h4; clear h4)))
            clear y0 y1 q0 q1 hT3 hTo hS1H hS2
            obtain ⟨A4, c4, hv4⟩ := hT4.out.rows.len
            rw [← hmH.out] at hv4
            subst hv4
            have hgx : Hid (∀ W, Ply w W D (.slice A4 m c4) L' L' [(b0, .cells #[.bool false, .string ya] 29)] → ∃ g, A4 = some ⟨g, 0, none⟩ ∧ W.cell? ⟨g, 0, none⟩ = some (.string x)) := Lib.hid (fun W h => by
              obtain ⟨g, c', he, _, _, hc⟩ := h.rows.cell hz.out
              injection he with e1 e2 e3
              exact ⟨g, e1, hc⟩)
            obtain ⟨g, rfl, _⟩ := hgx.out _ hT4.out
            have hixx : ∀ w, Sem.run Try.prog (Instr.indexAt 27 (.slice (some ⟨g, 0, none⟩) m c4) (.int .i64 0)) w = .ok (.pointer (some ⟨g, 0, none⟩)) w := fun w => run_ixT g 0 m c4 hix.out w
            go_wp2_with (first
              | (go_at_call 13; ((with_reducible refine (hOx.out _ _ hT4.out).mono ?_); rintro e w5 ⟨rfl, h5⟩; have hT5 := Lib.hid h5; clear h5))
              | (go_at_call 14; ((with_reducible refine (hLe.out _ _ hT5.out).mono ?_); rintro e w6 ⟨rfl, h6⟩; have hT6 := Lib.hid h6; clear h6))
              | (go_at_call 16; ((with_reducible refine (hAl.out _ _ hT6.out).mono ?_); rintro e w7 ⟨v7, rfl, hr7, h7⟩; have hT7 := Lib.hid h7; have hr7H := Lib.hid hr7; clear h7 hr7))
              | (go_at_call 15; ((with_reducible refine (hSa.out _ _ _ hT7.out hr7H.out).mono ?_); rintro e w8 ⟨rfl, h8⟩; have hT8 := Lib.hid h8; clear h8))
              | (go_at_call 17; ((with_reducible refine (hHa.out _ _ hT8.out).mono ?_); rintro e w9 ⟨rfl, h9⟩; obtain ⟨g2, hg2, z0⟩ := hgx.out _ h9; cases hg2; have hT9 := Lib.hid h9; clear h9))
              | (go_at_call 18; ((with_reducible refine (hRh.out _ _ hT9.out).mono ?_); rintro e w' ⟨rfl, rfl⟩)))
            go_roundw
            case rel => exact ⟨j + 1, L', _, hjlH.out, by go_num, rfl, Lib.hid (hT9.out.less (K' := []) (by simp)), hLl'⟩
            case measure => have := hjlH.out; simp [intOf]; omega
      · have hjn : j = n := by omega
        subst hjn
        clear hjl
        go_wp2_with (go_at_call 7; ((with_reducible refine (alive_any _).mono ?_); rintro e w9 ⟨rfl, hO9⟩; have hO9H := Lib.hid (only_nil hT.out.most hO9); clear hO9))
        go_ret
        exact ⟨rfl, hO9H.out.below (Nat.le_refl _) (by simp)⟩
end Go.Proofs.Ytcpiaifaebpoaaa
