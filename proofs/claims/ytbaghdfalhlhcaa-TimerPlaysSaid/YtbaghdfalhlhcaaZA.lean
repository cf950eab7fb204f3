/-
  The law Plays: each answer, and all keys in order, is the document's.
-/
import Derived.Test.YtbaghdfalhlhcaaZ
import Derived.Deep.CutRange
import Derived.Deep.CutBlock
import Derived.Deep.RegionHeld3
namespace Go.Proofs.Ytbaghdfalhlhcaa
open Go.RowKit

set_option warningAsError false in
set_option maxRecDepth 100000 in
set_option maxHeartbeats 64000000 in
theorem plays_any (w : World) (A : Option Addr) (c : Nat) (l : List OpT) (hO : OpsAt w w.heap.size A l) (hsz : ∀ o ∈ l, o.2.1.size ≤ maxLen) (hl : l.length ≤ 140737488355328) :
    Calls Try.prog 3 #[.slice A l.length c] w fun e w' => e = .returned (.bool true) ∧ Below w.heap.size w w' := by
  have hfar := Lib.hid (far_any (c := c) hO hl hsz)
  cases hf : farF l with
  | true =>
    rw [hf] at hfar
    clear hO hsz hl hf
    generalize l.length = n at *
    go_enter Try.func3, Try.ntmps3
    go_wp2_with (first
      | (go_at_call 7; ((with_reducible refine (hfar.out).mono ?_); rintro e w2 ⟨rfl, h2⟩; have h2H := Lib.hid h2; clear h2))
      | (go_at_call 8; ((with_reducible refine (alive_any w2).mono ?_); rintro e w3 ⟨rfl, h3⟩; have h3H := Lib.hid (only_nil h2H.out h3); clear h3)))
    all_goals go_ret
    exact ⟨rfl, h3H.out.below (Nat.le_refl _) (by simp)⟩
  | false =>
    rw [hf] at hfar
    obtain ⟨hn300, hk200⟩ := farF_no hf
    have hkey : Hid (∀ o ∈ l, o.2.1.size ≤ maxLen) := Lib.hid hsz
    have hOH := Lib.hid hO
    obtain ⟨n, hnn⟩ : ∃ n, n = l.length := ⟨_, rfl⟩
    have hnH := Lib.hid hnn
    rw [← hnn] at hfar ⊢
    have hnew := Lib.hid (fun w2 (h2 : Only [] w w2) => pl_new h2)
    have hnb : n ≤ 300 := by omega
    clear hO hsz hl hf hn300 hk200 hnn
    go_enter Try.func3, Try.ntmps3
    go_upto_region 6 with (first
      | (go_at_call 7; ((with_reducible refine (hfar.out).mono ?_); rintro e w2 ⟨rfl, h2⟩; have hnw := Lib.hid (hnew.out w2 h2); clear h2))
      | (go_at_call 9; ((with_reducible refine (hnw.out).mono ?_); rintro e w3 ⟨rfl, h3, _⟩; have h3H := Lib.hid (Ply.start h3); clear h3)))
    generalize w2.heap.size = D at *
    clear hnw hnew hfar
    go_loopw [4, 22] (fun s4 s22 wr => ∃ (j : Nat) (L : List Sc) (v4 : Value), j ≤ n ∧ s22 = .int .i64 j ∧ v4 = s4 ∧ Hid (Ply w wr D v4 L L []) ∧ Hid (L.length ≤ j)) (fun _ s22 _ => n - (intOf s22).toNat)
    case atStart => exact ⟨0, [], _, by omega, rfl, rfl, h3H, Lib.hid (Nat.le_refl _)⟩
    case round =>
      obtain ⟨j, L, v4, hj, rfl, rfl, hT, hLl⟩ := hrel
      by_cases hjl : j < n
      · obtain ⟨y, hy⟩ : ∃ y, l[j]? = some y := ⟨_, List.getElem?_eq_getElem (by have := hnH.out; omega)⟩
        obtain ⟨a, rfl⟩ := hOH.out.form (by have := hnH.out; omega)
        obtain ⟨x0, x1, x2⟩ := hOH.out.get (hT.out.most.below (Nat.le_refl _) (by simp)) hy
        have hyk := Lib.hid (hkey.out y (List.mem_of_getElem? hy))
        obtain ⟨kd, ya, ys⟩ := y
        simp only at x0 x1 x2 hyk
        have hjlH := Lib.hid hjl
        have hlt : decide ((j : Int) < (n : Int)) = true := decide_eq_true (by omega)
        have hltn : decide (j < n) = true := decide_eq_true hjl
        have hwk := wrap_small (x := (j : Int) + 1) (by omega)
        have hL6 : Hid (L.length ≤ 300) := Lib.hid (by have := hLl.out; omega)
        have hTm := Lib.hid (hT.out.make #[.int .i64 kd, .string ya, .int .i64 ys] 29)
        clear hy hkey hOH
        go_upto_block 2 with fail
        generalize hwo : wr.alloc (.cells #[.int .i64 kd, .string ya, .int .i64 ys] 29) = wo at *
        generalize hb0 : wr.heap.size = b0 at *
        clear hwo hb0
        have q0 : wo.cell? ⟨b0, 0, none⟩ = some (.int .i64 kd) := hTm.out.cell (List.mem_cons_self ..) 0
        have q1 : wo.cell? ⟨b0, 1, none⟩ = some (.string ya) := hTm.out.cell (List.mem_cons_self ..) 1
        have q2 : wo.cell? ⟨b0, 2, none⟩ = some (.int .i64 ys) := hTm.out.cell (List.mem_cons_self ..) 2
        have hTo := hTm
        clear hTm x0 x1 x2
        have hris := Lib.hid hT.out.rises
        have hunq := Lib.hid hT.out.uniq
        go_cut [4, 7, 8, 9] from 28 to 134 (fun s4 s7 s8 _ wx => ∃ (L' : List Sc) (v4' : Value) (p : Bool), v4' = s4 ∧ s7 = .bool p ∧ s8 = .bool p ∧ Hid (Ply w wx D v4' L' L' [(b0, .cells #[.int .i64 kd, .string ya, .int .i64 ys] 29)]) ∧ Hid (L'.length ≤ j + 1))
        case first =>
          have hlt6 : Hid (L.length ≤ 1000000) := Lib.hid (by have := hL6.out; omega)
          by_cases hk0 : kd = 0
          · subst hk0
            have hS1 := hTo.out.set (by have := hL6.out; omega) ya hyk.out ys
            rw [← Option.not_isSome] at hS1
            have hS1H := Lib.hid hS1
            clear hS1
            have hS2 := Lib.hid (fun w3 (hT3 : Hid (Ply w w3 D v4 (setK L ya ys) L [(b0, .cells #[.int .i64 0, .string ya, .int .i64 ys] 29)])) => hT3.out.rset hlt6.out hunq.out hris.out ya ys)
            go_wp2_with (first
              | (go_at_call 10; ((with_reducible refine (hS1H.out).mono ?_); rintro e w3 ⟨rfl, h3⟩; have hT3 := Lib.hid h3; have y0 : w3.cell? ⟨b0, 0, none⟩ = some (.int .i64 0) := h3.cell (List.mem_cons_self ..) 0; have y1 : w3.cell? ⟨b0, 1, none⟩ = some (.string ya) := h3.cell (List.mem_cons_self ..) 1; have y2 : w3.cell? ⟨b0, 2, none⟩ = some (.int .i64 ys) := h3.cell (List.mem_cons_self ..) 2; clear h3))
              | (go_at_call 11; ((with_reducible refine (hS2.out w3 hT3).mono ?_); rintro e w4 ⟨r4, rfl, h4⟩; have hT4 := Lib.hid h4; clear h4)))
            go_meet
            case rel => exact ⟨setK L ya ys, _, _, rfl, rfl, rfl, hT4, Lib.hid (by have := setK_le L ya ys; have := hLl.out; omega)⟩
          · have hz0 : (kd == 0) = false := beq_false_of_ne hk0
            by_cases hk1 : kd = 1
            · subst hk1
              have hS1H := Lib.hid (hTo.out.drop ya hyk.out)
              have hS2 := Lib.hid (fun w3 (hT3 : Hid (Ply w w3 D v4 (dropK L ya) L [(b0, .cells #[.int .i64 1, .string ya, .int .i64 ys] 29)])) => hT3.out.rdrop hlt6.out hunq.out ya)
              go_wp2_with (first
                | (go_at_call 12; ((with_reducible refine (hS1H.out).mono ?_); rintro e w3 ⟨rfl, h3⟩; have hT3 := Lib.hid h3; have y0 : w3.cell? ⟨b0, 0, none⟩ = some (.int .i64 1) := h3.cell (List.mem_cons_self ..) 0; have y1 : w3.cell? ⟨b0, 1, none⟩ = some (.string ya) := h3.cell (List.mem_cons_self ..) 1; have y2 : w3.cell? ⟨b0, 2, none⟩ = some (.int .i64 ys) := h3.cell (List.mem_cons_self ..) 2; clear h3))
                | (go_at_call 13; ((with_reducible refine (hS2.out w3 hT3).mono ?_); rintro e w4 ⟨r4, rfl, h4⟩; have hT4 := Lib.hid h4; clear h4)))
              go_meet
              case rel => exact ⟨dropK L ya, _, _, rfl, rfl, rfl, hT4, Lib.hid (by have := dropK_le L ya; have := hLl.out; omega)⟩
            · have hz1 : (kd == 1) = false := beq_false_of_ne hk1
              have hS1H := Lib.hid (hTo.out.rdue hlt6.out hris.out ys)
              obtain ⟨X, hX⟩ : ∃ X, X = (L.take (dueN L ys)).map Prod.fst := ⟨_, rfl⟩
              have hXl : Hid (X.length ≤ 1000000) := Lib.hid (by rw [hX, List.length_map, List.length_take]; have := hlt6.out; omega)
              obtain ⟨M, hM⟩ : ∃ M, M = L.drop (dueN L ys) := ⟨_, rfl⟩
              have hMl : Hid (M.length ≤ j + 1) := Lib.hid (by rw [hM, List.length_drop]; have := hLl.out; omega)
              have hS2 := Lib.hid (fun w3 r3 u3 (hT3 : Hid (PlyU w w3 D r3 L M [(b0, .cells #[.int .i64 kd, .string ya, .int .i64 ys] 29)] u3 X)) => hT3.out.due ys)
              rw [← hX, ← hM] at hS1H hS2
              clear hX hM
              go_wp2_with (first
                | (go_at_call 14; ((with_reducible refine (hS1H.out).mono ?_); rintro e w3 ⟨r3, u3, rfl, h3⟩; have hT3 := Lib.hid h3; have y0 : w3.cell? ⟨b0, 0, none⟩ = some (.int .i64 kd) := h3.ply.cell (List.mem_cons_self ..) 0; have y1 : w3.cell? ⟨b0, 1, none⟩ = some (.string ya) := h3.ply.cell (List.mem_cons_self ..) 1; have y2 : w3.cell? ⟨b0, 2, none⟩ = some (.int .i64 ys) := h3.ply.cell (List.mem_cons_self ..) 2; clear h3))
                | (go_at_call 16; ((with_reducible refine (hS2.out w3 r3 u3 hT3).mono ?_); rintro e w4 ⟨u4, rfl, h41, h42, h43⟩; have hS3 := Lib.hid (h43.tsame h41 h42 hXl.out); clear h41 h42 h43))
                | (go_at_call 15; ((with_reducible refine (hS3.out).mono ?_); rintro e w5 ⟨rfl, h5⟩; have hT5 := Lib.hid h5; clear h5)))
              go_meet
              case rel => exact ⟨M, _, _, rfl, rfl, rfl, hT5, hMl⟩
        case rest =>
          obtain ⟨L', v4', p, rfl, rfl, rfl, hT', hL'⟩ := hcut
          obtain ⟨A6, c6, rfl⟩ := hT'.out.rows.len
          have hlt7 : Hid (L'.length ≤ 1000000) := Lib.hid (by have := hL'.out; omega)
          have hA1 := hT'.out.at_ ya hyk.out
          have hA2 := hT'.out.rat hlt7.out hT'.out.uniq ya
          rw [atV_form] at hA1 hA2
          generalize (atK L' ya).getD 0 = av at hA1 hA2
          generalize (atK L' ya).isSome = hb at hA1 hA2
          have hF := hT'.out.first
          rw [firstV_form] at hF
          have v1 : wc.cell? ⟨b0, 1, none⟩ = some (.string ya) := hT'.out.cell (List.mem_cons_self ..) 1
          obtain ⟨m, hm⟩ : ∃ m, m = L'.length := ⟨_, rfl⟩
          have hmH := Lib.hid hm
          obtain ⟨z, hz⟩ : ∃ z, z = el L' 0 := ⟨_, rfl⟩
          rw [← hm] at hT' hA2 ⊢
          clear hm q0 q1 q2 hTo hT hLl hL6 hris hunq
          by_cases h0 : 0 < m
          · obtain ⟨g, rfl⟩ : ∃ g, A6 = some ⟨g, 0, none⟩ := by
              rcases hT'.out.rows.form with ⟨_, hz0⟩ | ⟨g, cap, he, _⟩
              · rw [hz0] at hmH; have := hmH.out; simp at this; omega
              · injection he with e1 e2 e3; exact ⟨g, e1⟩
            have hd0 : decide ((0 : Int) < (m : Int)) = true := decide_eq_true (by omega)
            have hd1 : decide (0 < m) = true := decide_eq_true h0
            have hix : ∀ w, Sem.run Try.prog (Instr.indexAt 27 (.slice (some ⟨g, 0, none⟩) m c6) (.int .i64 0)) w = .ok (.pointer (some ⟨g, 0, none⟩)) w := fun w => run_ixS g 0 m c6 h0 w
            have hel0 : L'[0]? = some (el L' 0) := el_get (by have := hmH.out; omega)
            rw [hel0, ← hz] at hF
            rw [← hz] at hel0
            rw [show (some z).isSome = true from rfl] at hF
            have hrow : Hid (∀ W K, Ply w W D (.slice (some ⟨g, 0, none⟩) m c6) L' L' K → W.cell? ⟨g, 0, none⟩ = some (.string z.1) ∧ W.cell? ⟨g, 1, none⟩ = some (.int .i64 z.2)) := Lib.hid (fun W K h => by
              rcases h.rows.form with ⟨_, hz0⟩ | ⟨g', cap, he, _, _, _, hc⟩
              · rw [hz0] at hel0; simp at hel0
              · injection he with e1 e2 e3; cases e1; simpa using hc 0 z hel0)
            clear hel0
            obtain ⟨za, zs⟩ := z
            simp only at hF hrow
            have hFH := Lib.hid hF
            clear hF h0 hz
            have hA1H := Lib.hid hA1
            have hA2H := Lib.hid hA2
            clear hA1 hA2
            go_upto_region 22 with (first
              | (go_at_call 17; ((with_reducible refine (hA1H.out).mono ?_); rintro e w' ⟨rfl, rfl⟩))
              | (go_at_call 18; ((with_reducible refine (hA2H.out).mono ?_); rintro e w' ⟨rfl, rfl⟩))
              | (go_at_call 19; ((with_reducible refine (hFH.out).mono ?_); rintro e w7 ⟨rfl, h7⟩; have h8 := (hT'.out.same h7).make #[.string za, .int .i64 zs] 44; have h8H := Lib.hid (h8.less (K' := [(w7.heap.size, .cells #[.string za, .int .i64 zs] 44)]) (by intro q hq; simp at hq ⊢; exact Or.inl hq)); clear h7 h8)))
            clear hA1H hA2H hFH hT' v1
            generalize hW8 : w7.alloc (.cells #[.string za, .int .i64 zs] 44) = W8 at *
            generalize hb14 : w7.heap.size = b14 at *
            clear hW8 hb14
            have hLe : Hid (∀ W, Ply w W D (.slice (some ⟨g, 0, none⟩) m c6) L' L' [(b14, .cells #[.string za, .int .i64 zs] 44)] → Calls Try.prog 20 #[.pointer (some ⟨D, 0, none⟩)] W fun e w' => e = .returned (.int .i64 (m : Nat)) ∧ Ply w w' D (.slice (some ⟨g, 0, none⟩) m c6) L' L' [(b14, .cells #[.string za, .int .i64 zs] 44)]) := Lib.hid (fun W h => (h.len).mono fun _ _ ⟨he, hw⟩ => ⟨by rw [he, hmH.out], hw ▸ h⟩)
            have hAl : Hid (∀ W, Ply w W D (.slice (some ⟨g, 0, none⟩) m c6) L' L' [(b14, .cells #[.string za, .int .i64 zs] 44)] → Calls Try.prog 22 #[.pointer (some ⟨D, 0, none⟩)] W fun e w' => ∃ v, e = .returned v ∧ (∃ B, RowS w' B v L') ∧ Ply w w' D (.slice (some ⟨g, 0, none⟩) m c6) L' L' [(b14, .cells #[.string za, .int .i64 zs] 44)]) := Lib.hid (fun W h => (h.all).mono fun _ _ ⟨v, he, hf⟩ => ⟨v, he, ⟨_, hf.1⟩, h.same hf.2⟩)
            have hSa : Hid (∀ W v, Ply w W D (.slice (some ⟨g, 0, none⟩) m c6) L' L' [(b14, .cells #[.string za, .int .i64 zs] 44)] → (∃ B, RowS W B v L') → Calls Try.prog 21 #[v, (.slice (some ⟨g, 0, none⟩) m c6)] W fun e w' => e = .returned (.bool true) ∧ Ply w w' D (.slice (some ⟨g, 0, none⟩) m c6) L' L' [(b14, .cells #[.string za, .int .i64 zs] 44)]) := Lib.hid (fun W v h ⟨B, hv⟩ => (rsame_self hv h.rows hlt7.out).mono fun _ _ ⟨he, ho⟩ => ⟨he, h.same ho⟩)
            have hce : Hid (∀ W, Ply w W D (.slice (some ⟨g, 0, none⟩) m c6) L' L' [(b14, .cells #[.string za, .int .i64 zs] 44)] → W.cell? ⟨b14, 0, none⟩ = some (.string za) ∧ W.cell? ⟨b14, 1, none⟩ = some (.int .i64 zs) ∧ W.cell? ⟨g, 0, none⟩ = some (.string za) ∧ W.cell? ⟨g, 1, none⟩ = some (.int .i64 zs)) := Lib.hid (fun W h => ⟨h.cell (List.mem_cons_self ..) 0, h.cell (List.mem_cons_self ..) 1, (hrow.out _ _ h).1, (hrow.out _ _ h).2⟩)
            have hP9 := h8H.out
            have hP9d := hP9.same ((Only.refl [] W8).drew)
            obtain ⟨z0, z1, z2, z3⟩ := hce.out _ hP9
            obtain ⟨y0, y1, y2, y3⟩ := hce.out _ hP9d
            clear h8H
            go_region_held3 (fun w' => w'.cell? ⟨b14, 0, none⟩ = some (.string za) ∧ w'.cell? ⟨b14, 1, none⟩ = some (.int .i64 zs) ∧ w'.cell? ⟨g, 0, none⟩ = some (.string za) ∧ w'.cell? ⟨g, 1, none⟩ = some (.int .i64 zs))
              (first | exact ⟨z0, z1, z2, z3⟩ | assumption | (refine ⟨?_, ?_, ?_, ?_⟩ <;> assumption))
              (first
                | (go_at_call 20; ((with_reducible refine (hLe.out _ (by assumption)).mono ?_); rintro r w12 ⟨rfl, p12⟩; obtain ⟨t0, t1, t2, t3⟩ := hce.out _ p12))
                | (go_at_call 22; ((with_reducible refine (hAl.out _ (by assumption)).mono ?_); rintro r w13 ⟨v13, rfl, r13, p13⟩; have r13H := Lib.hid r13; have p13H := Lib.hid p13; obtain ⟨t0, t1, t2, t3⟩ := hce.out _ p13; clear r13 p13))
                | (go_at_call 21; ((with_reducible refine (hSa.out _ _ p13H.out r13H.out).mono ?_); rintro r w14 ⟨rfl, p14⟩; have p14H := Lib.hid p14; obtain ⟨t0, t1, t2, t3⟩ := hce.out _ p14; clear p14)))
            all_goals go_wp2_with fail
            all_goals go_roundw
            case rel => exact ⟨j + 1, L', _, hjlH.out, by go_num, rfl, Lib.hid (p14H.out.less (K' := []) (by simp)), hL'⟩
            case measure => have := hjlH.out; simp [intOf]; omega
          · have hm0 : m = 0 := by omega
            have hd0 : decide ((0 : Int) < (m : Int)) = false := decide_eq_false (by omega)
            have hd1 : decide (0 < m) = false := decide_eq_false h0
            rw [show L'[0]? = none from List.getElem?_eq_none (by have := hmH.out; omega), ← hz] at hF
            rw [show (none : Option Sc).isSome = false from rfl] at hF
            clear hm0
            obtain ⟨za, zs⟩ := z
            simp only at hF
            have hFH := Lib.hid hF
            clear hF h0 hz
            have hA1H := Lib.hid hA1
            have hA2H := Lib.hid hA2
            clear hA1 hA2
            go_upto_region 22 with (first
              | (go_at_call 17; ((with_reducible refine (hA1H.out).mono ?_); rintro e w' ⟨rfl, rfl⟩))
              | (go_at_call 18; ((with_reducible refine (hA2H.out).mono ?_); rintro e w' ⟨rfl, rfl⟩))
              | (go_at_call 19; ((with_reducible refine (hFH.out).mono ?_); rintro e w7 ⟨rfl, h7⟩; have h8 := (hT'.out.same h7).make #[.string za, .int .i64 zs] 44; have h8H := Lib.hid (h8.less (K' := [(w7.heap.size, .cells #[.string za, .int .i64 zs] 44)]) (by intro q hq; simp at hq ⊢; exact Or.inl hq)); clear h7 h8)))
            clear hA1H hA2H hFH hT' v1
            generalize hW8 : w7.alloc (.cells #[.string za, .int .i64 zs] 44) = W8 at *
            generalize hb14 : w7.heap.size = b14 at *
            clear hW8 hb14
            have hLe : Hid (∀ W, Ply w W D (.slice A6 m c6) L' L' [(b14, .cells #[.string za, .int .i64 zs] 44)] → Calls Try.prog 20 #[.pointer (some ⟨D, 0, none⟩)] W fun e w' => e = .returned (.int .i64 (m : Nat)) ∧ Ply w w' D (.slice A6 m c6) L' L' [(b14, .cells #[.string za, .int .i64 zs] 44)]) := Lib.hid (fun W h => (h.len).mono fun _ _ ⟨he, hw⟩ => ⟨by rw [he, hmH.out], hw ▸ h⟩)
            have hAl : Hid (∀ W, Ply w W D (.slice A6 m c6) L' L' [(b14, .cells #[.string za, .int .i64 zs] 44)] → Calls Try.prog 22 #[.pointer (some ⟨D, 0, none⟩)] W fun e w' => ∃ v, e = .returned v ∧ (∃ B, RowS w' B v L') ∧ Ply w w' D (.slice A6 m c6) L' L' [(b14, .cells #[.string za, .int .i64 zs] 44)]) := Lib.hid (fun W h => (h.all).mono fun _ _ ⟨v, he, hf⟩ => ⟨v, he, ⟨_, hf.1⟩, h.same hf.2⟩)
            have hSa : Hid (∀ W v, Ply w W D (.slice A6 m c6) L' L' [(b14, .cells #[.string za, .int .i64 zs] 44)] → (∃ B, RowS W B v L') → Calls Try.prog 21 #[v, (.slice A6 m c6)] W fun e w' => e = .returned (.bool true) ∧ Ply w w' D (.slice A6 m c6) L' L' [(b14, .cells #[.string za, .int .i64 zs] 44)]) := Lib.hid (fun W v h ⟨B, hv⟩ => (rsame_self hv h.rows hlt7.out).mono fun _ _ ⟨he, ho⟩ => ⟨he, h.same ho⟩)
            have hce : Hid (∀ W, Ply w W D (.slice A6 m c6) L' L' [(b14, .cells #[.string za, .int .i64 zs] 44)] → W.cell? ⟨b14, 0, none⟩ = some (.string za) ∧ W.cell? ⟨b14, 1, none⟩ = some (.int .i64 zs)) := Lib.hid (fun W h => ⟨h.cell (List.mem_cons_self ..) 0, h.cell (List.mem_cons_self ..) 1⟩)
            have hP9 := h8H.out
            have hP9d := hP9.same ((Only.refl [] W8).drew)
            obtain ⟨z0, z1⟩ := hce.out _ hP9
            obtain ⟨y0, y1⟩ := hce.out _ hP9d
            clear h8H
            first
            | (go_region_held3 (fun w' => w'.cell? ⟨b14, 0, none⟩ = some (.string za) ∧ w'.cell? ⟨b14, 1, none⟩ = some (.int .i64 zs))
              (first | exact ⟨z0, z1⟩ | assumption | (refine ⟨?_, ?_⟩ <;> assumption))
              (first
                | (go_at_call 20; ((with_reducible refine (hLe.out _ (by assumption)).mono ?_); rintro r w12 ⟨rfl, p12⟩; obtain ⟨t0, t1⟩ := hce.out _ p12))
                | (go_at_call 22; ((with_reducible refine (hAl.out _ (by assumption)).mono ?_); rintro r w13 ⟨v13, rfl, r13, p13⟩; have r13H := Lib.hid r13; have p13H := Lib.hid p13; obtain ⟨t0, t1⟩ := hce.out _ p13; clear r13 p13))
                | (go_at_call 21; ((with_reducible refine (hSa.out _ _ p13H.out r13H.out).mono ?_); rintro r w14 ⟨rfl, p14⟩; have p14H := Lib.hid p14; obtain ⟨t0, t1⟩ := hce.out _ p14; clear p14))))
            | fail
            all_goals go_wp2_with fail
            all_goals go_roundw
            all_goals first
              | exact ⟨j + 1, L', _, hjlH.out, by go_num, rfl, Lib.hid (p14H.out.less (K' := []) (by simp)), hL'⟩
              | (have := hjlH.out; simp [intOf]; omega)
      · have hjn : j = n := by omega
        subst hjn
        clear hjl
        go_wp2_with (go_at_call 8; ((with_reducible refine (alive_any _).mono ?_); rintro e w9 ⟨rfl, hO9⟩; have hO9H := Lib.hid (only_nil hT.out.most hO9); clear hO9))
        go_ret
        exact ⟨rfl, hO9H.out.below (Nat.le_refl _) (by simp)⟩
end Go.Proofs.Ytbaghdfalhlhcaa
