/-
  The law that the list plays as the document's row does.
-/
import Derived.Test.YtnmcedkinacbpaaU
import Derived.Deep.RegionHeld3
namespace Go.Proofs.Ytnmcedkinacbpaa
open Go.RowKit

set_option maxRecDepth 100000 in
set_option maxHeartbeats 16000000 in
theorem plays_any (w : World) (A : Option Addr) (c : Nat) (l : List Int) (B : Option Addr) (c2 : Nat) (os : List Op3) (hl : SrcI w (.slice A l.length c) l) (ho : OpsAt w w.heap.size B os) (hrg : ∀ o ∈ os, inI64 o.1 ∧ inI64 o.2.1 ∧ inI64 o.2.2) (hll : l.length ≤ 140737488355328) (hol : os.length ≤ 140737488355328) :
    Calls Try.prog 3 #[.slice A l.length c, .slice B os.length c2] w fun e w' => e = .returned (.bool true) ∧ Below w.heap.size w w' := by
  have hal := Lib.hid alive_any
  by_cases hsz : l.length ≤ 300 ∧ os.length ≤ 300
  · obtain ⟨h1, h2⟩ := hsz
    have hd1 : decide ((300 : Int) < (l.length : Int)) = false := decide_eq_false (by omega)
    have hd2 : decide ((300 : Int) < (os.length : Int)) = false := decide_eq_false (by omega)
    have hd3 : decide (300 < l.length) = false := decide_eq_false (by omega)
    have hd4 : decide (300 < os.length) = false := decide_eq_false (by omega)
    have hlH := Lib.hid hl
    have hoH := Lib.hid ho
    have hrgH := Lib.hid hrg
    have h1H := Lib.hid h1
    have h2H := Lib.hid h2
    have hN1 := Lib.hid (new_any hl (by omega))
    clear hl ho hrg h1 h2 hll hol
    go_enter Try.func3, Try.ntmps3
    go_wp2_with (first
      | (go_at_call 7; ((with_reducible refine (hN1.out).mono ?_); rintro e w1 ⟨D, g, rfl, hq1, hq2, hq3, hq4⟩; have hQ1 := Lib.hid hq1; have hQ2 := Lib.hid hq2; have hQ3 := Lib.hid hq3; have hQ4 := Lib.hid hq4; clear hq1 hq2 hq3 hq4))
      | (at_builtin; refine wpList_append_int (o := ⟨some 25, _, _, _, _, _⟩) (by rfl) (.const (.slice none 0 0)) (.tmp 24) (by rfl) w1.heap.size (.slice none 0 0) (.slice A l.length c) [] l (by rfl) (by rfl) (rowI_nil _ _) (hlH.out.none hQ4.out) (by have := h1H.out; simp; omega) (Nat.le_refl _) ?_; intro v2 w2 hR2 hO2 hv2; have hPl := Lib.hid (Ply.start hQ1.out hQ2.out hQ3.out hQ4.out (r' := v2) (R := l) ⟨hR2, hO2⟩); clear hR2 hO2 hv2))
    clear hQ1 hQ2 hQ3 hQ4 hN1
    go_loopw [6, 28] (fun s6 s28 wr => ∃ (j : Nat) (L : List Int) (v6 : Value), j ≤ os.length ∧ s28 = .int .i64 j ∧ v6 = s6 ∧ Hid (Ply w wr D v6 L L []) ∧ Hid (L.length ≤ 300 + j)) (fun _ s28 _ => os.length - (intOf s28).toNat)
    case atStart => exact ⟨0, l, _, by omega, rfl, rfl, hPl, Lib.hid (by have := h1H.out; omega)⟩
    case round =>
      obtain ⟨j, L, v6, hj, rfl, rfl, hT, hLl⟩ := hrel
      by_cases hjl : j < os.length
      · obtain ⟨y, hy⟩ : ∃ y, os[j]? = some y := ⟨_, List.getElem?_eq_getElem hjl⟩
        obtain ⟨a2, rfl, ha, x1, x2, x3⟩ := hoH.out.on (hT.out.most.below (Nat.le_refl _) (by simp)) j y hy
        obtain ⟨hr1, hr2, hr3⟩ := hrgH.out y (List.mem_of_getElem? hy)
        obtain ⟨kd, iv, v⟩ := y
        simp only at x1 x2 x3 hr1 hr2 hr3
        have hr1H := Lib.hid hr1
        have hr2H := Lib.hid hr2
        have hr3H := Lib.hid hr3
        have hjlH := Lib.hid hjl
        have hL6 : Hid (L.length ≤ 600) := Lib.hid (by have := hLl.out; have := h2H.out; omega)
        have hwj : wrap64 ((j : Int) + 1) = (j : Int) + 1 := IntWalk.wrap64_in _ (by have := h2H.out; omega)
        have hwj2 := wrap_small (x := (j : Int) + 1) (by have := h2H.out; omega)
        have hTm := Lib.hid (hT.out.make #[.int .i64 kd, .int .i64 iv, .int .i64 v] 28)
        clear hy hr1 hr2 hr3
        go_upto_block 2 with fail
        generalize hwo : wr.alloc (.cells #[.int .i64 kd, .int .i64 iv, .int .i64 v] 28) = wo at *
        generalize hb0 : wr.heap.size = b0 at *
        clear hwo hb0
        have q0 : wo.cell? ⟨b0, 0, none⟩ = some (.int .i64 kd) := hTm.out.cells 0
        have q1 : wo.cell? ⟨b0, 1, none⟩ = some (.int .i64 iv) := hTm.out.cells 1
        have q2 : wo.cell? ⟨b0, 2, none⟩ = some (.int .i64 v) := hTm.out.cells 2
        have hTo := hTm
        clear hTm x1 x2 x3
        go_cut [6, 9, 10, 11, 12] from 34 to 160 (fun s6 s9 s10 s11 s12 wx => ∃ (L' : List Int) (v6' : Value) (p : Bool) (a : Int), v6' = s6 ∧ s9 = .bool p ∧ s10 = .bool p ∧ s11 = .int .i64 a ∧ s12 = .int .i64 a ∧ Hid (Ply w wx D v6' L' L' []) ∧ Hid (L'.length ≤ 301 + j))
        case first =>
          by_cases hk0 : kd = 0
          · subst hk0
            have hS1 := Lib.hid (hTo.out.push (by have := hL6.out; omega) false v)
            have hS2 := Lib.hid (fun w3 (hT3 : Hid (Ply w w3 D v6 (pushF false v L) L [(b0, .cells #[.int .i64 0, .int .i64 iv, .int .i64 v] 28)])) => hT3.out.rpush (by have := hL6.out; omega) false v)
            go_wp2_with (first
              | (go_at_call 8; ((with_reducible refine (hS1.out).mono ?_); rintro e w3 ⟨rfl, h3⟩; have hT3 := Lib.hid h3; have y0 : w3.cell? ⟨b0, 0, none⟩ = some (.int .i64 0) := h3.cells 0; have y1 : w3.cell? ⟨b0, 1, none⟩ = some (.int .i64 iv) := h3.cells 1; have y2 : w3.cell? ⟨b0, 2, none⟩ = some (.int .i64 v) := h3.cells 2; clear h3))
              | (go_at_call 9; ((with_reducible refine (hS2.out w3 hT3).mono ?_); rintro e w4 ⟨r4, rfl, h4⟩; have hT4 := Lib.hid h4; clear h4)))
            go_meet
            case rel => exact ⟨pushF false v L, _, true, 0, rfl, rfl, rfl, rfl, rfl, Lib.hid hT4.out.drop, Lib.hid (by rw [pushF_len]; have := hLl.out; omega)⟩
          · have hz0 : (kd == 0) = false := beq_false_of_ne hk0
            by_cases hk1 : kd = 1
            · subst hk1
              have hS1 := Lib.hid (hTo.out.push (by have := hL6.out; omega) true v)
              have hS2 := Lib.hid (fun w3 (hT3 : Hid (Ply w w3 D v6 (pushF true v L) L [(b0, .cells #[.int .i64 1, .int .i64 iv, .int .i64 v] 28)])) => hT3.out.rpush (by have := hL6.out; omega) true v)
              go_wp2_with (first
                | (go_at_call 8; ((with_reducible refine (hS1.out).mono ?_); rintro e w3 ⟨rfl, h3⟩; have hT3 := Lib.hid h3; have y0 : w3.cell? ⟨b0, 0, none⟩ = some (.int .i64 1) := h3.cells 0; have y1 : w3.cell? ⟨b0, 1, none⟩ = some (.int .i64 iv) := h3.cells 1; have y2 : w3.cell? ⟨b0, 2, none⟩ = some (.int .i64 v) := h3.cells 2; clear h3))
                | (go_at_call 9; ((with_reducible refine (hS2.out w3 hT3).mono ?_); rintro e w4 ⟨r4, rfl, h4⟩; have hT4 := Lib.hid h4; clear h4)))
              go_meet
              case rel => exact ⟨pushF true v L, _, true, 0, rfl, rfl, rfl, rfl, rfl, Lib.hid hT4.out.drop, Lib.hid (by rw [pushF_len]; have := hLl.out; omega)⟩
            · have hz1 : (kd == 1) = false := beq_false_of_ne hk1
              by_cases hk2 : kd = 2
              · subst hk2
                have hS1 := Lib.hid (hTo.out.pop false)
                have hS2 := Lib.hid (fun w3 (hT3 : Hid (Ply w w3 D v6 (popF false L) L [(b0, .cells #[.int .i64 2, .int .i64 iv, .int .i64 v] 28)])) => hT3.out.rpop (by have := hL6.out; omega) false)
                go_wp2_with (first
                  | (go_at_call 10; ((with_reducible refine (hS1.out).mono ?_); rintro e w3 ⟨rfl, h3⟩; have hT3 := Lib.hid h3; have y0 : w3.cell? ⟨b0, 0, none⟩ = some (.int .i64 2) := h3.cells 0; have y1 : w3.cell? ⟨b0, 1, none⟩ = some (.int .i64 iv) := h3.cells 1; have y2 : w3.cell? ⟨b0, 2, none⟩ = some (.int .i64 v) := h3.cells 2; clear h3))
                  | (go_at_call 11; ((with_reducible refine (hS2.out w3 hT3).mono ?_); rintro e w4 ⟨r4, rfl, h4⟩; have hT4 := Lib.hid h4; clear h4)))
                go_meet
                case rel => exact ⟨popF false L, _, _, _, rfl, rfl, rfl, rfl, rfl, Lib.hid hT4.out.drop, Lib.hid (by have := popF_len false L; have := hLl.out; omega)⟩
              · have hz2 : (kd == 2) = false := beq_false_of_ne hk2
                by_cases hk3 : kd = 3
                · subst hk3
                  have hS1 := Lib.hid (hTo.out.pop true)
                  have hS2 := Lib.hid (fun w3 (hT3 : Hid (Ply w w3 D v6 (popF true L) L [(b0, .cells #[.int .i64 3, .int .i64 iv, .int .i64 v] 28)])) => hT3.out.rpop (by have := hL6.out; omega) true)
                  go_wp2_with (first
                    | (go_at_call 10; ((with_reducible refine (hS1.out).mono ?_); rintro e w3 ⟨rfl, h3⟩; have hT3 := Lib.hid h3; have y0 : w3.cell? ⟨b0, 0, none⟩ = some (.int .i64 3) := h3.cells 0; have y1 : w3.cell? ⟨b0, 1, none⟩ = some (.int .i64 iv) := h3.cells 1; have y2 : w3.cell? ⟨b0, 2, none⟩ = some (.int .i64 v) := h3.cells 2; clear h3))
                    | (go_at_call 11; ((with_reducible refine (hS2.out w3 hT3).mono ?_); rintro e w4 ⟨r4, rfl, h4⟩; have hT4 := Lib.hid h4; clear h4)))
                  go_meet
                  case rel => exact ⟨popF true L, _, _, _, rfl, rfl, rfl, rfl, rfl, Lib.hid hT4.out.drop, Lib.hid (by have := popF_len true L; have := hLl.out; omega)⟩
                · have hz3 : (kd == 3) = false := beq_false_of_ne hk3
                  by_cases hk4 : kd = 4
                  · subst hk4
                    have hS1 := Lib.hid (hTo.out.at_ (by have := hL6.out; omega) iv hr2H.out)
                    have hS2 := Lib.hid (fun w3 (hT3 : Hid (Ply w w3 D v6 (L) L [(b0, .cells #[.int .i64 4, .int .i64 iv, .int .i64 v] 28)])) => hT3.out.rat (by have := hL6.out; omega) iv hr2H.out)
                    go_wp2_with (first
                      | (go_at_call 12; ((with_reducible refine (hS1.out).mono ?_); rintro e w3 ⟨rfl, h3⟩; have hT3 := Lib.hid h3; have y0 : w3.cell? ⟨b0, 0, none⟩ = some (.int .i64 4) := h3.cells 0; have y1 : w3.cell? ⟨b0, 1, none⟩ = some (.int .i64 iv) := h3.cells 1; have y2 : w3.cell? ⟨b0, 2, none⟩ = some (.int .i64 v) := h3.cells 2; clear h3))
                      | (go_at_call 13; ((with_reducible refine (hS2.out w3 hT3).mono ?_); rintro e w4 ⟨rfl, h4⟩; have hT4 := Lib.hid h4; clear h4)))
                    go_meet
                    case rel => exact ⟨L, _, _, _, rfl, rfl, rfl, rfl, rfl, Lib.hid hT4.out.drop, Lib.hid (by have := hLl.out; omega)⟩
                  · have hz4 : (kd == 4) = false := beq_false_of_ne hk4
                    by_cases hk5 : kd = 5
                    · subst hk5
                      have hS1 := Lib.hid (hTo.out.set_ (by have := hL6.out; omega) iv hr2H.out v)
                      have hS2 := Lib.hid (fun w3 (hT3 : Hid (Ply w w3 D v6 (setF L iv v) L [(b0, .cells #[.int .i64 5, .int .i64 iv, .int .i64 v] 28)])) => hT3.out.rset (by have := hL6.out; omega) iv hr2H.out v)
                      go_wp2_with (first
                        | (go_at_call 14; ((with_reducible refine (hS1.out).mono ?_); rintro e w3 ⟨rfl, h3⟩; have hT3 := Lib.hid h3; have y0 : w3.cell? ⟨b0, 0, none⟩ = some (.int .i64 5) := h3.cells 0; have y1 : w3.cell? ⟨b0, 1, none⟩ = some (.int .i64 iv) := h3.cells 1; have y2 : w3.cell? ⟨b0, 2, none⟩ = some (.int .i64 v) := h3.cells 2; clear h3))
                        | (go_at_call 15; ((with_reducible refine (hS2.out w3 hT3).mono ?_); rintro e w4 ⟨r4, rfl, h4⟩; have hT4 := Lib.hid h4; clear h4)))
                      go_meet
                      case rel => exact ⟨setF L iv v, _, _, 0, rfl, rfl, rfl, rfl, rfl, Lib.hid hT4.out.drop, Lib.hid (by rw [setF_len]; have := hLl.out; omega)⟩
                    · have hz5 : (kd == 5) = false := beq_false_of_ne hk5
                      by_cases hk6 : kd = 6
                      · subst hk6
                        have hS1 := Lib.hid (hTo.out.ins (by have := hL6.out; omega) iv v)
                        have hS2 := Lib.hid (fun w3 (hT3 : Hid (Ply w w3 D v6 (insF L iv v) L [(b0, .cells #[.int .i64 6, .int .i64 iv, .int .i64 v] 28)])) => hT3.out.rins (by have := hL6.out; omega) iv v)
                        go_wp2_with (first
                          | (go_at_call 16; ((with_reducible refine (hS1.out).mono ?_); rintro e w3 ⟨rfl, h3⟩; have hT3 := Lib.hid h3; have y0 : w3.cell? ⟨b0, 0, none⟩ = some (.int .i64 6) := h3.cells 0; have y1 : w3.cell? ⟨b0, 1, none⟩ = some (.int .i64 iv) := h3.cells 1; have y2 : w3.cell? ⟨b0, 2, none⟩ = some (.int .i64 v) := h3.cells 2; clear h3))
                          | (go_at_call 17; ((with_reducible refine (hS2.out w3 hT3).mono ?_); rintro e w4 ⟨r4, rfl, h4⟩; have hT4 := Lib.hid h4; clear h4)))
                        go_meet
                        case rel => exact ⟨insF L iv v, _, _, 0, rfl, rfl, rfl, rfl, rfl, Lib.hid hT4.out.drop, Lib.hid (by have := insF_len L iv v; have := hLl.out; omega)⟩
                      · have hz6 : (kd == 6) = false := beq_false_of_ne hk6
                        by_cases hk7 : kd = 7
                        · subst hk7
                          have hS1 := Lib.hid (hTo.out.rem (by have := hL6.out; omega) iv hr2H.out)
                          have hS2 := Lib.hid (fun w3 (hT3 : Hid (Ply w w3 D v6 (remF L iv) L [(b0, .cells #[.int .i64 7, .int .i64 iv, .int .i64 v] 28)])) => hT3.out.rrem (by have := hL6.out; omega) iv hr2H.out)
                          go_wp2_with (first
                            | (go_at_call 18; ((with_reducible refine (hS1.out).mono ?_); rintro e w3 ⟨rfl, h3⟩; have hT3 := Lib.hid h3; have y0 : w3.cell? ⟨b0, 0, none⟩ = some (.int .i64 7) := h3.cells 0; have y1 : w3.cell? ⟨b0, 1, none⟩ = some (.int .i64 iv) := h3.cells 1; have y2 : w3.cell? ⟨b0, 2, none⟩ = some (.int .i64 v) := h3.cells 2; clear h3))
                            | (go_at_call 19; ((with_reducible refine (hS2.out w3 hT3).mono ?_); rintro e w4 ⟨r4, rfl, h4⟩; have hT4 := Lib.hid h4; clear h4)))
                          go_meet
                          case rel => exact ⟨remF L iv, _, _, 0, rfl, rfl, rfl, rfl, rfl, Lib.hid hT4.out.drop, Lib.hid (by have := remF_len L iv; have := hLl.out; omega)⟩
                        · have hz7 : (kd == 7) = false := beq_false_of_ne hk7
                          by_cases hk8 : kd = 8
                          · subst hk8
                            have hS1 := Lib.hid (hTo.out.keep iv v hr2H.out hr3H.out)
                            have hS2 := Lib.hid (fun w3 (hT3 : Hid (Ply w w3 D v6 (cutL L iv v) L [(b0, .cells #[.int .i64 8, .int .i64 iv, .int .i64 v] 28)])) => hT3.out.rkeep (by have := hL6.out; omega) iv v hr2H.out hr3H.out)
                            go_wp2_with (first
                              | (go_at_call 20; ((with_reducible refine (hS1.out).mono ?_); rintro e w3 ⟨rfl, h3⟩; have hT3 := Lib.hid h3; have y0 : w3.cell? ⟨b0, 0, none⟩ = some (.int .i64 8) := h3.cells 0; have y1 : w3.cell? ⟨b0, 1, none⟩ = some (.int .i64 iv) := h3.cells 1; have y2 : w3.cell? ⟨b0, 2, none⟩ = some (.int .i64 v) := h3.cells 2; clear h3))
                              | (go_at_call 21; ((with_reducible refine (hS2.out w3 hT3).mono ?_); rintro e w4 ⟨r4, rfl, h4⟩; have hT4 := Lib.hid h4; clear h4)))
                            go_meet
                            case rel => exact ⟨cutL L iv v, _, true, 0, rfl, rfl, rfl, rfl, rfl, Lib.hid hT4.out.drop, Lib.hid (by have := cutL_len L iv v; have := hLl.out; omega)⟩
                          · have hz8 : (kd == 8) = false := beq_false_of_ne hk8
                            have hC1 := Lib.hid (fun W (h : Ply w W D v6 L L [(b0, .cells #[.int .i64 kd, .int .i64 iv, .int .i64 v] 28)]) => h.cut iv v hr2H.out hr3H.out)
                            have hC2 := Lib.hid (fun W (h : Ply w W D v6 L L [(b0, .cells #[.int .i64 kd, .int .i64 iv, .int .i64 v] 28)]) => h.rcut (by have := hL6.out; omega) iv v hr2H.out hr3H.out)
                            have hp0 : Ply w wo D v6 L L [(b0, .cells #[.int .i64 kd, .int .i64 iv, .int .i64 v] 28)] := hTo.out
                            have hp0d : Ply w wo.drew D v6 L L [(b0, .cells #[.int .i64 kd, .int .i64 iv, .int .i64 v] 28)] := hTo.out.same ((Only.refl [] wo).drew)
                            have hcl : Hid ((cutL L iv v).length ≤ 1000) := Lib.hid (by have := cutL_len L iv v; have := hL6.out; omega)
                            go_wp2_with fail
                            go_region_held3 (fun w' => w'.cell? ⟨b0, 1, none⟩ = some (.int .i64 iv) ∧ w'.cell? ⟨b0, 2, none⟩ = some (.int .i64 v))
                              (first | exact ⟨q1, q2⟩ | assumption | (refine ⟨?_, ?_⟩ <;> assumption))
                              (first
                              | (go_at_call 23; ((with_reducible refine (hC1.out _ (by assumption)).mono ?_); rintro e w3 ⟨v3, rfl, hs3, h3, _⟩; have y1 : w3.cell? ⟨b0, 1, none⟩ = some (.int .i64 iv) := h3.cells 1; have y2 : w3.cell? ⟨b0, 2, none⟩ = some (.int .i64 v) := h3.cells 2; have hs3H := Lib.hid hs3; clear hs3))
                              | (go_at_call 21; ((with_reducible refine (hC2.out _ (by assumption)).mono ?_); rintro e w4 ⟨v4, rfl, hs4, h4, ho4⟩; have z1 : w4.cell? ⟨b0, 1, none⟩ = some (.int .i64 iv) := h4.cells 1; have z2 : w4.cell? ⟨b0, 2, none⟩ = some (.int .i64 v) := h4.cells 2; have hs4H := Lib.hid hs4; have hs3b := Lib.hid (hs3H.out.none ho4); clear hs4 ho4))
                              | (go_at_call 22; ((with_reducible refine (h4.equal hs3b.out hs4H.out hcl.out).mono ?_); rintro e w5 ⟨rfl, h5⟩; have t1 : w5.cell? ⟨b0, 1, none⟩ = some (.int .i64 iv) := h5.cells 1; have t2 : w5.cell? ⟨b0, 2, none⟩ = some (.int .i64 v) := h5.cells 2; have h5H := Lib.hid h5; clear h5)))
                            all_goals go_wp2_with fail
                            all_goals go_meet
                            all_goals (case rel => exact ⟨L, _, true, 0, rfl, rfl, rfl, rfl, rfl, Lib.hid h5H.out.drop, Lib.hid (by have := hLl.out; omega)⟩)
        case rest =>
          obtain ⟨L', v6', p, a, rfl, rfl, rfl, rfl, rfl, hT', hL'⟩ := hcut
          obtain ⟨A6, c6, rfl⟩ := hT'.out.rows.len
          have hn6 : Hid (L'.length ≤ 1000) := Lib.hid (by have := hL'.out; have := h2H.out; have := hjlH.out; omega)
          have hl1 := Lib.hid (hT'.out.len rfl)
          have hl2 := Lib.hid hT'.out.all_
          clear q0 q1 q2 hTo hT hLl
          go_wp2_with (first
            | (go_at_call 24; ((with_reducible refine (hl1.out).mono ?_); rintro e w' ⟨rfl, rfl⟩))
            | (go_at_call 25; ((with_reducible refine (hl2.out).mono ?_); rintro e w5 ⟨v5, rfl, hs5, h5⟩; have hs5H := Lib.hid hs5; have h5H := Lib.hid h5; clear hs5 h5))
            | (go_at_call 22; ((with_reducible refine (h5H.out.equal hs5H.out h5H.out.rows.src hn6.out).mono ?_); rintro e w6 ⟨rfl, h6⟩; have h6H := Lib.hid h6; clear h6)))
          go_roundw
          case rel => exact ⟨j + 1, L', _, hjlH.out, by go_num, rfl, h6H.out, Lib.hid (by have := hL'.out; omega)⟩
          case measure => have := hjlH.out; simp [intOf]; omega
      · have hjn : j = os.length := by omega
        subst hjn
        clear hjl
        go_wp2_with (go_at_call 6; ((with_reducible refine (hal.out _).mono ?_); rintro e w9 ⟨rfl, hO9⟩; have hO9H := Lib.hid hO9; clear hO9))
        go_ret
        exact ⟨rfl, (hT.out.most.trans hO9H.out (by simp)).below (Nat.le_refl _) (by simp)⟩
  · by_cases h1 : l.length ≤ 300
    · have hd1 : decide ((300 : Int) < (l.length : Int)) = false := decide_eq_false (by omega)
      have hd3 : decide (300 < l.length) = false := decide_eq_false (by omega)
      have hd2 : decide ((300 : Int) < (os.length : Int)) = true := decide_eq_true (by omega)
      have hd4 : decide (300 < os.length) = true := decide_eq_true (by omega)
      clear hl ho hrg h1 hsz hll hol
      go_enter Try.func3, Try.ntmps3
      go_wp2_with (go_at_call 6; ((with_reducible refine (hal.out _).mono ?_); rintro e w9 ⟨rfl, hO9⟩; have hO9H := Lib.hid hO9; clear hO9))
      go_ret
      exact ⟨rfl, hO9H.out.below (Nat.le_refl _) (by simp)⟩
    · have hd1 : decide ((300 : Int) < (l.length : Int)) = true := decide_eq_true (by omega)
      have hd3 : decide (300 < l.length) = true := decide_eq_true (by omega)
      clear hl ho hrg h1 hsz hll hol
      go_enter Try.func3, Try.ntmps3
      go_wp2_with (go_at_call 6; ((with_reducible refine (hal.out _).mono ?_); rintro e w9 ⟨rfl, hO9⟩; have hO9H := Lib.hid hO9; clear hO9))
      go_ret
      exact ⟨rfl, hO9H.out.below (Nat.le_refl _) (by simp)⟩

end Go.Proofs.Ytnmcedkinacbpaa
