/-
  The law of lists that are turned.
-/
import Derived.Test.YtnmcedkinacbpaaS
namespace Go.Proofs.Ytnmcedkinacbpaa
open Go.RowKit

theorem pushF_back (v : Int) (L : List Int) : pushF false v L = L ++ [v] := rfl
theorem pushF_front (v : Int) (L : List Int) : pushF true v L = v :: L := rfl
theorem take_rev {l : List Int} {i : Nat} {x : Int} (h : l[i]? = some x) : l.take (i + 1) = l.take i ++ [x] ∧ (l.take (i + 1)).reverse = x :: (l.take i).reverse := by
  have e : l.take (i + 1) = l.take i ++ [x] := by rw [List.take_add_one, h]; rfl
  exact ⟨e, by rw [e]; simp⟩

theorem popF_le (fr : Bool) (L : List Int) : (popF fr L).length ≤ L.length := by unfold popF; cases fr <;> simp
variable {w0 w : World} {D E : Nat} {L : List Int} {K : List (Nat × Obj)}
theorem tw_a (h : Twin w0 w D E L L.reverse K) (hl : L.length < 1048576) (fr : Bool) (v : Int) :
    Calls Try.prog 8 #[.pointer (some ⟨D, 0, none⟩), .bool fr, .int .i64 v] w fun e w' => e = .returned (.bool true) ∧ Twin w0 w' D E (pushF fr v L) L.reverse K := h.pushD hl fr v
theorem tw_b (fr : Bool) (v : Int) (h : Twin w0 w D E (pushF fr v L) L.reverse K) (hl : L.length < 1048576) :
    Calls Try.prog 8 #[.pointer (some ⟨E, 0, none⟩), .bool (!fr), .int .i64 v] w fun e w' => e = .returned (.bool true) ∧ Twin w0 w' D E (pushF fr v L) (pushF fr v L).reverse K := by
  have := h.pushE (by rw [List.length_reverse]; exact hl) (!fr) v
  rw [push_rev] at this
  exact this
theorem tw_c (fr : Bool) (v : Int) (h : Twin w0 w D E (pushF fr v L) (pushF fr v L).reverse K) :
    Calls Try.prog 10 #[.pointer (some ⟨D, 0, none⟩), .bool fr] w fun e w' => e = .returned (.tuple #[.int .i64 v, .bool true]) ∧ Twin w0 w' D E L (pushF fr v L).reverse K := by
  have := h.popD fr
  obtain ⟨e1, e2, e3⟩ := pop_push fr v L
  rw [e1, e2, e3] at this
  exact this
theorem tw_d (fr : Bool) (v : Int) (h : Twin w0 w D E L (pushF fr v L).reverse K) (hl : L.length < 1048576) :
    Calls Try.prog 8 #[.pointer (some ⟨D, 0, none⟩), .bool fr, .int .i64 v] w fun e w' => e = .returned (.bool true) ∧ Twin w0 w' D E (pushF fr v L) (pushF fr v L).reverse K := h.pushD hl fr v
theorem tw_e (fr : Bool) (h : Twin w0 w D E (popF fr L) L.reverse K) :
    Calls Try.prog 10 #[.pointer (some ⟨E, 0, none⟩), .bool (!fr)] w fun e w' => e = .returned (.tuple #[.int .i64 (popV fr L), .bool (decide (0 < L.length))]) ∧ Twin w0 w' D E (popF fr L) (popF fr L).reverse K := by
  have := h.popE (!fr)
  obtain ⟨e1, e2⟩ := pop_rev fr L
  rw [e1, e2, List.length_reverse] at this
  exact this

theorem tw_allG (h : Twin w0 w D E L L.reverse K) :
    Calls Try.prog 25 #[.pointer (some ⟨D, 0, none⟩)] w fun e w' => ∃ A c, e = .returned (.slice A L.length c) ∧ RowI w' w.heap.size (.slice A L.length c) L ∧ Twin w0 w' D E L L.reverse K ∧ Only [] w w' := by
  have h' := h
  obtain ⟨g, N, f, g', N', f', h1, _⟩ := h
  refine (all_any h1).mono ?_
  rintro e w' ⟨v, rfl, k1, k2⟩
  obtain ⟨A, c, rfl⟩ := k1.len
  exact ⟨A, c, rfl, k1, h'.same k2, k2⟩
theorem tw_all {n : Nat} (hn : n = L.length) (h : Twin w0 w D E L L.reverse K) :
    Calls Try.prog 25 #[.pointer (some ⟨D, 0, none⟩)] w fun e w' => ∃ A c, e = .returned (.slice A n c) ∧ RowI w' w.heap.size (.slice A n c) L ∧ Twin w0 w' D E L L.reverse K ∧ Only [] w w' := by
  subst hn
  exact tw_allG h
theorem tw_all2 {n : Nat} (hn : n = L.length) (h : Twin w0 w D E L L.reverse K) :
    Calls Try.prog 25 #[.pointer (some ⟨E, 0, none⟩)] w fun e w' => ∃ A c, e = .returned (.slice A n c) ∧ RowI w' w.heap.size (.slice A n c) L.reverse ∧ Twin w0 w' D E L L.reverse K ∧ Only [] w w' := by
  have h' := h
  obtain ⟨g, N, f, g', N', f', _, h2, _⟩ := h
  refine (all_any h2).mono ?_
  rintro e w' ⟨v, rfl, k1, k2⟩
  obtain ⟨A, c, rfl⟩ := k1.len
  rw [List.length_reverse, ← hn] at k1
  exact ⟨A, c, by rw [List.length_reverse, ← hn], k1, h'.same k2, k2⟩
theorem row_at {B n c k : Nat} {A : Option Addr} (h : RowI w B (.slice A n c) L) (hk : k < L.length) : ∃ g, A = some ⟨g, 0, none⟩ ∧ w.cell? ⟨g, k, none⟩ = some (.int .i64 (nth L k)) := by
  rcases h.form with ⟨_, rfl⟩ | ⟨g, cap, he, _, _, _, hc⟩
  · simp at hk
  · cases he
    exact ⟨g, rfl, (hc k _ (nth_at hk)).1⟩
theorem tw_at {n i : Nat} (h : Twin w0 w D E L L.reverse K) (hn : n = L.length) (hi : i < n) (hs : n ≤ 1000000) :
    Calls Try.prog 12 #[.pointer (some ⟨D, 0, none⟩), .int .i64 (i : Int)] w fun e w' => e = .returned (.tuple #[.int .i64 (nth L i), .bool true]) ∧ Twin w0 w' D E L L.reverse K ∧ Only [] w w' := by
  have h' := h
  obtain ⟨g, N, f, g', N', f', h1, _⟩ := h
  have hf : fromEnd L.length (i : Int) = (i : Int) := by unfold fromEnd; rw [if_neg (by omega)]
  have := at_some h1 (i : Int) (by unfold inI64; omega) (by unfold InR; rw [hf]; omega)
  rw [hf, Int.toNat_natCast] at this
  refine this.mono ?_
  rintro e w' ⟨rfl, k, rfl⟩
  exact ⟨rfl, h'.same ((Only.refl [] _).drewN k), (Only.refl [] _).drewN k⟩
theorem tw_at2 {n i : Nat} (h : Twin w0 w D E L L.reverse K) (hn : n = L.length) (hi : i < n) (hs : n ≤ 1000000) :
    Calls Try.prog 12 #[.pointer (some ⟨E, 0, none⟩), .int .i64 (-1 - (i : Int))] w fun e w' => e = .returned (.tuple #[.int .i64 (nth L i), .bool true]) ∧ Twin w0 w' D E L L.reverse K ∧ Only [] w w' := by
  have h' := h
  obtain ⟨g, N, f, g', N', f', _, h2, _⟩ := h
  have hf : fromEnd L.reverse.length (-1 - (i : Int)) = ((n - 1 - i : Nat) : Int) := by
    unfold fromEnd
    rw [if_pos (by omega), List.length_reverse]
    omega
  have := at_some h2 (-1 - (i : Int)) (by unfold inI64; omega) (by unfold InR; rw [hf, List.length_reverse]; omega)
  rw [hf, Int.toNat_natCast, nth_rev _ _ (by omega), show L.length - 1 - (n - 1 - i) = i by omega] at this
  refine this.mono ?_
  rintro e w' ⟨rfl, k, rfl⟩
  exact ⟨rfl, h'.same ((Only.refl [] _).drewN k), (Only.refl [] _).drewN k⟩

set_option maxRecDepth 100000 in
set_option maxHeartbeats 8000000 in
theorem turned_any (w : World) (A : Option Addr) (c : Nat) (l : List Int) (B : Option Addr) (c2 : Nat) (os : List Op3) (hl : SrcI w (.slice A l.length c) l) (ho : OpsAt w w.heap.size B os) (hll : l.length ≤ 140737488355328) (hol : os.length ≤ 140737488355328) :
    Calls Try.prog 4 #[.slice A l.length c, .slice B os.length c2] w fun e w' => e = .returned (.bool true) ∧ Below w.heap.size w w' := by
  have hal := Lib.hid alive_any
  by_cases hsz : l.length ≤ 300 ∧ os.length ≤ 300
  · obtain ⟨h1, h2⟩ := hsz
    have hd1 : decide ((300 : Int) < (l.length : Int)) = false := decide_eq_false (by omega)
    have hd2 : decide ((300 : Int) < (os.length : Int)) = false := decide_eq_false (by omega)
    have hd3 : decide (300 < l.length) = false := decide_eq_false (by omega)
    have hd4 : decide (300 < os.length) = false := decide_eq_false (by omega)
    have hlH := Lib.hid hl
    have hoH := Lib.hid ho
    have h1H := Lib.hid h1
    have h2H := Lib.hid h2
    have hN1 := Lib.hid (new_any (w := w) (v := .slice none 0 0) (L := []) (Or.inl ⟨rfl, rfl⟩) (by simp))
    have hN2 := Lib.hid (fun w1 => new_any (w := w1) (v := .slice none 0 0) (L := []) (Or.inl ⟨rfl, rfl⟩) (by simp))
    clear hl ho h1 h2 hll hol
    go_enter Try.func4, Try.ntmps4
    go_wp2_with (first
      | (go_at_call 7; ((with_reducible refine (hN1.out).mono ?_); rintro e w1 ⟨D, g, rfl, hq1, hq2, hq3, hq4⟩; have hQ1 := Lib.hid hq1; have hQ2 := Lib.hid hq2; have hQ3 := Lib.hid hq3; have hQ4 := Lib.hid hq4; clear hq1 hq2 hq3 hq4))
      | (go_at_call 7; ((with_reducible refine (hN2.out w1).mono ?_); rintro e w2 ⟨E, g', rfl, hq1, hq2, hq3, hq4⟩; have hTw := Lib.hid (Twin.new (Only.refl [] w) hQ1.out hQ2.out hQ3.out hQ4.out hq1 hq2 hq3 hq4); clear hq1 hq2 hq3 hq4)))
    go_loopw [38] (fun s38 wr => ∃ i : Nat, i ≤ l.length ∧ s38 = .int .i64 i ∧ Hid (Twin w wr D E (l.take i) (l.take i).reverse [])) (fun s38 _ => l.length - (intOf s38).toNat)
    case atStart => exact ⟨0, by omega, rfl, Lib.hid (by simpa using hTw.out)⟩
    case round =>
      obtain ⟨i, hi, rfl, hT⟩ := hrel
      by_cases hil : i < l.length
      · obtain ⟨x, hx⟩ : ∃ x, l[i]? = some x := ⟨_, List.getElem?_eq_getElem hil⟩
        obtain ⟨ad, rfl, e1⟩ : ∃ ad, A = some ad ∧ wr.cell? (ad.add i) = some (.int .i64 x) := by
          obtain ⟨ad, h1, h2⟩ := (hlH.out.none hT.out.most).cells (by omega)
          exact ⟨ad, h1, h2 i _ (vals_at hx)⟩
        have htk := Lib.hid (take_rev hx)
        have hilH := Lib.hid hil
        have hwi : wrap64 ((i : Int) + 1) = (i : Int) + 1 := IntWalk.wrap64_in _ (by have := h1H.out; omega)
        have hwi2 := wrap_small (x := (i : Int) + 1) (by have := h1H.out; omega)
        have hln : Hid ((l.take i).length < 1048576) := Lib.hid (by rw [List.length_take]; have := h1H.out; omega)
        have hP1 := Lib.hid (hT.out.pushD hln.out false x)
        have hP2 := Lib.hid (fun w3 (h : Twin w w3 D E (pushF false x (l.take i)) (l.take i).reverse []) => h.pushE (by rw [List.length_reverse]; exact hln.out) true x)
        clear hx
        go_wp2_with (first
          | (go_at_call 8; ((with_reducible refine (hP1.out).mono ?_); rintro e w3 ⟨rfl, h3⟩; have hT3 := Lib.hid h3; clear h3))
          | (go_at_call 8; ((with_reducible refine (hP2.out w3 hT3.out).mono ?_); rintro e w4 ⟨rfl, h4⟩; have hT4 := Lib.hid h4; clear h4)))
        go_roundw
        case rel => exact ⟨i + 1, hilH.out, by go_num, Lib.hid (by rw [htk.out.2, htk.out.1]; exact hT4.out)⟩
        case measure => have := hilH.out; simp [intOf]; omega
      · have hin : i = l.length := by omega
        subst hin
        have hT0 := hT.out
        rw [List.take_length] at hT0
        have hTH := Lib.hid hT0
        clear hT0 hT hTw hQ1 hQ2 hQ3 hQ4 hN1 hN2 hil
        go_wp2_with fail
        go_loopw [55] (fun s55 wr2 => ∃ (j : Nat) (L : List Int), j ≤ os.length ∧ s55 = .int .i64 j ∧ Hid (Twin w wr2 D E L L.reverse []) ∧ Hid (L.length ≤ 300 + j)) (fun s55 _ => os.length - (intOf s55).toNat)
        case atStart => exact ⟨0, l, by omega, rfl, hTH, Lib.hid (by have := h1H.out; omega)⟩
        case round =>
          obtain ⟨j, L, hj, rfl, hT2, hLl⟩ := hrel
          by_cases hjl : j < os.length
          · obtain ⟨y, hy⟩ : ∃ y, os[j]? = some y := ⟨_, List.getElem?_eq_getElem hjl⟩
            obtain ⟨a2, rfl, ha, x1, x2, x3⟩ := hoH.out.on (hT2.out.most.below (Nat.le_refl _) (by simp)) j y hy
            obtain ⟨kd, iv, v⟩ := y
            simp only at x1 x2 x3
            have hjlH := Lib.hid hjl
            clear hy
            have hwj : wrap64 ((j : Int) + 1) = (j : Int) + 1 := IntWalk.wrap64_in _ (by have := h2H.out; omega)
            have hwj2 := wrap_small (x := (j : Int) + 1) (by have := h2H.out; omega)
            obtain ⟨fr, hfr⟩ : ∃ fr, (bits BinOp.and IntKind.i64 kd 1 == 1) = fr := ⟨_, rfl⟩
            have hLs : Hid (L.length < 1048576) := Lib.hid (by have := hLl.out; have := h2H.out; omega)
            have hTm := Lib.hid (hT2.out.make #[.int .i64 kd, .int .i64 iv, .int .i64 v] 28)
            by_cases hb2 : (bits BinOp.and IntKind.i64 kd 2 == 0) = true
            · have hS1 := Lib.hid (tw_a hTm.out hLs.out fr v)
              have hS2 := Lib.hid (fun w3 h => tw_b (w := w3) (w0 := w) (D := D) (E := E) (L := L) (K := [(wr.heap.size, .cells #[.int .i64 kd, .int .i64 iv, .int .i64 v] 28)]) fr v h hLs.out)
              have hS3 := Lib.hid (fun w4 h => tw_c (w := w4) (w0 := w) (D := D) (E := E) (L := L) (K := [(wr.heap.size, .cells #[.int .i64 kd, .int .i64 iv, .int .i64 v] 28)]) fr v h)
              have hS4 := Lib.hid (fun w5 h => tw_d (w := w5) (w0 := w) (D := D) (E := E) (L := L) (K := [(wr.heap.size, .cells #[.int .i64 kd, .int .i64 iv, .int .i64 v] 28)]) fr v h hLs.out)
              go_wp2_with (first
                | (go_at_call 8; ((with_reducible refine (hS1.out).mono ?_); rintro e w3 ⟨rfl, h3⟩; have hT3 := Lib.hid h3; have y3 : w3.cell? ⟨wr.heap.size, 2, none⟩ = some (.int .i64 v) := h3.cells 2; clear h3))
                | (go_at_call 8; ((with_reducible refine (hS2.out w3 hT3.out).mono ?_); rintro e w4 ⟨rfl, h4⟩; have hT4 := Lib.hid h4; have y4 : w4.cell? ⟨wr.heap.size, 2, none⟩ = some (.int .i64 v) := h4.cells 2; clear h4))
                | (go_at_call 10; ((with_reducible refine (hS3.out w4 hT4.out).mono ?_); rintro e w5 ⟨rfl, h5⟩; have hT5 := Lib.hid h5; have y5 : w5.cell? ⟨wr.heap.size, 2, none⟩ = some (.int .i64 v) := h5.cells 2; clear h5))
                | (go_at_call 8; ((with_reducible refine (hS4.out w5 hT5.out).mono ?_); rintro e w6 ⟨rfl, h6⟩; have hT6 := Lib.hid h6; clear h6)))
              go_roundw
              case rel => exact ⟨j + 1, pushF fr v L, hjlH.out, by go_num, Lib.hid hT6.out.drop, Lib.hid (by rw [pushF_len]; have := hLl.out; omega)⟩
              case measure => have := hjlH.out; simp [intOf]; omega
            · have hb2 : (bits BinOp.and IntKind.i64 kd 2 == 0) = false := by simpa using hb2
              have hS1 := Lib.hid (hTm.out.popD fr)
              have hS2 := Lib.hid (fun w3 h => tw_e (w := w3) (w0 := w) (D := D) (E := E) (L := L) (K := [(wr.heap.size, .cells #[.int .i64 kd, .int .i64 iv, .int .i64 v] 28)]) fr h)
              generalize popV fr L = xv at *
              generalize decide (0 < L.length) = bp at *
              go_wp2_with (first
                | (go_at_call 10; ((with_reducible refine (hS1.out).mono ?_); rintro e w3 ⟨rfl, h3⟩; have hT3 := Lib.hid h3; clear h3))
                | (go_at_call 10; ((with_reducible refine (hS2.out w3 hT3.out).mono ?_); rintro e w4 ⟨rfl, h4⟩; have hT4 := Lib.hid h4; clear h4)))
              go_roundw
              case rel => exact ⟨j + 1, popF fr L, hjlH.out, by go_num, Lib.hid hT4.out.drop, Lib.hid (by have := hLl.out; have := popF_le fr L; omega)⟩
              case measure => have := hjlH.out; simp [intOf]; omega
          · have hjn : j = os.length := by omega
            subst hjn
            obtain ⟨n, hn⟩ : ∃ n, n = L.length := ⟨_, rfl⟩
            have hnH := Lib.hid hn
            have hn6 : Hid (n ≤ 600) := Lib.hid (by have := hLl.out; have := h2H.out; omega)
            have hA1 := Lib.hid (tw_all hn hT2.out)
            have hA2 := Lib.hid (fun w3 (h : Twin w w3 D E L L.reverse []) => tw_all2 hn h)
            clear hn hjl
            go_wp2_with (first
              | (go_at_call 25; ((with_reducible refine (hA1.out).mono ?_); rintro e w3 ⟨A3, c3, rfl, hR3, hT3, hO3⟩; have hR3H := Lib.hid hR3; have hT3H := Lib.hid hT3; clear hR3 hT3 hO3))
              | (go_at_call 25; ((with_reducible refine (hA2.out w3 hT3H.out).mono ?_); rintro e w4 ⟨A4, c4, rfl, hR4, hT4, hO4⟩; have hR4H := Lib.hid hR4; have hT4H := Lib.hid hT4; have hR3b := Lib.hid (hR3H.out.none hO4); clear hR4 hT4 hO4)))
            go_loopw [132] (fun s132 wr3 => ∃ i : Nat, i ≤ n ∧ s132 = .int .i64 i ∧ Hid (Twin w wr3 D E L L.reverse []) ∧ Hid (Only [] w4 wr3)) (fun s132 _ => n - (intOf s132).toNat)
            case atStart => exact ⟨0, by omega, rfl, hT4H, Lib.hid (Only.refl _ _)⟩
            case round =>
              obtain ⟨i, hi, rfl, hT5, hO5⟩ := hrel
              by_cases hil : i < n
              · obtain ⟨ga, rfl, za⟩ := row_at (hR3b.out.none hO5.out) (k := i) (by rw [← hnH.out]; exact hil)
                obtain ⟨gb, rfl, zb⟩ := row_at (hR4H.out.none hO5.out) (k := n - 1 - i) (by rw [List.length_reverse, ← hnH.out]; omega)
                rw [nth_rev _ _ (by rw [← hnH.out]; omega), ← hnH.out, show n - 1 - (n - 1 - i) = i by omega] at zb
                have hix := run_ix ga i n c3 hil
                have hix2 : ∀ w, Sem.run Try.prog (Instr.indexAt 22 (.slice (some ⟨gb, 0, none⟩) n c4) (.int .i64 ((n : Int) - 1 - (i : Int)))) w = .ok (.pointer (some ⟨gb, n - 1 - i, none⟩)) w := fun w => by
                  have := run_ix gb (n - 1 - i) n c4 (by omega) w
                  rw [show ((n - 1 - i : Nat) : Int) = (n : Int) - 1 - (i : Int) by omega] at this
                  exact this
                have hw1 := wrap_small (x := (n : Int) - 1) (by have := hn6.out; omega)
                have hw2 := wrap_small (x := (n : Int) - 1 - (i : Int)) (by have := hn6.out; omega)
                have hw3 := wrap_small (x := (-1 : Int) - (i : Int)) (by have := hn6.out; omega)
                have hwi : wrap64 ((i : Int) + 1) = (i : Int) + 1 := IntWalk.wrap64_in _ (by have := hn6.out; omega)
                have hwi2 := wrap_small (x := (i : Int) + 1) (by have := hn6.out; omega)
                have hS1 := Lib.hid (tw_at hT5.out hnH.out hil (by have := hn6.out; omega))
                have hS2 := Lib.hid (fun w5 (h : Twin w w5 D E L L.reverse []) => tw_at2 h hnH.out hil (by have := hn6.out; omega))
                have hilH := Lib.hid hil
                have hd0 : decide ((i : Int) < (n : Int)) = true := decide_eq_true (by omega)
                have hd1 : decide (i < n) = true := decide_eq_true hil
                have hga := Lib.hid ((hR3b.out.none hO5.out).lt ga rfl).2
                have hgb := Lib.hid ((hR4H.out.none hO5.out).lt gb rfl).2
                generalize nth L i = x at *
                clear hil hi
                go_wp2_with (first
                  | (go_at_call 12; ((with_reducible refine (hS1.out).mono ?_); rintro e w5 ⟨rfl, hT6, hO6⟩; have za2 := (World.cell?_of_block (a := ⟨ga, i, none⟩) (hO6.2 ga hga.out (by simp))).trans za; have zb2 := (World.cell?_of_block (a := ⟨gb, n - 1 - i, none⟩) (hO6.2 gb hgb.out (by simp))).trans zb; have hga2 := Lib.hid (Nat.lt_of_lt_of_le hga.out hO6.size); have hgb2 := Lib.hid (Nat.lt_of_lt_of_le hgb.out hO6.size); have hT6H := Lib.hid hT6; have hO6H := Lib.hid (hO5.out.trans hO6 (by simp)); clear hT6 hO6))
                  | (go_at_call 12; ((with_reducible refine (hS2.out w5 hT6H.out).mono ?_); rintro e w6 ⟨rfl, hT7, hO7⟩; have za3 := (World.cell?_of_block (a := ⟨ga, i, none⟩) (hO7.2 ga hga2.out (by simp))).trans za2; have zb3 := (World.cell?_of_block (a := ⟨gb, n - 1 - i, none⟩) (hO7.2 gb hgb2.out (by simp))).trans zb2; have hT7H := Lib.hid hT7; have hO7H := Lib.hid (hO6H.out.trans hO7 (by simp)); clear hT7 hO7)))
                go_quiet (fail)
                go_wp2_with fail
                go_roundw
                case rel => exact ⟨i + 1, hilH.out, by go_num, Lib.hid (hT7H.out.same ((Only.refl [] _).drewN _)), Lib.hid (hO7H.out.drewN _)⟩
                case measure => have := hilH.out; simp [intOf]; omega
              · have hin : i = n := by omega
                subst hin
                clear hil
                go_wp2_with (go_at_call 6; ((with_reducible refine (hal.out _).mono ?_); rintro e w9 ⟨rfl, hO9⟩; have hO9H := Lib.hid hO9; clear hO9))
                go_ret
                exact ⟨rfl, (hT5.out.most.trans hO9H.out (by simp)).below (Nat.le_refl _) (by simp)⟩
  · by_cases h1 : l.length ≤ 300
    · have hd1 : decide ((300 : Int) < (l.length : Int)) = false := decide_eq_false (by omega)
      have hd3 : decide (300 < l.length) = false := decide_eq_false (by omega)
      have hd2 : decide ((300 : Int) < (os.length : Int)) = true := decide_eq_true (by omega)
      have hd4 : decide (300 < os.length) = true := decide_eq_true (by omega)
      clear hl ho h1 hsz hll hol
      go_enter Try.func4, Try.ntmps4
      go_wp2_with (go_at_call 6; ((with_reducible refine (hal.out _).mono ?_); rintro e w9 ⟨rfl, hO9⟩; have hO9H := Lib.hid hO9; clear hO9))
      go_ret
      exact ⟨rfl, hO9H.out.below (Nat.le_refl _) (by simp)⟩
    · have hd1 : decide ((300 : Int) < (l.length : Int)) = true := decide_eq_true (by omega)
      have hd3 : decide (300 < l.length) = true := decide_eq_true (by omega)
      clear hl ho h1 hsz hll hol
      go_enter Try.func4, Try.ntmps4
      go_wp2_with (go_at_call 6; ((with_reducible refine (hal.out _).mono ?_); rintro e w9 ⟨rfl, hO9⟩; have hO9H := Lib.hid hO9; clear hO9))
      go_ret
      exact ⟨rfl, hO9H.out.below (Nat.le_refl _) (by simp)⟩

end Go.Proofs.Ytnmcedkinacbpaa
