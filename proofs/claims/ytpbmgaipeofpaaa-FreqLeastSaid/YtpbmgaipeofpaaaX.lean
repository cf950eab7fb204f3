/-
  The law Plays: each answer, and all keys in order, is the document's.
-/
import Derived.Test.YtpbmgaipeofpaaaW
import Derived.Deep.CutBlock
namespace Go.Proofs.Ytpbmgaipeofpaaa
open Go.RowKit

def longF (l : List OpD) (key : ByteArray) : Bool := farF l || decide (200 < key.size)
theorem Ply.rsame {w0 w : World} {p : Nat} {r : Value} {L R : List Sc} {K : List (Nat × Obj)} {v v' : Value} {M : List ByteArray} (h : Ply w0 w p r L R K) (hv : ∃ B, RowT w B v M) (hv' : ∃ B, RowT w B v' M) (hn : M.length ≤ 1000000) :
    Calls Try.prog 21 #[v, v'] w fun e w' => e = .returned (.bool true) ∧ Ply w0 w' p r L R K := by
  obtain ⟨B, hv⟩ := hv
  obtain ⟨B', hv'⟩ := hv'
  exact (tsame_any hv hv' hn).mono fun _ _ ⟨he, ho⟩ => ⟨he, h.same ho⟩
theorem RowT.first {W : World} {B g n c : Nat} {M : List ByteArray} {x : ByteArray} (h : RowT W B (.slice (some ⟨g, 0, none⟩) n c) M) (hx : M[0]? = some x) : W.cell? ⟨g, 0, none⟩ = some (.string x) := by
  obtain ⟨g', c', he, _, _, hc⟩ := h.cell hx
  injection he with e1 _ _
  injection e1 with e1
  injection e1 with e1
  subst e1
  exact hc
theorem Ply.least1 {w0 w : World} {p : Nat} {r : Value} {L R : List Sc} {K : List (Nat × Obj)} (h : Ply w0 w p r L R K) : Calls Try.prog 20 #[.pointer (some ⟨p, 0, none⟩)] w fun e w' => e = .returned (.tuple #[.string ((allF L).headD ⟨#[]⟩), .bool (decide (0 < (allF L).length))]) ∧ Only [] w w' := by
  obtain ⟨O, h1, _⟩ := h
  exact h1.least
theorem Ply.all1 {w0 w : World} {p : Nat} {r : Value} {L R : List Sc} {K : List (Nat × Obj)} (h : Ply w0 w p r L R K) : Calls Try.prog 22 #[.pointer (some ⟨p, 0, none⟩)] w fun e w' => ∃ v', e = .returned v' ∧ (∃ B, RowT w' B v' (allF L)) ∧ Only [] w w' := by
  obtain ⟨O, h1, _⟩ := h
  exact (h1.all).mono fun _ _ ⟨v', he, hr, ho⟩ => ⟨v', he, ⟨_, hr⟩, ho⟩
set_option maxRecDepth 100000 in
set_option maxHeartbeats 64000000 in
theorem plays_any (w : World) (A : Option Addr) (c : Nat) (l : List OpD) (key : ByteArray) (hO : OpsAt w w.heap.size A l) (hsz : ∀ o ∈ l, o.2.size ≤ maxLen) (hl : l.length ≤ 140737488355328) (hk : key.size ≤ maxLen) :
    Calls Try.prog 3 #[.slice A l.length c, .string key] w fun e w' => e = .returned (.bool true) ∧ Below w.heap.size w w' := by
  have hfar := Lib.hid (far_any (c := c) hO hl hsz)
  cases hf : longF l key with
  | true =>
    have hal : Hid (∀ W, Only [] w W → Calls Try.prog 8 #[] W fun e w' => e = .returned (.bool true) ∧ Only [] w w') := Lib.hid (fun W h => (alive_any W).mono fun _ _ ⟨he, ho⟩ => ⟨he, only_nil h ho⟩)
    cases hf1 : farF l with
    | true =>
      rw [hf1] at hfar
      clear hO hsz hl hf hf1
      generalize l.length = n at *
      go_enter Try.func3, Try.ntmps3
      go_wp2_with (first
        | (go_at_call 7; ((with_reducible refine (hfar.out).mono ?_); rintro e w2 ⟨rfl, h2⟩; have h2H := Lib.hid h2; clear h2))
        | (go_at_call 8; ((with_reducible refine (hal.out _ h2H.out).mono ?_); rintro e w3 ⟨rfl, h3⟩; have h3H := Lib.hid h3; clear h3)))
      all_goals go_ret
      exact ⟨rfl, h3H.out.below (Nat.le_refl _) (by simp)⟩
    | false =>
      rw [hf1] at hfar
      unfold longF at hf
      rw [hf1, Bool.false_or] at hf
      have hk2 := of_decide_eq_true hf
      have hd : decide ((200 : Int) < (key.size : Int)) = true := decide_eq_true (by omega)
      have hd2 : decide (200 < key.size) = true := hf
      clear hO hsz hl hf hf1 hk2 hk
      generalize l.length = n at *
      go_enter Try.func3, Try.ntmps3
      go_wp2_with (first
        | (go_at_call 7; ((with_reducible refine (hfar.out).mono ?_); rintro e w2 ⟨rfl, h2⟩; have h2H := Lib.hid h2; clear h2))
        | (go_at_call 8; ((with_reducible refine (hal.out _ h2H.out).mono ?_); rintro e w3 ⟨rfl, h3⟩; have h3H := Lib.hid h3; clear h3)))
      all_goals go_ret
      exact ⟨rfl, h3H.out.below (Nat.le_refl _) (by simp)⟩
  | false =>
    unfold longF at hf
    rw [Bool.or_eq_false_iff] at hf
    obtain ⟨hf1, hf2⟩ := hf
    rw [hf1] at hfar
    have hk2 := of_decide_eq_false hf2
    have hd : decide ((200 : Int) < (key.size : Int)) = false := decide_eq_false (by omega)
    have hkH := Lib.hid hk
    obtain ⟨hn300, hk200⟩ := farF_no hf1
    have hkey : Hid (∀ o ∈ l, o.2.size ≤ maxLen) := Lib.hid hsz
    have hOH := Lib.hid hO
    obtain ⟨n, hnn⟩ : ∃ n, n = l.length := ⟨_, rfl⟩
    have hnH := Lib.hid hnn
    rw [← hnn] at hfar ⊢
    have hnew := Lib.hid (fun w2 (h2 : Only [] w w2) => pl_new h2)
    have hnb : n ≤ 400 := by omega
    clear hO hsz hl hn300 hk200 hnn hf1 hk2 hk
    go_enter Try.func3, Try.ntmps3
    go_upto_region 6 with (first
      | (go_at_call 7; ((with_reducible refine (hfar.out).mono ?_); rintro e w2 ⟨rfl, h2⟩; have hnw := Lib.hid (hnew.out w2 h2); clear h2))
      | (go_at_call 9; ((with_reducible refine (hnw.out).mono ?_); rintro e w3 ⟨D, O3, rfl, h3, _⟩; have h3H := Lib.hid (Ply.start h3); clear h3)))
    clear hnw hnew hfar hd hf2
    go_loopw [6, 27] (fun s6 s27 wr => ∃ (j : Nat) (L : List Sc) (v6 : Value), j ≤ n ∧ s27 = .int .i64 j ∧ v6 = s6 ∧ Hid (Ply w wr D v6 L L []) ∧ Hid (L.length ≤ j)) (fun _ s27 _ => n - (intOf s27).toNat)
    case atStart => exact ⟨0, [], _, by omega, rfl, rfl, h3H, Lib.hid (Nat.le_refl _)⟩
    case round =>
      obtain ⟨j, L, v6, hj, rfl, rfl, hT, hLl⟩ := hrel
      by_cases hjl : j < n
      · obtain ⟨y, hy⟩ : ∃ y, l[j]? = some y := ⟨_, List.getElem?_eq_getElem (by have := hnH.out; omega)⟩
        obtain ⟨a, rfl⟩ := hOH.out.form (by have := hnH.out; omega)
        obtain ⟨x0, x1⟩ := hOH.out.get (hT.out.most.below (Nat.le_refl _) (by simp)) hy
        have hyk := Lib.hid (hkey.out y (List.mem_of_getElem? hy))
        obtain ⟨kd, ya⟩ := y
        simp only at x0 x1 hyk
        have hjlH := Lib.hid hjl
        have hlt : decide ((j : Int) < (n : Int)) = true := decide_eq_true (by omega)
        have hltn : decide (j < n) = true := decide_eq_true hjl
        have hwk := wrap_small (x := (j : Int) + 1) (by omega)
        have hL6 : Hid (L.length ≤ 400) := Lib.hid (by have := hLl.out; omega)
        have hTm := Lib.hid (hT.out.make #[.int .i64 kd, .string ya] 29)
        clear hy hkey hOH
        go_upto_block 2 with fail
        generalize hwo : wr.alloc (.cells #[.int .i64 kd, .string ya] 29) = wo at *
        generalize hb0 : wr.heap.size = b0 at *
        clear hwo hb0
        have q0 : wo.cell? ⟨b0, 0, none⟩ = some (.int .i64 kd) := hTm.out.cell (List.mem_cons_self ..) 0
        have q1 : wo.cell? ⟨b0, 1, none⟩ = some (.string ya) := hTm.out.cell (List.mem_cons_self ..) 1
        have hTo := hTm
        clear hTm x0 x1 hT
        have hl6 : Hid (L.length ≤ 1000000) := Lib.hid (by have := hL6.out; omega)
        go_cut [6, 9, 10, 11, 12] from 34 to 66 (fun s6 s9 s10 s11 s12 wx => ∃ (L' : List Sc) (v6' : Value) (x : Int) (p : Bool), v6' = s6 ∧ s9 = .int .i64 x ∧ s10 = .int .i64 x ∧ s11 = .bool p ∧ s12 = .bool p ∧ Hid (Ply w wx D v6' L' L' []) ∧ Hid (L'.length ≤ j + 1))
        case first =>
          by_cases hk0 : kd = 0
          · subst hk0
            have hS1 := Lib.hid (hTo.out.touch (by have := hL6.out; omega) ya hyk.out)
            have hS2 := Lib.hid (fun w3 (hT3 : Hid (Ply w w3 D v6 (tipF L ya) L [(b0, .cells #[.int .i64 0, .string ya] 29)])) => hT3.out.rtip hl6.out hTo.out.cnt ya)
            go_wp2_with (first
              | (go_at_call 10; ((with_reducible refine (hS1.out).mono ?_); rintro e w3 ⟨rfl, h3⟩; have hT3 := Lib.hid h3; have y0 : w3.cell? ⟨b0, 0, none⟩ = some (.int .i64 0) := h3.cell (List.mem_cons_self ..) 0; have y1 : w3.cell? ⟨b0, 1, none⟩ = some (.string ya) := h3.cell (List.mem_cons_self ..) 1; clear h3))
              | (go_at_call 11; ((with_reducible refine (hS2.out w3 hT3).mono ?_); rintro e w4 ⟨r4, rfl, h4⟩; have hT4 := Lib.hid h4; clear h4)))
            go_meet
            case rel => exact ⟨tipF L ya, _, _, true, rfl, rfl, rfl, rfl, rfl, Lib.hid (hT4.out.less (K' := []) (by simp)), Lib.hid (by have := tipF_le L ya; have := hLl.out; omega)⟩
          · have hz0 : (kd == 0) = false := beq_false_of_ne hk0
            by_cases hk1 : kd = 1
            · subst hk1
              have hS1 := Lib.hid (hTo.out.drop ya hyk.out)
              have hS2 := Lib.hid (fun w3 (hT3 : Hid (Ply w w3 D v6 (goF L ya) L [(b0, .cells #[.int .i64 1, .string ya] 29)])) => hT3.out.rgo hl6.out ya)
              go_wp2_with (first
                | (go_at_call 12; ((with_reducible refine (hS1.out).mono ?_); rintro e w3 ⟨rfl, h3⟩; have hT3 := Lib.hid h3; have y0 : w3.cell? ⟨b0, 0, none⟩ = some (.int .i64 1) := h3.cell (List.mem_cons_self ..) 0; have y1 : w3.cell? ⟨b0, 1, none⟩ = some (.string ya) := h3.cell (List.mem_cons_self ..) 1; clear h3))
                | (go_at_call 13; ((with_reducible refine (hS2.out w3 hT3).mono ?_); rintro e w4 ⟨r4, rfl, h4⟩; have hT4 := Lib.hid h4; clear h4)))
              go_meet
              case rel => exact ⟨goF L ya, _, 0, _, rfl, rfl, rfl, rfl, rfl, Lib.hid (hT4.out.less (K' := []) (by simp)), Lib.hid (by have := goF_le L ya; have := hLl.out; omega)⟩
            · have hz1 : (kd == 1) = false := beq_false_of_ne hk1
              have hS1 := Lib.hid hTo.out.halve
              have hS2 := Lib.hid (fun w3 (hT3 : Hid (Ply w w3 D v6 (halveF L) L [(b0, .cells #[.int .i64 kd, .string ya] 29)])) => hT3.out.rhalve hl6.out hTo.out.cnt)
              clear hk0 hk1
              go_wp2_with (first
                | (go_at_call 14; ((with_reducible refine (hS1.out).mono ?_); rintro e w3 ⟨rfl, h3⟩; have hT3 := Lib.hid h3; clear h3))
                | (go_at_call 15; ((with_reducible refine (hS2.out w3 hT3).mono ?_); rintro e w4 ⟨r4, rfl, h4⟩; have hT4 := Lib.hid h4; clear h4)))
              go_meet
              case rel => exact ⟨halveF L, _, _, true, rfl, rfl, rfl, rfl, rfl, Lib.hid (hT4.out.less (K' := []) (by simp)), Lib.hid (by unfold halveF; rw [List.length_map]; have := hLl.out; omega)⟩
        case rest =>
          obtain ⟨L', v6', x, p, rfl, rfl, rfl, rfl, rfl, hT', hL'⟩ := hcut
          clear q0 q1 hTo hLl
          obtain ⟨A6, c6, hv6⟩ := hT'.out.rows.len
          obtain ⟨m, hm⟩ : ∃ m, m = L'.length := ⟨_, rfl⟩
          have hmH := Lib.hid hm
          rw [← hm] at hv6
          subst hv6
          have hl7 : Hid (L'.length ≤ 1000000) := Lib.hid (by have := hL'.out; omega)
          clear hm
          have hLe : Hid (∀ W r, Ply w W D r L' L' [] → Calls Try.prog 16 #[.pointer (some ⟨D, 0, none⟩)] W fun e w' => e = .returned (.int .i64 (m : Nat)) ∧ Ply w w' D r L' L' []) := Lib.hid (fun W r h => by rw [hmH.out]; exact h.len)
          obtain ⟨t, ht⟩ : ∃ t, t = cntF L' key := ⟨_, rfl⟩
          have hCo := Lib.hid (fun W r (h : Ply w W D r L' L' []) => h.count key hkH.out)
          have hRc := Lib.hid (fun W r (h : Ply w W D r L' L' []) => h.rcnt hl7.out key)
          rw [← ht] at hCo hRc
          obtain ⟨M, hM⟩ : ∃ M, M = allF L' := ⟨_, rfl⟩
          have hMl : Hid (M.length ≤ 1000000) := Lib.hid (by rw [hM]; have := allF_le L'; have := hl7.out; omega)
          have hLs := Lib.hid (fun W r (h : Ply w W D r L' L' []) => h.least1)
          have hAl := Lib.hid (fun W r (h : Ply w W D r L' L' []) => h.all1)
          have hRa := Lib.hid (fun W r (h : Ply w W D r L' L' []) => (h.rall hl7.out).mono (R' := fun e w' => ∃ v', e = .returned v' ∧ (∃ B, RowT w' B v' (allF L')) ∧ Ply w w' D r L' L' []) fun _ _ ⟨v', he, hr, ho⟩ => ⟨v', he, ⟨_, hr⟩, h.same ho⟩)
          rw [← hM] at hLs hAl hRa
          clear ht hM
          have hxx : (x == x) = true := by simp
          have hpp : (p == p) = true := by simp
          have htt : (t == t) = true := by simp
          go_upto_region 21 with (first
            | (go_at_call 16; ((with_reducible refine (hLe.out _ _ hT'.out).mono ?_); rintro e w5 ⟨rfl, h5⟩; have hT5 := Lib.hid h5; clear h5))
            | (go_at_call 17; ((with_reducible refine (hCo.out _ _ hT5.out).mono ?_); rintro e w6 ⟨rfl, h6⟩; have hT6 := Lib.hid h6; clear h6))
            | (go_at_call 18; ((with_reducible refine (hRc.out _ _ hT6.out).mono ?_); rintro e w' ⟨rfl, rfl⟩)))
          clear hLe hCo hRc hxx hpp htt
          have hm8 : (j : Int).tmod 8 = ((j % 8 : Nat) : Int) := by rw [Int.tmod_eq_emod_of_nonneg (by omega)]; omega
          have hwn := wrap_small (x := (n : Int) - 1) (by omega)
          have hSa := Lib.hid (fun W v v' (hv : ∃ B, RowT W B v M) (hv' : ∃ B, RowT W B v' M) => (show Calls Try.prog 21 #[v, v'] W fun e w' => e = .returned (.bool true) ∧ Only [] W w' by
            obtain ⟨B, hv⟩ := hv
            obtain ⟨B', hv'⟩ := hv'
            exact tsame_any hv hv' hMl.out))
          obtain ⟨nM, hnM⟩ : ∃ nM, nM = M.length := ⟨_, rfl⟩
          have hnMH := Lib.hid hnM
          clear hnM
          by_cases hgo : j % 8 ≠ 0 ∧ (j : Int) < (n : Int) - 1
          · have hq : (((j % 8 : Nat) : Int) != 0) = true := bne_iff_ne.2 (by omega)
            have hd2 : decide ((j : Int) < (n : Int) - 1) = true := decide_eq_true hgo.2
            clear hgo
            generalize ((j % 8 : Nat) : Int) = q8 at *
            go_wp2_with fail
            go_roundw
            case rel => exact ⟨j + 1, L', _, hjlH.out, by go_num, rfl, hT6, hL'⟩
            case measure => have := hjlH.out; simp [intOf]; omega
          · have hway : ∃ b1 b2 : Bool, (((j % 8 : Nat) : Int) != 0) = b1 ∧ decide ((j : Int) < (n : Int) - 1) = b2 ∧ (b1 = false ∨ (b1 = true ∧ b2 = false)) := by
              refine ⟨_, _, rfl, rfl, ?_⟩
              by_cases h1 : j % 8 = 0
              · exact Or.inl (by rw [h1]; rfl)
              · exact Or.inr ⟨bne_iff_ne.2 (by omega), decide_eq_false (fun h2 => hgo ⟨h1, h2⟩)⟩
            obtain ⟨b1, b2, hb1, hb2, hway⟩ := hway
            clear hgo
            generalize ((j % 8 : Nat) : Int) = q8 at *
            have hpass := Lib.hid hway
            clear hway
            cases hMc : M with
            | nil =>
              have hn0 : nM = 0 := by rw [hnMH.out, hMc]; rfl
              subst hn0
              have hOx : Hid (∀ W r, Ply w W D r L' L' [] → Calls Try.prog 20 #[.pointer (some ⟨D, 0, none⟩)] W fun e w' => e = .returned (.tuple #[.string ⟨#[]⟩, .bool false]) ∧ Only [] W w') := Lib.hid (fun W r h => by
                have := hLs.out W r h
                rw [show decide (0 < M.length) = false from decide_eq_false (by rw [hMc]; simp), show M.headD ⟨#[]⟩ = ⟨#[]⟩ by rw [hMc]; rfl] at this
                exact this)
              clear hMc hLs
              rcases hpass.out with h1 | ⟨h1, h2⟩
              · subst h1
                go_wp2_with (first
                  | (go_at_call 19; ((with_reducible refine (hRa.out _ _ hT6.out).mono ?_); rintro e w7 ⟨v7, rfl, hr7, h7⟩; obtain ⟨B7, hr7'⟩ := hr7; obtain ⟨A7, c7, hv7⟩ := hr7'.len; rw [← hnMH.out] at hv7; subst hv7; have hT7 := Lib.hid h7; have hr7H := Lib.hid hr7'; clear h7 hr7'))
                  | (go_at_call 20; ((with_reducible refine (hOx.out _ _ hT7.out).mono ?_); rintro e w8 ⟨rfl, ho8⟩; have hT8 := Lib.hid (hT7.out.same ho8); have hr8H := Lib.hid (hr7H.out.same ho8); clear ho8))
                  | (go_at_call 22; ((with_reducible refine (hAl.out _ _ hT8.out).mono ?_); rintro e w9 ⟨v9, rfl, hr9, ho9⟩; have hT9 := Lib.hid (hT8.out.same ho9); have hr9H := Lib.hid hr9; have hr10H := Lib.hid (hr8H.out.same ho9); clear ho9 hr9))
                  | (go_at_call 21; ((with_reducible refine (hSa.out _ _ _ hr9H.out ⟨_, hr10H.out⟩).mono ?_); rintro e w10 ⟨rfl, ho10⟩; have hT10 := Lib.hid (hT9.out.same ho10); clear ho10)))
                go_roundw
                case rel => exact ⟨j + 1, L', _, hjlH.out, by go_num, rfl, hT10, hL'⟩
                case measure => have := hjlH.out; simp [intOf]; omega
              · subst h1 h2
                go_wp2_with (first
                  | (go_at_call 19; ((with_reducible refine (hRa.out _ _ hT6.out).mono ?_); rintro e w7 ⟨v7, rfl, hr7, h7⟩; obtain ⟨B7, hr7'⟩ := hr7; obtain ⟨A7, c7, hv7⟩ := hr7'.len; rw [← hnMH.out] at hv7; subst hv7; have hT7 := Lib.hid h7; have hr7H := Lib.hid hr7'; clear h7 hr7'))
                  | (go_at_call 20; ((with_reducible refine (hOx.out _ _ hT7.out).mono ?_); rintro e w8 ⟨rfl, ho8⟩; have hT8 := Lib.hid (hT7.out.same ho8); have hr8H := Lib.hid (hr7H.out.same ho8); clear ho8))
                  | (go_at_call 22; ((with_reducible refine (hAl.out _ _ hT8.out).mono ?_); rintro e w9 ⟨v9, rfl, hr9, ho9⟩; have hT9 := Lib.hid (hT8.out.same ho9); have hr9H := Lib.hid hr9; have hr10H := Lib.hid (hr8H.out.same ho9); clear ho9 hr9))
                  | (go_at_call 21; ((with_reducible refine (hSa.out _ _ _ hr9H.out ⟨_, hr10H.out⟩).mono ?_); rintro e w10 ⟨rfl, ho10⟩; have hT10 := Lib.hid (hT9.out.same ho10); clear ho10)))
                go_roundw
                case rel => exact ⟨j + 1, L', _, hjlH.out, by go_num, rfl, hT10, hL'⟩
                case measure => have := hjlH.out; simp [intOf]; omega
            | cons x0 M0 =>
              have hm0 : 0 < nM := by rw [hnMH.out, hMc]; simp
              have hz : Hid (M[0]? = some x0) := Lib.hid (by rw [hMc]; rfl)
              have hOx : Hid (∀ W r, Ply w W D r L' L' [] → Calls Try.prog 20 #[.pointer (some ⟨D, 0, none⟩)] W fun e w' => e = .returned (.tuple #[.string x0, .bool true]) ∧ Only [] W w') := Lib.hid (fun W r h => by
                have := hLs.out W r h
                rw [show decide (0 < M.length) = true from decide_eq_true (by rw [hMc]; simp), show M.headD ⟨#[]⟩ = x0 by rw [hMc]; rfl] at this
                exact this)
              have hd0 : decide ((0 : Int) < (nM : Int)) = true := decide_eq_true (by omega)
              have hd1 : decide (0 < nM) = true := decide_eq_true hm0
              have hbq : (x0.toList == x0.toList) = true := by simp
              have hix : Hid (0 < nM) := Lib.hid hm0
              clear hMc hLs hm0
              rcases hpass.out with h1 | ⟨h1, h2⟩
              · subst h1
                go_wp2_with (first
                  | (go_at_call 19; ((with_reducible refine (hRa.out _ _ hT6.out).mono ?_); rintro e w7 ⟨v7, rfl, hr7, h7⟩; obtain ⟨B7, hr7'⟩ := hr7; obtain ⟨g7, c7, hv7, _, _, _⟩ := hr7'.cell hz.out; rw [← hnMH.out] at hv7; subst hv7; have hixx : ∀ w, Sem.run Try.prog (Instr.indexAt 39 (.slice (some ⟨g7, 0, none⟩) nM c7) (.int .i64 0)) w = .ok (.pointer (some ⟨g7, 0, none⟩)) w := fun w => run_ixT g7 0 nM c7 hix.out w; have hT7 := Lib.hid h7; have hr7H := Lib.hid hr7'; clear h7 hr7'))
                  | (go_at_call 20; ((with_reducible refine (hOx.out _ _ hT7.out).mono ?_); rintro e w8 ⟨rfl, ho8⟩; have hT8 := Lib.hid (hT7.out.same ho8); have hr8H := Lib.hid (hr7H.out.same ho8); clear ho8))
                  | (go_at_call 22; ((with_reducible refine (hAl.out _ _ hT8.out).mono ?_); rintro e w9 ⟨v9, rfl, hr9, ho9⟩; have hT9 := Lib.hid (hT8.out.same ho9); have hr9H := Lib.hid hr9; have hr10H := Lib.hid (hr8H.out.same ho9); clear ho9 hr9))
                  | (go_at_call 21; ((with_reducible refine (hSa.out _ _ _ hr9H.out ⟨_, hr10H.out⟩).mono ?_); rintro e w10 ⟨rfl, ho10⟩; have hT10 := Lib.hid (hT9.out.same ho10); have z0 := (hr10H.out.same ho10).first hz.out; clear ho10)))
                go_roundw
                case rel => exact ⟨j + 1, L', _, hjlH.out, by go_num, rfl, hT10, hL'⟩
                case measure => have := hjlH.out; simp [intOf]; omega
              · subst h1 h2
                go_wp2_with (first
                  | (go_at_call 19; ((with_reducible refine (hRa.out _ _ hT6.out).mono ?_); rintro e w7 ⟨v7, rfl, hr7, h7⟩; obtain ⟨B7, hr7'⟩ := hr7; obtain ⟨g7, c7, hv7, _, _, _⟩ := hr7'.cell hz.out; rw [← hnMH.out] at hv7; subst hv7; have hixx : ∀ w, Sem.run Try.prog (Instr.indexAt 39 (.slice (some ⟨g7, 0, none⟩) nM c7) (.int .i64 0)) w = .ok (.pointer (some ⟨g7, 0, none⟩)) w := fun w => run_ixT g7 0 nM c7 hix.out w; have hT7 := Lib.hid h7; have hr7H := Lib.hid hr7'; clear h7 hr7'))
                  | (go_at_call 20; ((with_reducible refine (hOx.out _ _ hT7.out).mono ?_); rintro e w8 ⟨rfl, ho8⟩; have hT8 := Lib.hid (hT7.out.same ho8); have hr8H := Lib.hid (hr7H.out.same ho8); clear ho8))
                  | (go_at_call 22; ((with_reducible refine (hAl.out _ _ hT8.out).mono ?_); rintro e w9 ⟨v9, rfl, hr9, ho9⟩; have hT9 := Lib.hid (hT8.out.same ho9); have hr9H := Lib.hid hr9; have hr10H := Lib.hid (hr8H.out.same ho9); clear ho9 hr9))
                  | (go_at_call 21; ((with_reducible refine (hSa.out _ _ _ hr9H.out ⟨_, hr10H.out⟩).mono ?_); rintro e w10 ⟨rfl, ho10⟩; have hT10 := Lib.hid (hT9.out.same ho10); have z0 := (hr10H.out.same ho10).first hz.out; clear ho10)))
                go_roundw
                case rel => exact ⟨j + 1, L', _, hjlH.out, by go_num, rfl, hT10, hL'⟩
                case measure => have := hjlH.out; simp [intOf]; omega
      · have hjn : j = n := by omega
        subst hjn
        clear hjl
        go_wp2_with (go_at_call 8; ((with_reducible refine (alive_any _).mono ?_); rintro e w9 ⟨rfl, hO9⟩; have hO9H := Lib.hid (only_nil hT.out.most hO9); clear hO9))
        go_ret
        exact ⟨rfl, hO9H.out.below (Nat.le_refl _) (by simp)⟩
end Go.Proofs.Ytpbmgaipeofpaaa
