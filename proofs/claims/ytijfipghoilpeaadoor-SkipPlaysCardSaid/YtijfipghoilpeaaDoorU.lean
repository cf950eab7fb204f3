/-
  The law that the list plays as the document's row does.
-/
import Derived.Test.YtijfipghoilpeaaDoorS
import Derived.Deep.RegionHeld3
import Derived.Deep.CutBlock
namespace Go.Proofs.YtijfipghoilpeaaDoor
open Go.RowKit

theorem putS_le2 (L : List Sc) (x : Sc) : (putS L x).length ≤ L.length + 1 := by rw [put_len]; split <;> omega
theorem dropS_le2 {L : List Sc} (h : Rises L) (x : Sc) : (dropS L x).length ≤ L.length := by have := drop_len h x; omega
theorem cut_thousand {L : List Sc} (h : L.length ≤ 1000) : cutS L 0 1000 = L := by
  unfold cutS
  rw [List.take_of_length_le (by omega)]
  rfl
theorem atV_in {L : List Sc} {k : Nat} {x : Sc} (h : L[k]? = some x) : atV L (k : Int) = .tuple #[scV x, .bool true] := by
  unfold atV
  rw [if_pos (by omega), Int.toNat_natCast, h]
theorem atV_out {L : List Sc} {i : Int} (h : ¬ (0 ≤ i ∧ i < L.length)) : atV L i = .tuple #[.agg #[.string ⟨#[]⟩, .int .i64 0], .bool false] := by
  unfold atV
  by_cases h0 : 0 ≤ i
  · rw [if_pos h0, List.getElem?_eq_none (by omega)]
  · rw [if_neg h0]
theorem Ply.row_get {w0 w : World} {D : Nat} {A : Option Addr} {n c : Nat} {L R : List Sc} {K : List (Nat × Obj)} (h : Ply w0 w D (.slice A n c) L R K) {k : Nat} {y : Sc} (hk : R[k]? = some y) : ∃ g, A = some ⟨g, 0, none⟩ ∧ w.cell? ⟨g, k * 2, none⟩ = some (.string y.1) ∧ w.cell? ⟨g, k * 2 + 1, none⟩ = some (.int .i64 y.2) := by
  obtain ⟨y', g, h1, h2, h3, h4⟩ := rowS_cell h.rows k (List.getElem?_eq_some_iff.1 hk).1
  rw [hk] at h1
  cases h1
  exact ⟨g, h2, h3, h4⟩
theorem Ply.cellv {w0 w : World} {D : Nat} {r : Value} {L R : List Sc} {K : List (Nat × Obj)} {b : Nat} {cs : Array Value} {t : TypeId} (h : Ply w0 w D r L R K) (hm : (b, .cells cs t) ∈ K) (j : Nat) {v : Value} (hv : cs[j]? = some v) : w.cell? ⟨b, j, none⟩ = some v := by rw [h.cell hm, hv]
theorem run_ix_nat (g k n cap : Nat) (hk : k < n) (x : Int) (hx : x = (k : Int)) (w : World) : Sem.run Tryd.prog (Instr.indexAt 28 (.slice (some ⟨g, 0, none⟩) n cap) (.int .i64 x)) w = .ok (.pointer (some ⟨g, k * 2, none⟩)) w := by
  subst hx
  exact run_ixS g k n cap hk w
set_option maxRecDepth 100000 in
set_option maxHeartbeats 16000000 in
theorem plays_any (w : World) (hT : Tabs w) (sd : Int) (hu : U sd) (A : Option Addr) (c : Nat) (os : List OpT) (ho : OpsAt w w.heap.size A os) (hrg : ∀ o ∈ os, o.2.1.1.size ≤ maxLen) (hin : ∀ o ∈ os, (-9223372036854775808 ≤ o.2.2.1 ∧ o.2.2.1 ≤ 9223372036854775807) ∧ -9223372036854775808 ≤ o.2.2.2 ∧ o.2.2.2 ≤ 9223372036854775807) (hol : os.length ≤ 140737488355328) :
    Calls Tryd.prog 3 #[.int .u64 sd, .slice A os.length c] w fun e w' => e = .returned (.bool true) ∧ Below w.heap.size w w' := by
  have hfar := far_any (c := c) ho hol hrg
  have hTH := Lib.hid hT
  cases hf : farF os with
  | true =>
    rw [hf] at hfar
    have hfarH := Lib.hid hfar
    clear hfar hf ho hrg hT hin
    generalize os.length = n at *
    go_enter Tryd.func3, Tryd.ntmps3
    go_wp2_with (first
      | (go_at_call 7; ((with_reducible refine (hfarH.out).mono ?_); rintro e w2 ⟨rfl, h2⟩; have h2H := Lib.hid h2; clear h2))
      | (go_at_call 8; ((with_reducible refine (alive_any w2 (hTH.out.later h2H.out)).mono ?_); rintro e w3 ⟨rfl, h3⟩; have h3H := Lib.hid (h2H.out.trans h3 (by simp)); clear h3)))
    all_goals go_ret
    exact ⟨rfl, h3H.out.below (Nat.le_refl _) (by simp)⟩
  | false =>
    obtain ⟨hlen, hsz⟩ := farF_no hf
    rw [hf] at hfar
    have hfarH := Lib.hid hfar
    have hoH := Lib.hid ho
    have hszH := Lib.hid hsz
    have hinH := Lib.hid hin
    have hget : Hid (∀ i, i < os.length → ∃ y, os[i]? = some y) := Lib.hid (fun i hi => ⟨_, List.getElem?_eq_getElem hi⟩)
    have hnew := Lib.hid (fun w2 (h2 : Only [] w w2) => ply_new h2 sd hu)
    have hlenH := Lib.hid hlen
    clear hfar hf ho hrg hT hsz hu hol hin
    generalize os.length = n at *
    go_enter Tryd.func3, Tryd.ntmps3
    go_wp2_with (first
      | (go_at_call 7; ((with_reducible refine (hfarH.out).mono ?_); rintro e w2 ⟨rfl, h2⟩; have hN2 := Lib.hid (hnew.out w2 h2); clear h2))
      | (go_at_call 9; ((with_reducible refine (hN2.out).mono ?_); rintro e w3 ⟨rfl, h3⟩; have h3H := Lib.hid h3; clear h3)))
    generalize w2.heap.size = D at *
    clear hN2 hnew hfarH
    go_loopw [6, 8, 9, 10, 11, 12, 13, 14, 22] (fun s6 s8 s9 s10 s11 s12 s13 s14 s22 wr => ∃ (j : Nat) (L : List Sc) (v6 : Value), j ≤ n ∧ s22 = .int .i64 j ∧ v6 = s6 ∧ Hid (Ply w wr D v6 L L []) ∧ Hid (L.length ≤ j)) (fun _ _ _ _ _ _ _ _ s22 _ => n - (intOf s22).toNat)
    case atStart => exact ⟨0, [], _, by omega, rfl, rfl, h3H, Lib.hid (by simp)⟩
    case round =>
      obtain ⟨j, L, v6, hj, rfl, rfl, hP, hLl⟩ := hrel
      by_cases hjl : j < n
      · obtain ⟨y, hy⟩ := hget.out j hjl
        obtain ⟨a2, rfl, ha, x0, x1, x2, x3, x4⟩ := hoH.out.on (hP.out.most.below (Nat.le_refl _) (by simp)) j y hy
        have hys := Lib.hid (hszH.out y (List.mem_of_getElem? hy))
        obtain ⟨hyi, hyj⟩ := hinH.out y (List.mem_of_getElem? hy)
        obtain ⟨dr, ⟨ya, ys⟩, yi, yj⟩ := y
        simp only at x0 x1 x2 x3 x4 hys hyi hyj
        have hyiH := Lib.hid hyi
        have hyjH := Lib.hid hyj
        have hjlH := Lib.hid hjl
        have hwj := wrap_small (x := (j : Int) + 1) (by omega)
        have hM := Lib.hid (hP.out.make #[.bool dr, .string ya, .int .i64 ys, .int .i64 yi, .int .i64 yj] 32)
        have hLb : Hid (L.length ≤ 300) := Lib.hid (by have := hLl.out; have := hlenH.out; omega)
        have hrs := Lib.hid hP.out.rises
        have hlt : decide ((j : Int) < (n : Int)) = true := decide_eq_true (by omega)
        have hltn : decide (j < n) = true := decide_eq_true hjl
        clear hy hjl hyi hyj
        go_upto_if 27 with fail
        generalize hWo : wr.alloc (.cells #[.bool dr, .string ya, .int .i64 ys, .int .i64 yi, .int .i64 yj] 32) = wo at *
        generalize hb0 : wr.heap.size = b0 at *
        clear hWo hb0 x0 x1 x2 x3 x4
        have q1 : wo.cell? ⟨b0, 1, none⟩ = some (.string ya) := hM.out.cell (List.mem_cons_self ..) 1
        have q2 : wo.cell? ⟨b0, 2, none⟩ = some (.int .i64 ys) := hM.out.cell (List.mem_cons_self ..) 2
        go_cut [6, 9, 10] from 28 to 168 (fun s6 s9 s10 wx => ∃ (L' : List Sc) (v6' : Value) (p : Bool), v6' = s6 ∧ s9 = .bool p ∧ s10 = .bool p ∧ Hid (Ply w wx D v6' L' L' [(b0, .cells #[.bool dr, .string ya, .int .i64 ys, .int .i64 yi, .int .i64 yj] 32)]) ∧ Hid (L'.length ≤ j + 1))
        case first =>
          cases dr with
          | true =>
            have hS1 := hM.out.drop (ya, ys)
            have hS2 := Lib.hid (fun W (h : Ply w W D v6 (dropS L (ya, ys)) L [(b0, .cells #[.bool true, .string ya, .int .i64 ys, .int .i64 yi, .int .i64 yj] 32)]) => h.rdrop hrs.out (by have := hLb.out; omega) (ya, ys))
            unfold scV at hS1 hS2
            have hS1H := Lib.hid hS1
            clear hS1
            go_wp2_with (first
              | (go_at_call 10; ((with_reducible refine (hS1H.out).mono ?_); rintro e w5 ⟨rfl, h5⟩; have h5H := Lib.hid h5; have y1 : w5.cell? ⟨b0, 1, none⟩ = some (.string ya) := h5.cell (List.mem_cons_self ..) 1; have y2 : w5.cell? ⟨b0, 2, none⟩ = some (.int .i64 ys) := h5.cell (List.mem_cons_self ..) 2; clear h5))
              | (go_at_call 11; ((with_reducible refine (hS2.out w5 h5H.out).mono ?_); rintro e w6 ⟨r6, rfl, h6⟩; have h6H := Lib.hid h6; clear h6)))
            go_meet
            case rel => exact ⟨_, _, _, rfl, rfl, rfl, h6H, Lib.hid (by have := dropS_le2 hrs.out (ya, ys); have := hLl.out; omega)⟩
          | false =>
            have hS1 := hM.out.put hTH.out (by have := hLb.out; omega) (ya, ys) (by have := hys.out; unfold maxLen; simp only; omega)
            have hS2 := Lib.hid (fun W (h : Ply w W D v6 (putS L (ya, ys)) L [(b0, .cells #[.bool false, .string ya, .int .i64 ys, .int .i64 yi, .int .i64 yj] 32)]) => h.rput hrs.out (by have := hLb.out; omega) (ya, ys))
            unfold scV at hS1 hS2
            have hS1H := Lib.hid hS1
            clear hS1
            go_wp2_with (first
              | (go_at_call 12; ((with_reducible refine (hS1H.out).mono ?_); rintro e w5 ⟨rfl, h5⟩; have h5H := Lib.hid h5; have y1 : w5.cell? ⟨b0, 1, none⟩ = some (.string ya) := h5.cell (List.mem_cons_self ..) 1; have y2 : w5.cell? ⟨b0, 2, none⟩ = some (.int .i64 ys) := h5.cell (List.mem_cons_self ..) 2; clear h5))
              | (go_at_call 13; ((with_reducible refine (hS2.out w5 h5H.out).mono ?_); rintro e w6 ⟨r6, rfl, h6⟩; have h6H := Lib.hid h6; clear h6)))
            go_meet
            case rel => exact ⟨_, _, _, rfl, rfl, rfl, h6H, Lib.hid (by have := putS_le2 L (ya, ys); have := hLl.out; omega)⟩
        case rest =>
          obtain ⟨L', v6', p, rfl, rfl, rfl, hQ, hLl'⟩ := hcut
          --REST
          obtain ⟨A6, c6, rfl⟩ := hQ.out.rows.len
          have hm3 : Hid (L'.length ≤ 301) := Lib.hid (by have := hLl'.out; have := hjlH.out; have := hlenH.out; omega)
          have hrs' := Lib.hid hQ.out.rises
          have hat := hQ.out.at_ yi hyiH.out
          have hrow := Lib.hid (fun W K k x (hx : L'[k]? = some x) (h : Ply w W D (.slice A6 L'.length c6) L' L' K) => h.row_get hx)
          obtain ⟨m, hm⟩ : ∃ m, m = L'.length := ⟨_, rfl⟩
          have hmH := Lib.hid hm
          rw [← hm] at hQ hrow hm3 hat ⊢
          clear hm q1 q2 hP hrs hLl hLb hys hM hget hoH hszH hinH
          have u2 := hQ.out.cellv (List.mem_cons_self ..) 3 (v := .int .i64 yi) rfl
          go_upto_region 14 with fail
          go_cut [11, 12] from 28 to 168 (fun s11 s12 wx => ∃ (ba : Nat) (CA : Array Value) (inb : Bool), s11 = .pointer (some ⟨ba, 0, none⟩) ∧ s12 = .bool inb ∧ Hid (Ply w wx D (.slice A6 m c6) L' L' ((ba, .cells CA 30) :: [(b0, .cells #[.bool dr, .string ya, .int .i64 ys, .int .i64 yi, .int .i64 yj] 32)])) ∧ Hid ((inb = true ∧ ∃ (k : Nat) (xa : ByteArray) (xs : Int), yi = (k : Int) ∧ k < m ∧ L'[k]? = some (xa, xs) ∧ CA = #[.string xa, .int .i64 xs]) ∨ (inb = false ∧ (yi < 0 ∨ (0 ≤ yi ∧ (m : Int) ≤ yi)) ∧ CA = #[.string ⟨#[]⟩, .int .i64 0])))
          case first =>
            have hr3 : (0 ≤ yi ∧ yi < (m : Int)) ∨ yi < 0 ∨ (0 ≤ yi ∧ (m : Int) ≤ yi) := by omega
            rcases hr3 with ⟨hr1, hr2⟩ | hr1
            · obtain ⟨k, hk⟩ : ∃ k : Nat, yi = (k : Int) := ⟨yi.toNat, by omega⟩
              obtain ⟨⟨xa, xs⟩, hx⟩ : ∃ x, L'[k]? = some x := ⟨_, List.getElem?_eq_getElem (by have := hmH.out; omega)⟩
              rw [hk, atV_in hx, ← hk] at hat
              unfold scV at hat
              have hatH := Lib.hid hat
              have hdis := Lib.hid (⟨k, xa, xs, hk, by omega, hx, rfl⟩ : ∃ (k' : Nat) (xa' : ByteArray) (xs' : Int), yi = (k' : Int) ∧ k' < m ∧ L'[k']? = some (xa', xs') ∧ (#[.string xa, .int .i64 xs] : Array Value) = #[.string xa', .int .i64 xs'])
              clear hat hk hx hr1 hr2
              go_wp2_with (go_at_call 14; ((with_reducible refine (hatH.out).mono ?_); rintro e w7 ⟨rfl, h7, _⟩; have h8H := Lib.hid (h7.make #[.string xa, .int .i64 xs] 30); clear h7))
              go_meet
              case rel => exact ⟨_, _, true, rfl, rfl, h8H, Lib.hid (Or.inl ⟨rfl, hdis.out⟩)⟩
            · rw [atV_out (by have := hmH.out; omega)] at hat
              have hatH := Lib.hid hat
              have hrH := Lib.hid hr1
              clear hat hr1
              go_wp2_with (go_at_call 14; ((with_reducible refine (hatH.out).mono ?_); rintro e w7 ⟨rfl, h7, _⟩; have h8H := Lib.hid (h7.make #[.string ⟨#[]⟩, .int .i64 0] 30); clear h7))
              go_meet
              case rel => exact ⟨_, _, false, rfl, rfl, h8H, Lib.hid (Or.inr ⟨rfl, hrH.out, rfl⟩)⟩
          case rest =>
            clear hat u2 hQ
            obtain ⟨ba, CA, inb, rfl, rfl, hQ, hdis⟩ := hcut
            have u3 := hQ.out.cellv (List.mem_cons_of_mem _ (List.mem_cons_self ..)) 3 (v := .int .i64 yi) rfl
            go_upto_region 15 with fail
            go_cut [13] from 28 to 168 (fun s13 wx => s13 = .bool inb ∧ Hid (Ply w wx D (.slice A6 m c6) L' L' ((ba, .cells CA 30) :: [(b0, .cells #[.bool dr, .string ya, .int .i64 ys, .int .i64 yi, .int .i64 yj] 32)])))
            case first =>
              rcases hdis.out with ⟨rfl, k, xa, xs, hk, hkm, hx, rfl⟩ | ⟨rfl, hr1 | ⟨hr1, hr2⟩, rfl⟩
              · have d1 : decide ((0 : Int) ≤ yi) = true := decide_eq_true (by omega)
                have d2 : decide (yi < (m : Int)) = true := decide_eq_true (by omega)
                clear hk hkm hx hdis
                go_wp2_with fail
                go_meet
                case rel => exact ⟨rfl, hQ⟩
              · have d1 : decide ((0 : Int) ≤ yi) = false := decide_eq_false (by omega)
                clear hr1 hdis
                go_wp2_with fail
                go_meet
                case rel => exact ⟨rfl, hQ⟩
              · have d1 : decide ((0 : Int) ≤ yi) = true := decide_eq_true hr1
                have d2 : decide (yi < (m : Int)) = false := decide_eq_false (by omega)
                clear hr1 hr2 hdis
                go_wp2_with fail
                go_meet
                case rel => exact ⟨rfl, hQ⟩
            case rest =>
              clear u3 hQ
              obtain ⟨rfl, hQ⟩ := hcut
              go_upto_region 16 with fail
              go_cut [102] from 28 to 168 (fun s102 wx => s102 = .bool false ∧ Hid (Ply w wx D (.slice A6 m c6) L' L' [(b0, .cells #[.bool dr, .string ya, .int .i64 ys, .int .i64 yi, .int .i64 yj] 32)]))
              case first =>
                have u3 := hQ.out.cellv (List.mem_cons_of_mem _ (List.mem_cons_self ..)) 3 (v := .int .i64 yi) rfl
                generalize hwc : wc = W8 at *
                clear hwc
                have hln : Hid (∀ q, Calls Tryd.prog 15 #[.pointer (some ⟨D, 0, none⟩)] (W8.drewN q) fun e w' => e = .returned (.int .i64 (m : Int)) ∧ w' = W8.drewN q) := Lib.hid (fun q => ((hQ.out.same ((Only.refl [] W8).drewN q)).len).mono fun _ _ ⟨he, hw⟩ => ⟨by rw [he, hmH.out], hw.symm⟩)
                have hQ0 := Lib.hid (hQ.out.less (K' := [(b0, .cells #[.bool dr, .string ya, .int .i64 ys, .int .i64 yi, .int .i64 yj] 32)]) (by intro q hq; exact List.mem_cons_of_mem _ hq))
                rcases hdis.out with ⟨rfl, k, xa, xs, hk, hkm, hx, rfl⟩ | ⟨rfl, _, rfl⟩
                · obtain ⟨g, rfl, c0, c1⟩ := hrow.out W8 _ _ _ hx hQ0.out
                  simp only at c0 c1
                  have a0 := hQ.out.cellv (List.mem_cons_self ..) 0 (v := .string xa) rfl
                  have a1 := hQ.out.cellv (List.mem_cons_self ..) 1 (v := .int .i64 xs) rfl
                  have hix := run_ix_nat g k m c6 hkm yi hk
                  clear hk hkm hx hdis
                  go_quiet ((go_at_call 15; exact Calls.quiet_of_same (hln.out _)))
                  go_wp2_with fail
                  go_meet
                  case rel => exact ⟨rfl, Lib.hid (hQ0.out.same ((Only.refl [] W8).drewN _))⟩
                · have a0 := hQ.out.cellv (List.mem_cons_self ..) 0 (v := .string ⟨#[]⟩) rfl
                  have a1 := hQ.out.cellv (List.mem_cons_self ..) 1 (v := .int .i64 0) rfl
                  clear hdis
                  go_quiet ((go_at_call 15; exact Calls.quiet_of_same (hln.out _)))
                  go_wp2_with fail
                  go_meet
                  case rel => exact ⟨rfl, Lib.hid (hQ0.out.same ((Only.refl [] W8).drewN _))⟩
              case rest =>
                clear hdis hQ
                obtain ⟨rfl, hQ⟩ := hcut
                generalize hwc : wc = Wq at *
                clear hwc
                have v1 := hQ.out.cellv (List.mem_cons_self ..) 1 (v := .string ya) rfl
                have v4 := hQ.out.cellv (List.mem_cons_self ..) 4 (v := .int .i64 yj) rfl
                have h9H := Lib.hid (hQ.out.make #[.string ya, .int .i64 yj] 30)
                go_upto_region 19 with fail
                generalize hW9 : Wq.alloc (.cells #[.string ya, .int .i64 yj] 30) = W9 at *
                generalize hby : Wq.heap.size = by_ at *
                have hP9 := h9H.out
                clear hW9 hby v1 v4 h9H hQ hrow
                have hP9d := hP9.same ((Only.refl [] W9).drew)
                obtain ⟨rx, hrx⟩ : ∃ rx, rx = rnk L' (ya, ys) := ⟨_, rfl⟩
                obtain ⟨ry, hry⟩ : ∃ ry, ry = rnk L' (ya, yj) := ⟨_, rfl⟩
                obtain ⟨ay, hay⟩ : ∃ ay : Nat, ay = ahd L' (ya, yj) := ⟨_, rfl⟩
                obtain ⟨bl, hbl⟩ : ∃ bl : Nat, bl = blw L' ys dr := ⟨_, rfl⟩
                have hrxH := Lib.hid hrx
                have hryH := Lib.hid hry
                have hayH := Lib.hid hay
                have hblH := Lib.hid hbl
                clear hrx hry hay hbl
                have hl3 : Hid (L'.length ≤ 1000000) := Lib.hid (by have := hm3.out; have := hmH.out; omega)
                have hKx : Hid (∀ W, Ply w W D (.slice A6 m c6) L' L' [(by_, .cells #[.string ya, .int .i64 yj] 30), (b0, .cells #[.bool dr, .string ya, .int .i64 ys, .int .i64 yi, .int .i64 yj] 32)] → Calls Tryd.prog 16 #[.pointer (some ⟨D, 0, none⟩), .agg #[.string ya, .int .i64 ys]] W fun e w' => e = .returned (.int .i64 rx) ∧ Ply w w' D (.slice A6 m c6) L' L' [(by_, .cells #[.string ya, .int .i64 yj] 30), (b0, .cells #[.bool dr, .string ya, .int .i64 ys, .int .i64 yi, .int .i64 yj] 32)]) := Lib.hid (fun W h => (h.rank (ya, ys)).mono fun _ _ ⟨he, hp, _⟩ => ⟨by rw [he, hrxH.out], hp⟩)
                have hKy : Hid (∀ W, Ply w W D (.slice A6 m c6) L' L' [(by_, .cells #[.string ya, .int .i64 yj] 30), (b0, .cells #[.bool dr, .string ya, .int .i64 ys, .int .i64 yi, .int .i64 yj] 32)] → Calls Tryd.prog 16 #[.pointer (some ⟨D, 0, none⟩), .agg #[.string ya, .int .i64 yj]] W fun e w' => e = .returned (.int .i64 ry) ∧ Ply w w' D (.slice A6 m c6) L' L' [(by_, .cells #[.string ya, .int .i64 yj] 30), (b0, .cells #[.bool dr, .string ya, .int .i64 ys, .int .i64 yi, .int .i64 yj] 32)]) := Lib.hid (fun W h => (h.rank (ya, yj)).mono fun _ _ ⟨he, hp, _⟩ => ⟨by rw [he, hryH.out], hp⟩)
                have hRx : Hid (∀ W, Ply w W D (.slice A6 m c6) L' L' [(by_, .cells #[.string ya, .int .i64 yj] 30), (b0, .cells #[.bool dr, .string ya, .int .i64 ys, .int .i64 yi, .int .i64 yj] 32)] → Calls Tryd.prog 17 #[(.slice A6 m c6), .agg #[.string ya, .int .i64 ys]] W fun e w' => e = .returned (.int .i64 rx) ∧ Ply w w' D (.slice A6 m c6) L' L' [(by_, .cells #[.string ya, .int .i64 yj] 30), (b0, .cells #[.bool dr, .string ya, .int .i64 ys, .int .i64 yi, .int .i64 yj] 32)]) := Lib.hid (fun W h => (h.rrank hrs'.out hl3.out (ya, ys)).mono fun _ _ ⟨he, hp, _⟩ => ⟨by rw [he, hrxH.out], hp⟩)
                have hRy : Hid (∀ W, Ply w W D (.slice A6 m c6) L' L' [(by_, .cells #[.string ya, .int .i64 yj] 30), (b0, .cells #[.bool dr, .string ya, .int .i64 ys, .int .i64 yi, .int .i64 yj] 32)] → Calls Tryd.prog 17 #[(.slice A6 m c6), .agg #[.string ya, .int .i64 yj]] W fun e w' => e = .returned (.int .i64 ry) ∧ Ply w w' D (.slice A6 m c6) L' L' [(by_, .cells #[.string ya, .int .i64 yj] 30), (b0, .cells #[.bool dr, .string ya, .int .i64 ys, .int .i64 yi, .int .i64 yj] 32)]) := Lib.hid (fun W h => (h.rrank hrs'.out hl3.out (ya, yj)).mono fun _ _ ⟨he, hp, _⟩ => ⟨by rw [he, hryH.out], hp⟩)
                have hHy : Hid (∀ W, Ply w W D (.slice A6 m c6) L' L' [(by_, .cells #[.string ya, .int .i64 yj] 30), (b0, .cells #[.bool dr, .string ya, .int .i64 ys, .int .i64 yi, .int .i64 yj] 32)] → Calls Tryd.prog 18 #[.pointer (some ⟨D, 0, none⟩), .agg #[.string ya, .int .i64 yj]] W fun e w' => e = .returned (.int .i64 (ay : Int)) ∧ Ply w w' D (.slice A6 m c6) L' L' [(by_, .cells #[.string ya, .int .i64 yj] 30), (b0, .cells #[.bool dr, .string ya, .int .i64 ys, .int .i64 yi, .int .i64 yj] 32)]) := Lib.hid (fun W h => (h.ahead (ya, yj)).mono fun _ _ ⟨he, hp, _⟩ => ⟨by rw [he, hayH.out], hp⟩)
                have hIy : Hid (∀ W, Ply w W D (.slice A6 m c6) L' L' [(by_, .cells #[.string ya, .int .i64 yj] 30), (b0, .cells #[.bool dr, .string ya, .int .i64 ys, .int .i64 yi, .int .i64 yj] 32)] → Calls Tryd.prog 19 #[(.slice A6 m c6), .agg #[.string ya, .int .i64 yj]] W fun e w' => e = .returned (.int .i64 (ay : Int)) ∧ Ply w w' D (.slice A6 m c6) L' L' [(by_, .cells #[.string ya, .int .i64 yj] 30), (b0, .cells #[.bool dr, .string ya, .int .i64 ys, .int .i64 yi, .int .i64 yj] 32)]) := Lib.hid (fun W h => (h.rahead hl3.out (ya, yj)).mono fun _ _ ⟨he, hp, _⟩ => ⟨by rw [he, hayH.out], hp⟩)
                have hBl : Hid (∀ W, Ply w W D (.slice A6 m c6) L' L' [(by_, .cells #[.string ya, .int .i64 yj] 30), (b0, .cells #[.bool dr, .string ya, .int .i64 ys, .int .i64 yi, .int .i64 yj] 32)] → Calls Tryd.prog 20 #[.pointer (some ⟨D, 0, none⟩), .int .i64 ys, .bool dr] W fun e w' => e = .returned (.int .i64 (bl : Int)) ∧ Ply w w' D (.slice A6 m c6) L' L' [(by_, .cells #[.string ya, .int .i64 yj] 30), (b0, .cells #[.bool dr, .string ya, .int .i64 ys, .int .i64 yi, .int .i64 yj] 32)]) := Lib.hid (fun W h => (h.below ys dr).mono fun _ _ ⟨he, hp, _⟩ => ⟨by rw [he, hblH.out], hp⟩)
                have hCl : Hid (∀ W, Ply w W D (.slice A6 m c6) L' L' [(by_, .cells #[.string ya, .int .i64 yj] 30), (b0, .cells #[.bool dr, .string ya, .int .i64 ys, .int .i64 yi, .int .i64 yj] 32)] → Calls Tryd.prog 21 #[(.slice A6 m c6), .int .i64 ys, .bool dr] W fun e w' => e = .returned (.int .i64 (bl : Int)) ∧ Ply w w' D (.slice A6 m c6) L' L' [(by_, .cells #[.string ya, .int .i64 yj] 30), (b0, .cells #[.bool dr, .string ya, .int .i64 ys, .int .i64 yi, .int .i64 yj] 32)]) := Lib.hid (fun W h => (h.rbelow hl3.out ys dr).mono fun _ _ ⟨he, hp, _⟩ => ⟨by rw [he, hblH.out], hp⟩)
                have hCu := Lib.hid (fun W (h : Ply w W D (.slice A6 m c6) L' L' [(by_, .cells #[.string ya, .int .i64 yj] 30), (b0, .cells #[.bool dr, .string ya, .int .i64 ys, .int .i64 yi, .int .i64 yj] 32)]) => h.cut yi yj hyiH.out hyjH.out)
                have hRc := Lib.hid (fun W (h : Ply w W D (.slice A6 m c6) L' L' [(by_, .cells #[.string ya, .int .i64 yj] 30), (b0, .cells #[.bool dr, .string ya, .int .i64 ys, .int .i64 yi, .int .i64 yj] 32)]) => h.rcut hl3.out yi yj)
                have hSa : Hid (∀ W B B' u u', Ply w W D (.slice A6 m c6) L' L' [(by_, .cells #[.string ya, .int .i64 yj] 30), (b0, .cells #[.bool dr, .string ya, .int .i64 ys, .int .i64 yi, .int .i64 yj] 32)] → RowS W B u (cutS L' yi yj) → RowS W B' u' (cutS L' yi yj) → Calls Tryd.prog 22 #[u, u'] W fun e w' => e = .returned (.bool true) ∧ Ply w w' D (.slice A6 m c6) L' L' [(by_, .cells #[.string ya, .int .i64 yj] 30), (b0, .cells #[.bool dr, .string ya, .int .i64 ys, .int .i64 yi, .int .i64 yj] 32)]) := Lib.hid (fun W B B' u u' h h1 h2 => (h.equal h1 h2 (by have := cutS_len L' yi yj; have := hl3.out; omega)).mono fun _ _ ⟨he, hp, _⟩ => ⟨by rw [he, decide_eq_true rfl], hp⟩)
                have hce : Hid (∀ W, Ply w W D (.slice A6 m c6) L' L' [(by_, .cells #[.string ya, .int .i64 yj] 30), (b0, .cells #[.bool dr, .string ya, .int .i64 ys, .int .i64 yi, .int .i64 yj] 32)] → W.cell? ⟨b0, 0, none⟩ = some (.bool dr) ∧ W.cell? ⟨b0, 1, none⟩ = some (.string ya) ∧ W.cell? ⟨b0, 2, none⟩ = some (.int .i64 ys) ∧ W.cell? ⟨b0, 3, none⟩ = some (.int .i64 yi) ∧ W.cell? ⟨b0, 4, none⟩ = some (.int .i64 yj) ∧ W.cell? ⟨by_, 0, none⟩ = some (.string ya) ∧ W.cell? ⟨by_, 1, none⟩ = some (.int .i64 yj)) := Lib.hid (fun W h => ⟨h.cell (List.mem_cons_of_mem _ (List.mem_cons_self ..)) 0, h.cell (List.mem_cons_of_mem _ (List.mem_cons_self ..)) 1, h.cell (List.mem_cons_of_mem _ (List.mem_cons_self ..)) 2, h.cell (List.mem_cons_of_mem _ (List.mem_cons_self ..)) 3, h.cell (List.mem_cons_of_mem _ (List.mem_cons_self ..)) 4, h.cell (List.mem_cons_self ..) 0, h.cell (List.mem_cons_self ..) 1⟩)
                obtain ⟨z0, z1, z2, z3, z4, z5, z6⟩ := hce.out _ hP9
                obtain ⟨y0, y1, y2, y3, y4, y5, y6⟩ := hce.out _ hP9d
                as_aux_lemma =>
                  go_region_held3 (fun w' => w'.cell? ⟨b0, 0, none⟩ = some (.bool dr) ∧ w'.cell? ⟨b0, 1, none⟩ = some (.string ya) ∧ w'.cell? ⟨b0, 2, none⟩ = some (.int .i64 ys) ∧ w'.cell? ⟨b0, 3, none⟩ = some (.int .i64 yi) ∧ w'.cell? ⟨b0, 4, none⟩ = some (.int .i64 yj) ∧ w'.cell? ⟨by_, 0, none⟩ = some (.string ya) ∧ w'.cell? ⟨by_, 1, none⟩ = some (.int .i64 yj))
                    (first | exact ⟨z0, z1, z2, z3, z4, z5, z6⟩ | assumption | (refine ⟨?_, ?_, ?_, ?_, ?_, ?_, ?_⟩ <;> assumption))
                    (first
                      | (go_at_call 16; (first | (with_reducible refine (hKx.out _ (by assumption)).mono ?_) | (with_reducible refine (hKy.out _ (by assumption)).mono ?_)); rintro r w12 ⟨rfl, p12⟩; obtain ⟨t0, t1, t2, t3, t4, t5, t6⟩ := hce.out _ p12)
                      | (go_at_call 17; (first | (with_reducible refine (hRx.out _ (by assumption)).mono ?_) | (with_reducible refine (hRy.out _ (by assumption)).mono ?_)); rintro r w12 ⟨rfl, p12⟩; obtain ⟨t0, t1, t2, t3, t4, t5, t6⟩ := hce.out _ p12)
                      | (go_at_call 18; (first | (with_reducible refine (hHy.out _ (by assumption)).mono ?_)); rintro r w12 ⟨rfl, p12⟩; obtain ⟨t0, t1, t2, t3, t4, t5, t6⟩ := hce.out _ p12)
                      | (go_at_call 19; (first | (with_reducible refine (hIy.out _ (by assumption)).mono ?_)); rintro r w12 ⟨rfl, p12⟩; obtain ⟨t0, t1, t2, t3, t4, t5, t6⟩ := hce.out _ p12)
                      | (go_at_call 20; (first | (with_reducible refine (hBl.out _ (by assumption)).mono ?_)); rintro r w12 ⟨rfl, p12⟩; obtain ⟨t0, t1, t2, t3, t4, t5, t6⟩ := hce.out _ p12)
                      | (go_at_call 21; (first | (with_reducible refine (hCl.out _ (by assumption)).mono ?_)); rintro r w12 ⟨rfl, p12⟩; obtain ⟨t0, t1, t2, t3, t4, t5, t6⟩ := hce.out _ p12)
                      | (go_at_call 23; ((with_reducible refine (hCu.out _ (by assumption)).mono ?_); rintro r w17 ⟨u17, rfl, r17, p17, _⟩; have r17H := Lib.hid r17; obtain ⟨t0, t1, t2, t3, t4, t5, t6⟩ := hce.out _ p17; clear r17))
                      | (go_at_call 24; ((with_reducible refine (hRc.out _ (by assumption)).mono ?_); rintro r w18 ⟨u18, rfl, r18, p18, o18⟩; have r18H := Lib.hid r18; have r17I := Lib.hid (r17H.out.none o18); have p18H := Lib.hid p18; obtain ⟨t0, t1, t2, t3, t4, t5, t6⟩ := hce.out _ p18; clear r18 o18))
                      | (go_at_call 22; ((with_reducible refine (hSa.out _ _ _ _ _ p18H.out r17I.out r18H.out).mono ?_); rintro r w19 ⟨rfl, p19⟩; have p19H := Lib.hid p19; obtain ⟨t0, t1, t2, t3, t4, t5, t6⟩ := hce.out _ p19; clear p19)))
                  all_goals go_wp2_with fail
                  all_goals go_roundw
                  case rel => exact ⟨j + 1, L', _, hjlH.out, by go_num, rfl, Lib.hid (p19H.out.less (K' := []) (by simp)), hLl'⟩
                  case measure => have := hjlH.out; simp [intOf]; omega
      · have hjn : j = n := by omega
        subst hjn
        have hL1 : Hid (L.length ≤ 300) := Lib.hid (by have := hLl.out; have := hlenH.out; omega)
        have hcu := hP.out.cut 0 1000 (by omega) (by omega)
        rw [cut_thousand (by have := hL1.out; omega)] at hcu
        have hcuH := Lib.hid hcu
        clear hcu hget hoH hszH hinH
        go_wp2_with (first
          | (go_at_call 23; ((with_reducible refine (hcuH.out).mono ?_); rintro e w6 ⟨u6, rfl, r6, p6, o6⟩; have hS := p6.equal r6 p6.rows (by have := hL1.out; omega); rw [decide_eq_true rfl] at hS; have hSH := Lib.hid hS; clear hS r6 p6 o6))
          | (go_at_call 22; ((with_reducible refine (hSH.out).mono ?_); rintro e w7 ⟨rfl, p7, _⟩; have p7H := Lib.hid p7; have hal := Lib.hid (alive_any w7 (hTH.out.later p7.most)); clear p7))
          | (go_at_call 8; ((with_reducible refine (hal.out).mono ?_); rintro e w9 ⟨rfl, h9⟩; have h9H := Lib.hid (p7H.out.most.trans h9 (by simp)); clear h9)))
        all_goals go_ret
        exact ⟨rfl, h9H.out.below (Nat.le_refl _) (by simp)⟩
end Go.Proofs.YtijfipghoilpeaaDoor
