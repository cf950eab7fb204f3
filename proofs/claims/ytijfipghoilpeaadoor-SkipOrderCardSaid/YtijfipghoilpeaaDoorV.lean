/-
  The law that pairs stand in their order, each once, and that ranks are that order.
-/
import Derived.Test.YtijfipghoilpeaaDoorS
import Derived.Deep.RegionHeld3
import Derived.Deep.CutBlock
namespace Go.Proofs.YtijfipghoilpeaaDoor
open Go.RowKit

theorem atV_get {L : List Sc} {i : Nat} {x : Sc} (h : L[i]? = some x) : atV L (i : Int) = .tuple #[scV x, .bool true] := by
  unfold atV
  rw [if_pos (by omega), Int.toNat_natCast, h]
theorem blw_lo {L : List Sc} (hr : Rises L) {i : Nat} {x : Sc} (h : L[i]? = some x) : blw L x.2 false ≤ i := by
  rcases Nat.lt_or_ge i (blw L x.2 false) with hlt | hge
  · have := (blw_split hr x.2 false).1 x (List.mem_of_getElem? (i := i) (by rw [List.getElem?_take, if_pos hlt]; exact h))
    simp at this
  · exact hge
theorem blw_hi {L : List Sc} (hr : Rises L) {i : Nat} {x : Sc} (h : L[i]? = some x) : i < blw L x.2 true := by
  rcases Nat.lt_or_ge i (blw L x.2 true) with hlt | hge
  · exact hlt
  · have := (blw_split hr x.2 true).2 x (List.mem_of_getElem? (i := i - blw L x.2 true) (by rw [List.getElem?_drop, show blw L x.2 true + (i - blw L x.2 true) = i by omega]; exact h))
    simp at this
theorem rnk_get {L : List Sc} (hr : Rises L) {i : Nat} {x : Sc} (h : L[i]? = some x) : rnk L x = (i : Int) := by
  unfold rnk
  rw [if_pos (List.mem_of_getElem? h), at_ahd hr h]
theorem put_there {L : List Sc} {x : Sc} (h : x ∈ L) : putS L x = L := by unfold putS; rw [if_pos h]
theorem cut_whole (L : List Sc) : cutS L 0 (L.length : Int) = L := by
  unfold cutS
  rw [List.take_of_length_le (by omega)]
  rfl
theorem putS_le (L : List Sc) (x : Sc) : (putS L x).length ≤ L.length + 1 := by rw [put_len]; split <;> omega
theorem dropS_le {L : List Sc} (h : Rises L) (x : Sc) : (dropS L x).length ≤ L.length := by have := drop_len h x; omega
theorem run_ix_lit (g k n cap : Nat) (hk : k < n) (x : Int) (hx : x = (k : Int)) (w : World) : Sem.run Tryd.prog (Instr.indexAt 28 (.slice (some ⟨g, 0, none⟩) n cap) (.int .i64 x)) w = .ok (.pointer (some ⟨g, k * 2, none⟩)) w := by
  subst hx
  exact run_ixS g k n cap hk w
theorem Ply.row_at {w0 w : World} {D : Nat} {A : Option Addr} {n c : Nat} {L R : List Sc} {K : List (Nat × Obj)} (h : Ply w0 w D (.slice A n c) L R K) {k : Nat} {y : Sc} (hk : R[k]? = some y) : ∃ g, A = some ⟨g, 0, none⟩ ∧ w.cell? ⟨g, k * 2, none⟩ = some (.string y.1) ∧ w.cell? ⟨g, k * 2 + 1, none⟩ = some (.int .i64 y.2) := by
  obtain ⟨y', g, h1, h2, h3, h4⟩ := rowS_cell h.rows k (List.getElem?_eq_some_iff.1 hk).1
  rw [hk] at h1
  cases h1
  exact ⟨g, h2, h3, h4⟩
set_option maxRecDepth 100000 in
set_option maxHeartbeats 16000000 in
theorem order_any (w : World) (hT : Tabs w) (sd : Int) (hu : U sd) (A : Option Addr) (c : Nat) (os : List OpT) (ho : OpsAt w w.heap.size A os) (hrg : ∀ o ∈ os, o.2.1.1.size ≤ maxLen) (hol : os.length ≤ 140737488355328) :
    Calls Tryd.prog 4 #[.int .u64 sd, .slice A os.length c] w fun e w' => e = .returned (.bool true) ∧ Below w.heap.size w w' := by
  have hfar := far_any (c := c) ho hol hrg
  have hTH := Lib.hid hT
  cases hf : farF os with
  | true =>
    rw [hf] at hfar
    have hfarH := Lib.hid hfar
    clear hfar hf ho hrg hT
    generalize os.length = n at *
    go_enter Tryd.func4, Tryd.ntmps4
    go_wp2_with (first
      | (go_at_call 7; ((with_reducible refine (hfarH.out).mono ?_); rintro e w2 ⟨rfl, h2⟩; have h2H := Lib.hid h2; clear h2))
      | (go_at_call 8; ((with_reducible refine (alive_any w2 (hTH.out.later h2H.out)).mono ?_); rintro e w3 ⟨rfl, h3⟩; have h3H := Lib.hid (h2H.out.trans h3 (by simp)); clear h3)))
    all_goals go_ret
    exact ⟨rfl, h3H.out.below (Nat.le_refl _) (by simp)⟩
  | false =>
    obtain ⟨hlen, hsz⟩ := farF_no hf
    rw [hf] at hfar
    have hfarH := Lib.hid hfar
    have hoH := Lib.hid ho
    have hszH := Lib.hid hsz
    have hget : Hid (∀ i, i < os.length → ∃ y, os[i]? = some y) := Lib.hid (fun i hi => ⟨_, List.getElem?_eq_getElem hi⟩)
    have hnew := Lib.hid (fun w2 (h2 : Only [] w w2) => ply_new h2 sd hu)
    have hlenH := Lib.hid hlen
    clear hfar hf ho hrg hT hsz hu hol
    generalize os.length = n at *
    go_enter Tryd.func4, Tryd.ntmps4
    go_wp2_with (first
      | (go_at_call 7; ((with_reducible refine (hfarH.out).mono ?_); rintro e w2 ⟨rfl, h2⟩; have hN2 := Lib.hid (hnew.out w2 h2); clear h2))
      | (go_at_call 9; ((with_reducible refine (hN2.out).mono ?_); rintro e w3 ⟨rfl, h3⟩; have h3H := Lib.hid h3; clear h3)))
    generalize w2.heap.size = D at *
    clear hN2 hnew hfarH
    go_loopw [7, 20] (fun s7 s20 wr => ∃ (j : Nat) (L : List Sc), j ≤ n ∧ s20 = .int .i64 j ∧ Hid (Ply w wr D (.slice none 0 0) L [] []) ∧ Hid (L.length ≤ j ∧ ∀ x ∈ L, x.1.size ≤ maxLen)) (fun _ s20 _ => n - (intOf s20).toNat)
    case atStart => exact ⟨0, [], by omega, rfl, h3H, Lib.hid ⟨by simp, by simp⟩⟩
    case round =>
      obtain ⟨j, L, hj, rfl, hP, hLl⟩ := hrel
      by_cases hjl : j < n
      · obtain ⟨y, hy⟩ := hget.out j hjl
        obtain ⟨a2, rfl, ha, x0, x1, x2, x3, x4⟩ := hoH.out.on (hP.out.most.below (Nat.le_refl _) (by simp)) j y hy
        have hys := Lib.hid (hszH.out y (List.mem_of_getElem? hy))
        obtain ⟨dr, ⟨ya, ys⟩, yi, yj⟩ := y
        simp only at x0 x1 x2 x3 x4 hys
        have hjlH := Lib.hid hjl
        have hwj := wrap_small (x := (j : Int) + 1) (by omega)
        have hM := Lib.hid (hP.out.make #[.bool dr, .string ya, .int .i64 ys, .int .i64 yi, .int .i64 yj] 32)
        have hLb : Hid (L.length ≤ 300) := Lib.hid (by have := hLl.out.1; have := hlenH.out; omega)
        have hlt : decide ((j : Int) < (n : Int)) = true := decide_eq_true (by omega)
        have hltn : decide (j < n) = true := decide_eq_true hjl
        clear hy hjl
        cases dr with
        | true =>
          have hS := hM.out.drop (ya, ys)
          unfold scV at hS
          have hSH := Lib.hid hS
          clear hS
          go_wp2_with (go_at_call 10; ((with_reducible refine (hSH.out).mono ?_); rintro e w5 ⟨rfl, h5⟩; have h5H := Lib.hid (h5.less (K' := []) (by simp)); clear h5))
          go_roundw
          case rel => exact ⟨j + 1, _, by have := hjlH.out; omega, by go_num, h5H, Lib.hid ⟨by have := dropS_le hP.out.rises (ya, ys); have := hLl.out.1; omega, fun x hx => hLl.out.2 x ((mem_drop hP.out.rises (ya, ys) x).1 hx).1⟩⟩
          case measure => have := hjlH.out; simp [intOf]; omega
        | false =>
          have hS := hM.out.put hTH.out (by have := hLb.out; omega) (ya, ys) (by have := hys.out; unfold maxLen; simp only; omega)
          unfold scV at hS
          have hSH := Lib.hid hS
          clear hS
          go_wp2_with (go_at_call 12; ((with_reducible refine (hSH.out).mono ?_); rintro e w5 ⟨rfl, h5⟩; have h5H := Lib.hid (h5.less (K' := []) (by simp)); clear h5))
          go_roundw
          case rel => exact ⟨j + 1, _, by have := hjlH.out; omega, by go_num, h5H, Lib.hid ⟨by have := putS_le L (ya, ys); have := hLl.out.1; omega, fun x hx => by rcases (mem_put (ya, ys) x).1 hx with rfl | hx; (· have := hys.out; unfold maxLen; simp only; omega); (· exact hLl.out.2 x hx)⟩⟩
          case measure => have := hjlH.out; simp [intOf]; omega
      · have hjn : j = n := by omega
        subst hjn
        have hLb : Hid (L.length ≤ 300) := Lib.hid (by have := hLl.out.1; have := hlenH.out; omega)
        have hln := Lib.hid hP.out.len
        have hcu := hP.out.cut 0 (L.length : Int) (by omega) (by have := hLb.out; omega)
        rw [cut_whole] at hcu
        have hcuH := Lib.hid hcu
        have hsxH := Lib.hid hLl.out.2
        clear hcu hget hoH hszH
        obtain ⟨m, hm⟩ : ∃ m, m = L.length := ⟨_, rfl⟩
        have hmH := Lib.hid hm
        rw [← hm] at hln hcuH hLb
        clear hm
        go_wp2_with (first
          | (go_at_call 15; ((with_reducible refine (hln.out).mono ?_); rintro e w' ⟨rfl, rfl⟩))
          | (go_at_call 23; ((with_reducible refine (hcuH.out).mono ?_); rintro e w6 ⟨v6, rfl, r6, p6, o6⟩; have hP6 := Lib.hid (hP.out.fresh ⟨r6, o6⟩); have hln6 := Lib.hid p6.len; rw [← hmH.out] at hln6; obtain ⟨A6, c6, rfl⟩ := r6.len; rw [← hmH.out] at hP6 ⊢; clear r6 p6 o6))
          | (go_at_call 15; ((with_reducible refine (hln6.out).mono ?_); rintro e w' ⟨rfl, rfl⟩)))
        go_loopw [9, 10, 11, 12, 46] (fun s9 s10 s11 s12 s46 wr => ∃ i : Nat, i ≤ m ∧ s46 = .int .i64 i ∧ Hid (Ply w wr D (.slice A6 m c6) L L [])) (fun _ _ _ _ s46 _ => m - (intOf s46).toNat)
        case atStart => exact ⟨0, by omega, rfl, hP6⟩
        case round =>
          clear hP
          obtain ⟨i, hi, rfl, hP⟩ := hrel
          by_cases hil : i < m
          · obtain ⟨⟨xa, xs⟩, hx⟩ : ∃ x, L[i]? = some x := ⟨_, List.getElem?_eq_getElem (by have := hmH.out; omega)⟩
            obtain ⟨g, rfl, c0, c1⟩ := hP.out.row_at hx
            simp only at c0 c1
            have hr := hP.out.rises
            have hix := run_ixS g i m c6 hil
            have him := Lib.hid hil
            have hlt : decide ((i : Int) < (m : Int)) = true := decide_eq_true (by omega)
            have hltn : decide (i < m) = true := decide_eq_true hil
            have hib : Hid (i ≤ 300) := Lib.hid (by have := hLb.out; omega)
            have hwi := wrap_small (x := (i : Int) + 1) (by have := hib.out; omega)
            have hM := Lib.hid (hP.out.make #[.string xa, .int .i64 xs] 30)
            have hA := hM.out.at_ (i : Int) (by have := hib.out; omega)
            rw [atV_get hx] at hA
            unfold scV at hA
            have hAH := Lib.hid hA
            have hrk := Lib.hid (rnk_get hr hx)
            have hah := Lib.hid (at_ahd hr hx)
            have hb0 := Lib.hid (blw_lo hr hx)
            have hb1 := Lib.hid (blw_hi hr hx)
            have hmem := Lib.hid (List.mem_of_getElem? hx)
            have hxH := Lib.hid hx
            have hrH := Lib.hid hr
            clear hil hx hr hA
            go_upto_region 18 with (go_at_call 14; ((with_reducible refine (hAH.out).mono ?_); rintro e w9 ⟨rfl, h9, _⟩; have hM9 := Lib.hid (h9.make #[.string xa, .int .i64 xs] 30); clear h9))
            have hP3 := hM9.out
            generalize hW3 : w9.alloc (.cells #[.string xa, .int .i64 xs] 30) = W3 at *
            generalize hby : w9.heap.size = by_ at *
            generalize hbx : wr.heap.size = bx at *
            clear hW3 hby hbx hM hAH hM9 c0 c1 hix
            have hP3d := hP3.same ((Only.refl [] W3).drew)
            obtain ⟨b0, hb0e⟩ : ∃ b0 : Nat, b0 = blw L xs false := ⟨_, rfl⟩
            obtain ⟨b1, hb1e⟩ : ∃ b1 : Nat, b1 = blw L xs true := ⟨_, rfl⟩
            have hb0' : b0 ≤ i := by rw [hb0e]; exact hb0.out
            have hb1' : i < b1 := by rw [hb1e]; exact hb1.out
            have hb0H := Lib.hid hb0e
            have hb1H := Lib.hid hb1e
            clear hb0e hb1e
            have hRk : Hid (∀ W, Ply w W D (.slice (some ⟨g, 0, none⟩) m c6) L L [(by_, .cells #[.string xa, .int .i64 xs] 30), (bx, .cells #[.string xa, .int .i64 xs] 30)] → Calls Tryd.prog 16 #[.pointer (some ⟨D, 0, none⟩), .agg #[.string xa, .int .i64 xs]] W fun e w' => e = .returned (.int .i64 (i : Int)) ∧ Ply w w' D (.slice (some ⟨g, 0, none⟩) m c6) L L [(by_, .cells #[.string xa, .int .i64 xs] 30), (bx, .cells #[.string xa, .int .i64 xs] 30)]) := Lib.hid (fun W h => (h.rank (xa, xs)).mono fun _ _ ⟨he, hp, _⟩ => ⟨by rw [he, hrk.out], hp⟩)
            have hAh : Hid (∀ W, Ply w W D (.slice (some ⟨g, 0, none⟩) m c6) L L [(by_, .cells #[.string xa, .int .i64 xs] 30), (bx, .cells #[.string xa, .int .i64 xs] 30)] → Calls Tryd.prog 18 #[.pointer (some ⟨D, 0, none⟩), .agg #[.string xa, .int .i64 xs]] W fun e w' => e = .returned (.int .i64 (i : Int)) ∧ Ply w w' D (.slice (some ⟨g, 0, none⟩) m c6) L L [(by_, .cells #[.string xa, .int .i64 xs] 30), (bx, .cells #[.string xa, .int .i64 xs] 30)]) := Lib.hid (fun W h => (h.ahead (xa, xs)).mono fun _ _ ⟨he, hp, _⟩ => ⟨by rw [he, hah.out], hp⟩)
            have hBl0 : Hid (∀ W, Ply w W D (.slice (some ⟨g, 0, none⟩) m c6) L L [(by_, .cells #[.string xa, .int .i64 xs] 30), (bx, .cells #[.string xa, .int .i64 xs] 30)] → Calls Tryd.prog 20 #[.pointer (some ⟨D, 0, none⟩), .int .i64 xs, .bool false] W fun e w' => e = .returned (.int .i64 (b0 : Int)) ∧ Ply w w' D (.slice (some ⟨g, 0, none⟩) m c6) L L [(by_, .cells #[.string xa, .int .i64 xs] 30), (bx, .cells #[.string xa, .int .i64 xs] 30)]) := Lib.hid (fun W h => (h.below xs false).mono fun _ _ ⟨he, hp, _⟩ => ⟨by rw [he, hb0H.out], hp⟩)
            have hBl1 : Hid (∀ W, Ply w W D (.slice (some ⟨g, 0, none⟩) m c6) L L [(by_, .cells #[.string xa, .int .i64 xs] 30), (bx, .cells #[.string xa, .int .i64 xs] 30)] → Calls Tryd.prog 20 #[.pointer (some ⟨D, 0, none⟩), .int .i64 xs, .bool true] W fun e w' => e = .returned (.int .i64 (b1 : Int)) ∧ Ply w w' D (.slice (some ⟨g, 0, none⟩) m c6) L L [(by_, .cells #[.string xa, .int .i64 xs] 30), (bx, .cells #[.string xa, .int .i64 xs] 30)]) := Lib.hid (fun W h => (h.below xs true).mono fun _ _ ⟨he, hp, _⟩ => ⟨by rw [he, hb1H.out], hp⟩)
            have hPu : Hid (∀ W, Ply w W D (.slice (some ⟨g, 0, none⟩) m c6) L L [(by_, .cells #[.string xa, .int .i64 xs] 30), (bx, .cells #[.string xa, .int .i64 xs] 30)] → Calls Tryd.prog 12 #[.pointer (some ⟨D, 0, none⟩), .agg #[.string xa, .int .i64 xs]] W fun e w' => e = .returned (.bool false) ∧ Ply w w' D (.slice (some ⟨g, 0, none⟩) m c6) L L [(by_, .cells #[.string xa, .int .i64 xs] 30), (bx, .cells #[.string xa, .int .i64 xs] 30)]) := Lib.hid (fun W h => (h.put hTH.out (by have := hLb.out; have := hmH.out; omega) (xa, xs) (hsxH.out _ hmem.out)).mono fun _ _ ⟨he, hp⟩ => ⟨by rw [he, decide_eq_true hmem.out]; rfl, by rw [put_there hmem.out] at hp; exact hp⟩)
            have hdb0 : decide ((i : Int) < (b0 : Int)) = false := decide_eq_false (by omega)
            have hdb1 : decide ((b1 : Int) ≤ (i : Int)) = false := decide_eq_false (by omega)
            have hdb2 : decide (i < b0) = false := decide_eq_false (by omega)
            have hdb3 : decide (b1 ≤ i) = false := decide_eq_false (by omega)
            clear hb0' hb1' hb0 hb1 hrk hah
            rcases Nat.eq_zero_or_pos i with h0 | h0
            · have hz : decide ((0 : Int) < (i : Int)) = false := decide_eq_false (by omega)
              have hz2 : decide (0 < i) = false := decide_eq_false (by omega)
              clear h0
              have hce : Hid (∀ W, Ply w W D (.slice (some ⟨g, 0, none⟩) m c6) L L [(by_, .cells #[.string xa, .int .i64 xs] 30), (bx, .cells #[.string xa, .int .i64 xs] 30)] → W.cell? ⟨by_, 0, none⟩ = some (.string xa) ∧ W.cell? ⟨by_, 1, none⟩ = some (.int .i64 xs) ∧ W.cell? ⟨bx, 0, none⟩ = some (.string xa) ∧ W.cell? ⟨bx, 1, none⟩ = some (.int .i64 xs)) := Lib.hid (fun W h => ⟨h.cell (List.mem_cons_self ..) 0, h.cell (List.mem_cons_self ..) 1, h.cell (List.mem_cons_of_mem _ (List.mem_cons_self ..)) 0, h.cell (List.mem_cons_of_mem _ (List.mem_cons_self ..)) 1⟩)
              obtain ⟨z0, z1, z2, z3⟩ := hce.out _ hP3
              obtain ⟨y0, y1, y2, y3⟩ := hce.out _ hP3d
              go_wp2_with fail
              refine wp_region_held_drew (S := fun w' => w'.cell? ⟨by_, 0, none⟩ = some (.string xa) ∧ w'.cell? ⟨by_, 1, none⟩ = some (.int .i64 xs) ∧ w'.cell? ⟨bx, 0, none⟩ = some (.string xa) ∧ w'.cell? ⟨bx, 1, none⟩ = some (.int .i64 xs)) (by kernel_rfl) ⟨y0, y1, y2, y3⟩ (fun hHeld => ?_)
              refine wpAnyH_take (i := 0) (oi := { dst := some 57, op := Op.move (Operand.tmp 9), type := 3, pos := "law.go:85", after := #[], guard := none }) (v := ?v0) rfl (by kernel_rfl) (by kernel_rfl) (by kernel_rfl) (fun _ _ _ h => h) (Or.inl ⟨by rfl, ?hy0⟩) (by assumption) ?r0
              case hy0 => (intro w hSw; (try dsimp only at hSw); go_simp; try (with_reducible rfl))
              simp only [Act.put, List.setIfInBounds_toArray, List.set_cons_zero, List.set_cons_succ]
              refine wpAnyH_take (i := 1) (oi := { dst := some 58, op := Op.binOp BinOp.gtr 3 (Operand.tmp 57) (Operand.const (Value.int IntKind.i64 0)) 3, type := 4, pos := "law.go:85", after := #[{ on := 0, ground := Ground.data }], guard := none }) (v := ?v1) rfl (by kernel_rfl) (by kernel_rfl) (by kernel_rfl) (fun _ _ _ h => h) (Or.inl ⟨by rfl, ?hy1⟩) (by assumption) ?r1
              case hy1 => (intro w hSw; (try dsimp only at hSw); go_simp; try (with_reducible rfl))
              simp only [Act.put, List.setIfInBounds_toArray, List.set_cons_zero, List.set_cons_succ]
              refine wpAnyH_take (i := 2) (oi := { dst := some 59, op := Op.move (Operand.tmp 58), type := 4, pos := "law.go:85", after := #[{ on := 1, ground := Ground.data }], guard := none }) (v := ?v2) rfl (by kernel_rfl) (by kernel_rfl) (by kernel_rfl) (fun _ _ _ h => h) (Or.inl ⟨by rfl, ?hy2⟩) (by assumption) ?r2
              case hy2 => (intro w hSw; (try dsimp only at hSw); go_simp; try (with_reducible rfl))
              simp only [Act.put, List.setIfInBounds_toArray, List.set_cons_zero, List.set_cons_succ]
              refine wpAnyH_take (i := 3) (oi := { dst := some 60, op := Op.move (Operand.tmp 8), type := 28, pos := "law.go:85", after := #[{ on := 2, ground := Ground.guard }], guard := some (2, true) }) (v := undef) rfl (by kernel_rfl) (by kernel_rfl) (by kernel_rfl) (fun _ _ _ h => h) (Or.inr ⟨by rfl, rfl⟩) (by assumption) ?_
              simp only [Act.put, List.setIfInBounds_toArray, List.set_cons_zero, List.set_cons_succ]
              refine wpAnyH_take (i := 4) (oi := { dst := some 61, op := Op.move (Operand.tmp 9), type := 3, pos := "law.go:85", after := #[{ on := 2, ground := Ground.guard }], guard := some (2, true) }) (v := undef) rfl (by kernel_rfl) (by kernel_rfl) (by kernel_rfl) (fun _ _ _ h => h) (Or.inr ⟨by rfl, rfl⟩) (by assumption) ?_
              simp only [Act.put, List.setIfInBounds_toArray, List.set_cons_zero, List.set_cons_succ]
              refine wpAnyH_take (i := 5) (oi := { dst := some 62, op := Op.binOp BinOp.sub 3 (Operand.tmp 61) (Operand.const (Value.int IntKind.i64 1)) 3, type := 3, pos := "law.go:85", after := #[{ on := 4, ground := Ground.data }, { on := 2, ground := Ground.guard }], guard := some (2, true) }) (v := undef) rfl (by kernel_rfl) (by kernel_rfl) (by kernel_rfl) (fun _ _ _ h => h) (Or.inr ⟨by rfl, rfl⟩) (by assumption) ?_
              simp only [Act.put, List.setIfInBounds_toArray, List.set_cons_zero, List.set_cons_succ]
              refine wpAnyH_take (i := 6) (oi := { dst := some 63, op := Op.indexAddr 28 (Operand.tmp 60) (Operand.tmp 62), type := 0, pos := "law.go:85", after := #[{ on := 3, ground := Ground.data }, { on := 5, ground := Ground.data }, { on := 2, ground := Ground.guard }], guard := some (2, true) }) (v := undef) rfl (by kernel_rfl) (by kernel_rfl) (by kernel_rfl) (fun _ _ _ h => h) (Or.inr ⟨by rfl, rfl⟩) (by assumption) ?_
              simp only [Act.put, List.setIfInBounds_toArray, List.set_cons_zero, List.set_cons_succ]
              refine wpAnyH_take (i := 7) (oi := { dst := some 64, op := Op.load 30 (Operand.tmp 63), type := 30, pos := "law.go:85", after := #[{ on := 6, ground := Ground.data }, { on := 2, ground := Ground.guard }], guard := some (2, true) }) (v := undef) rfl (by kernel_rfl) (by kernel_rfl) (by kernel_rfl) (fun _ _ _ h => h) (Or.inr ⟨by rfl, rfl⟩) (by assumption) ?_
              simp only [Act.put, List.setIfInBounds_toArray, List.set_cons_zero, List.set_cons_succ]
              refine wpAnyH_take (i := 8) (oi := { dst := some 65, op := Op.load 30 (Operand.tmp 10), type := 30, pos := "law.go:85", after := #[{ on := 2, ground := Ground.guard }], guard := some (2, true) }) (v := undef) rfl (by kernel_rfl) (by kernel_rfl) (by kernel_rfl) (fun _ _ _ h => h) (Or.inr ⟨by rfl, rfl⟩) (by assumption) ?_
              simp only [Act.put, List.setIfInBounds_toArray, List.set_cons_zero, List.set_cons_succ]
              refine wpAnyH_take (i := 9) (oi := { dst := some 66, op := Op.call { callee := Callee.value (Operand.func 25), args := #[Operand.tmp 64, Operand.tmp 65], argTypes := #[30, 30] }, type := 4, pos := "law.go:85", after := #[{ on := 7, ground := Ground.data }, { on := 8, ground := Ground.data }, { on := 2, ground := Ground.chain }, { on := 2, ground := Ground.guard }], guard := some (2, true) }) (v := undef) rfl (by kernel_rfl) (by kernel_rfl) (by kernel_rfl) (fun _ _ _ h => h) (Or.inr ⟨by rfl, rfl⟩) (by assumption) ?_
              simp only [Act.put, List.setIfInBounds_toArray, List.set_cons_zero, List.set_cons_succ]
              refine wpAnyH_take (i := 10) (oi := { dst := some 67, op := Op.unOp UnOp.not 4 (Operand.tmp 66), type := 4, pos := "law.go:85", after := #[{ on := 9, ground := Ground.data }, { on := 2, ground := Ground.guard }], guard := some (2, true) }) (v := undef) rfl (by kernel_rfl) (by kernel_rfl) (by kernel_rfl) (fun _ _ _ h => h) (Or.inr ⟨by rfl, rfl⟩) (by assumption) ?_
              simp only [Act.put, List.setIfInBounds_toArray, List.set_cons_zero, List.set_cons_succ]
              refine wpAnyH_take (i := 11) (oi := { dst := some 68, op := Op.pick (Operand.tmp 59) (Operand.tmp 67) (Operand.const (Value.bool false)), type := 4, pos := "law.go:85", after := #[{ on := 2, ground := Ground.data }, { on := 10, ground := Ground.data }], guard := none }) (v := ?v11) rfl (by kernel_rfl) (by kernel_rfl) (by kernel_rfl) (fun _ _ _ h => h) (Or.inl ⟨by rfl, ?hy11⟩) (by assumption) ?r11
              case hy11 => (intro w hSw; (try dsimp only at hSw); go_simp; try (with_reducible rfl))
              simp only [Act.put, List.setIfInBounds_toArray, List.set_cons_zero, List.set_cons_succ]
              refine wpAnyH_take (i := 12) (oi := { dst := some 69, op := Op.move (Operand.tmp 68), type := 4, pos := "law.go:85", after := #[{ on := 11, ground := Ground.data }, { on := 9, ground := Ground.chain }], guard := none }) (v := ?v12) rfl (by kernel_rfl) (by kernel_rfl) (by kernel_rfl) (fun _ _ _ h => h) (Or.inl ⟨by rfl, ?hy12⟩) (by assumption) ?r12
              case hy12 => (intro w hSw; (try dsimp only at hSw); go_simp; try (with_reducible rfl))
              simp only [Act.put, List.setIfInBounds_toArray, List.set_cons_zero, List.set_cons_succ]
              refine wpAnyH_take (i := 13) (oi := { dst := some 70, op := Op.load 30 (Operand.tmp 11), type := 30, pos := "law.go:85", after := #[{ on := 12, ground := Ground.guard }], guard := some (12, false) }) (v := ?v13) rfl (by kernel_rfl) (by kernel_rfl) (by kernel_rfl) (fun _ _ _ h => h) (Or.inl ⟨by rfl, ?hy13⟩) (by assumption) ?r13
              case hy13 => (intro w hSw; (try dsimp only at hSw); go_simp; try (with_reducible rfl))
              simp only [Act.put, List.setIfInBounds_toArray, List.set_cons_zero, List.set_cons_succ]
              refine wpAnyH_take (i := 14) (oi := { dst := some 71, op := Op.load 30 (Operand.tmp 10), type := 30, pos := "law.go:85", after := #[{ on := 12, ground := Ground.guard }], guard := some (12, false) }) (v := ?v14) rfl (by kernel_rfl) (by kernel_rfl) (by kernel_rfl) (fun _ _ _ h => h) (Or.inl ⟨by rfl, ?hy14⟩) (by assumption) ?r14
              case hy14 => (intro w hSw; (try dsimp only at hSw); go_simp; try (with_reducible rfl))
              simp only [Act.put, List.setIfInBounds_toArray, List.set_cons_zero, List.set_cons_succ]
              refine wpAnyH_take (i := 15) (oi := { dst := some 72, op := Op.binOp BinOp.neq 30 (Operand.tmp 70) (Operand.tmp 71) 30, type := 4, pos := "law.go:85", after := #[{ on := 13, ground := Ground.data }, { on := 14, ground := Ground.data }, { on := 12, ground := Ground.guard }], guard := some (12, false) }) (v := ?v15) rfl (by kernel_rfl) (by kernel_rfl) (by kernel_rfl) (fun _ _ _ h => h) (Or.inl ⟨by rfl, ?hy15⟩) (by assumption) ?r15
              case hy15 => (intro w hSw; (try dsimp only at hSw); go_simp; try (with_reducible rfl))
              simp only [Act.put, List.setIfInBounds_toArray, List.set_cons_zero, List.set_cons_succ]
              refine wpAnyH_take (i := 16) (oi := { dst := some 73, op := Op.pick (Operand.tmp 69) (Operand.const (Value.bool true)) (Operand.tmp 72), type := 4, pos := "law.go:85", after := #[{ on := 12, ground := Ground.data }, { on := 15, ground := Ground.data }], guard := none }) (v := ?v16) rfl (by kernel_rfl) (by kernel_rfl) (by kernel_rfl) (fun _ _ _ h => h) (Or.inl ⟨by rfl, ?hy16⟩) (by assumption) ?r16
              case hy16 => (intro w hSw; (try dsimp only at hSw); go_simp; try (with_reducible rfl))
              simp only [Act.put, List.setIfInBounds_toArray, List.set_cons_zero, List.set_cons_succ]
              refine wpAnyH_take (i := 17) (oi := { dst := some 74, op := Op.move (Operand.tmp 73), type := 4, pos := "law.go:85", after := #[{ on := 16, ground := Ground.data }, { on := 12, ground := Ground.chain }], guard := none }) (v := ?v17) rfl (by kernel_rfl) (by kernel_rfl) (by kernel_rfl) (fun _ _ _ h => h) (Or.inl ⟨by rfl, ?hy17⟩) (by assumption) ?r17
              case hy17 => (intro w hSw; (try dsimp only at hSw); go_simp; try (with_reducible rfl))
              simp only [Act.put, List.setIfInBounds_toArray, List.set_cons_zero, List.set_cons_succ]
              refine wpAnyH_take (i := 18) (oi := { dst := some 75, op := Op.move (Operand.tmp 12), type := 4, pos := "law.go:85", after := #[{ on := 17, ground := Ground.guard }], guard := some (17, false) }) (v := ?v18) rfl (by kernel_rfl) (by kernel_rfl) (by kernel_rfl) (fun _ _ _ h => h) (Or.inl ⟨by rfl, ?hy18⟩) (by assumption) ?r18
              case hy18 => (intro w hSw; (try dsimp only at hSw); go_simp; try (with_reducible rfl))
              simp only [Act.put, List.setIfInBounds_toArray, List.set_cons_zero, List.set_cons_succ]
              refine wpAnyH_take (i := 19) (oi := { dst := some 76, op := Op.unOp UnOp.not 4 (Operand.tmp 75), type := 4, pos := "law.go:85", after := #[{ on := 18, ground := Ground.data }, { on := 17, ground := Ground.guard }], guard := some (17, false) }) (v := ?v19) rfl (by kernel_rfl) (by kernel_rfl) (by kernel_rfl) (fun _ _ _ h => h) (Or.inl ⟨by rfl, ?hy19⟩) (by assumption) ?r19
              case hy19 => (intro w hSw; (try dsimp only at hSw); go_simp; try (with_reducible rfl))
              simp only [Act.put, List.setIfInBounds_toArray, List.set_cons_zero, List.set_cons_succ]
              refine wpAnyH_take (i := 20) (oi := { dst := some 77, op := Op.pick (Operand.tmp 74) (Operand.const (Value.bool true)) (Operand.tmp 76), type := 4, pos := "law.go:85", after := #[{ on := 17, ground := Ground.data }, { on := 19, ground := Ground.data }], guard := none }) (v := ?v20) rfl (by kernel_rfl) (by kernel_rfl) (by kernel_rfl) (fun _ _ _ h => h) (Or.inl ⟨by rfl, ?hy20⟩) (by assumption) ?r20
              case hy20 => (intro w hSw; (try dsimp only at hSw); go_simp; try (with_reducible rfl))
              simp only [Act.put, List.setIfInBounds_toArray, List.set_cons_zero, List.set_cons_succ]
              refine wpAnyH_take (i := 21) (oi := { dst := some 78, op := Op.move (Operand.tmp 77), type := 4, pos := "law.go:85", after := #[{ on := 20, ground := Ground.data }, { on := 17, ground := Ground.chain }], guard := none }) (v := ?v21) rfl (by kernel_rfl) (by kernel_rfl) (by kernel_rfl) (fun _ _ _ h => h) (Or.inl ⟨by rfl, ?hy21⟩) (by assumption) ?r21
              case hy21 => (intro w hSw; (try dsimp only at hSw); go_simp; try (with_reducible rfl))
              simp only [Act.put, List.setIfInBounds_toArray, List.set_cons_zero, List.set_cons_succ]
              refine wpAnyH_take (i := 22) (oi := { dst := some 79, op := Op.move (Operand.tmp 5), type := 26, pos := "law.go:85", after := #[{ on := 21, ground := Ground.guard }], guard := some (21, false) }) (v := ?v22) rfl (by kernel_rfl) (by kernel_rfl) (by kernel_rfl) (fun _ _ _ h => h) (Or.inl ⟨by rfl, ?hy22⟩) (by assumption) ?r22
              case hy22 => (intro w hSw; (try dsimp only at hSw); go_simp; try (with_reducible rfl))
              simp only [Act.put, List.setIfInBounds_toArray, List.set_cons_zero, List.set_cons_succ]
              refine wpAnyH_take (i := 23) (oi := { dst := some 80, op := Op.load 30 (Operand.tmp 10), type := 30, pos := "law.go:85", after := #[{ on := 21, ground := Ground.guard }], guard := some (21, false) }) (v := ?v23) rfl (by kernel_rfl) (by kernel_rfl) (by kernel_rfl) (fun _ _ _ h => h) (Or.inl ⟨by rfl, ?hy23⟩) (by assumption) ?r23
              case hy23 => (intro w hSw; (try dsimp only at hSw); go_simp; try (with_reducible rfl))
              simp only [Act.put, List.setIfInBounds_toArray, List.set_cons_zero, List.set_cons_succ]
              refine wpAnyH_take (i := 25) (oi := { dst := some 82, op := Op.move (Operand.tmp 9), type := 3, pos := "law.go:85", after := #[{ on := 21, ground := Ground.guard }], guard := some (21, false) }) (v := ?v25) rfl (by kernel_rfl) (by kernel_rfl) (by kernel_rfl) (fun _ _ _ h => h) (Or.inl ⟨by rfl, ?hy25⟩) (by assumption) ?r25
              case hy25 => (intro w hSw; (try dsimp only at hSw); go_simp; try (with_reducible rfl))
              simp only [Act.put, List.setIfInBounds_toArray, List.set_cons_zero, List.set_cons_succ]
              refine wpAnyH_ready (rs := [24]) (by kernel_rfl) (by simp) ?_
              refine AllReadyH.cons (o := { dst := some 81, op := Op.call { callee := Callee.value (Operand.func 16), args := #[Operand.tmp 79, Operand.tmp 80], argTypes := #[26, 30] }, type := 3, pos := "law.go:85", after := #[{ on := 22, ground := Ground.data }, { on := 23, ground := Ground.data }, { on := 21, ground := Ground.chain }, { on := 21, ground := Ground.guard }], guard := some (21, false) }) rfl (fun K hK => ?_) AllReadyH.nil
              go_simp
              go_at_call 16
              with_reducible refine (hRk.out _ (by assumption)).mono ?_
              rintro r W1_ ⟨rfl, p1_⟩
              try go_wp2_with fail
              refine hK.out _ _ (hce.out _ p1_) (fun hHeld => ?_)
              clear hK K
              try simp only [Act.put, List.setIfInBounds_toArray, List.set_cons_zero, List.set_cons_succ]
              refine wpAnyH_take (i := 26) (oi := { dst := some 83, op := Op.binOp BinOp.neq 3 (Operand.tmp 81) (Operand.tmp 82) 3, type := 4, pos := "law.go:85", after := #[{ on := 24, ground := Ground.data }, { on := 25, ground := Ground.data }, { on := 21, ground := Ground.guard }], guard := some (21, false) }) (v := ?v26) rfl (by kernel_rfl) (by kernel_rfl) (by kernel_rfl) (fun _ _ _ h => h) (Or.inl ⟨by rfl, ?hy26⟩) (by assumption) ?r26
              case hy26 => (intro w hSw; (try dsimp only at hSw); go_simp; try (with_reducible rfl))
              simp only [Act.put, List.setIfInBounds_toArray, List.set_cons_zero, List.set_cons_succ]
              refine wpAnyH_take (i := 27) (oi := { dst := some 84, op := Op.pick (Operand.tmp 78) (Operand.const (Value.bool true)) (Operand.tmp 83), type := 4, pos := "law.go:85", after := #[{ on := 21, ground := Ground.data }, { on := 26, ground := Ground.data }], guard := none }) (v := ?v27) rfl (by kernel_rfl) (by kernel_rfl) (by kernel_rfl) (fun _ _ _ h => h) (Or.inl ⟨by rfl, ?hy27⟩) (by assumption) ?r27
              case hy27 => (intro w hSw; (try dsimp only at hSw); go_simp; try (with_reducible rfl))
              simp only [Act.put, List.setIfInBounds_toArray, List.set_cons_zero, List.set_cons_succ]
              refine wpAnyH_take (i := 28) (oi := { dst := some 85, op := Op.move (Operand.tmp 84), type := 4, pos := "law.go:85", after := #[{ on := 27, ground := Ground.data }, { on := 24, ground := Ground.chain }], guard := none }) (v := ?v28) rfl (by kernel_rfl) (by kernel_rfl) (by kernel_rfl) (fun _ _ _ h => h) (Or.inl ⟨by rfl, ?hy28⟩) (by assumption) ?r28
              case hy28 => (intro w hSw; (try dsimp only at hSw); go_simp; try (with_reducible rfl))
              simp only [Act.put, List.setIfInBounds_toArray, List.set_cons_zero, List.set_cons_succ]
              refine wpAnyH_take (i := 29) (oi := { dst := some 86, op := Op.move (Operand.tmp 5), type := 26, pos := "law.go:85", after := #[{ on := 28, ground := Ground.guard }], guard := some (28, false) }) (v := ?v29) rfl (by kernel_rfl) (by kernel_rfl) (by kernel_rfl) (fun _ _ _ h => h) (Or.inl ⟨by rfl, ?hy29⟩) (by assumption) ?r29
              case hy29 => (intro w hSw; (try dsimp only at hSw); go_simp; try (with_reducible rfl))
              simp only [Act.put, List.setIfInBounds_toArray, List.set_cons_zero, List.set_cons_succ]
              refine wpAnyH_take (i := 30) (oi := { dst := some 87, op := Op.load 30 (Operand.tmp 10), type := 30, pos := "law.go:85", after := #[{ on := 28, ground := Ground.guard }], guard := some (28, false) }) (v := ?v30) rfl (by kernel_rfl) (by kernel_rfl) (by kernel_rfl) (fun _ _ _ h => h) (Or.inl ⟨by rfl, ?hy30⟩) (by assumption) ?r30
              case hy30 => (intro w hSw; (try dsimp only at hSw); go_simp; try (with_reducible rfl))
              simp only [Act.put, List.setIfInBounds_toArray, List.set_cons_zero, List.set_cons_succ]
              refine wpAnyH_take (i := 32) (oi := { dst := some 89, op := Op.move (Operand.tmp 9), type := 3, pos := "law.go:85", after := #[{ on := 28, ground := Ground.guard }], guard := some (28, false) }) (v := ?v32) rfl (by kernel_rfl) (by kernel_rfl) (by kernel_rfl) (fun _ _ _ h => h) (Or.inl ⟨by rfl, ?hy32⟩) (by assumption) ?r32
              case hy32 => (intro w hSw; (try dsimp only at hSw); go_simp; try (with_reducible rfl))
              simp only [Act.put, List.setIfInBounds_toArray, List.set_cons_zero, List.set_cons_succ]
              refine wpAnyH_ready (rs := [31]) (by kernel_rfl) (by simp) ?_
              refine AllReadyH.cons (o := { dst := some 88, op := Op.call { callee := Callee.value (Operand.func 18), args := #[Operand.tmp 86, Operand.tmp 87], argTypes := #[26, 30] }, type := 3, pos := "law.go:85", after := #[{ on := 29, ground := Ground.data }, { on := 30, ground := Ground.data }, { on := 28, ground := Ground.chain }, { on := 28, ground := Ground.guard }], guard := some (28, false) }) rfl (fun K hK => ?_) AllReadyH.nil
              go_simp
              go_at_call 18
              with_reducible refine (hAh.out _ (by assumption)).mono ?_
              rintro r W2_ ⟨rfl, p2_⟩
              try go_wp2_with fail
              refine hK.out _ _ (hce.out _ p2_) (fun hHeld => ?_)
              clear hK K
              try simp only [Act.put, List.setIfInBounds_toArray, List.set_cons_zero, List.set_cons_succ]
              refine wpAnyH_take (i := 33) (oi := { dst := some 90, op := Op.binOp BinOp.neq 3 (Operand.tmp 88) (Operand.tmp 89) 3, type := 4, pos := "law.go:85", after := #[{ on := 31, ground := Ground.data }, { on := 32, ground := Ground.data }, { on := 28, ground := Ground.guard }], guard := some (28, false) }) (v := ?v33) rfl (by kernel_rfl) (by kernel_rfl) (by kernel_rfl) (fun _ _ _ h => h) (Or.inl ⟨by rfl, ?hy33⟩) (by assumption) ?r33
              case hy33 => (intro w hSw; (try dsimp only at hSw); go_simp; try (with_reducible rfl))
              simp only [Act.put, List.setIfInBounds_toArray, List.set_cons_zero, List.set_cons_succ]
              refine wpAnyH_take (i := 34) (oi := { dst := some 91, op := Op.pick (Operand.tmp 85) (Operand.const (Value.bool true)) (Operand.tmp 90), type := 4, pos := "law.go:85", after := #[{ on := 28, ground := Ground.data }, { on := 33, ground := Ground.data }], guard := none }) (v := ?v34) rfl (by kernel_rfl) (by kernel_rfl) (by kernel_rfl) (fun _ _ _ h => h) (Or.inl ⟨by rfl, ?hy34⟩) (by assumption) ?r34
              case hy34 => (intro w hSw; (try dsimp only at hSw); go_simp; try (with_reducible rfl))
              simp only [Act.put, List.setIfInBounds_toArray, List.set_cons_zero, List.set_cons_succ]
              refine wpAnyH_take (i := 35) (oi := { dst := some 92, op := Op.move (Operand.tmp 91), type := 4, pos := "law.go:85", after := #[{ on := 34, ground := Ground.data }, { on := 31, ground := Ground.chain }], guard := none }) (v := ?v35) rfl (by kernel_rfl) (by kernel_rfl) (by kernel_rfl) (fun _ _ _ h => h) (Or.inl ⟨by rfl, ?hy35⟩) (by assumption) ?r35
              case hy35 => (intro w hSw; (try dsimp only at hSw); go_simp; try (with_reducible rfl))
              simp only [Act.put, List.setIfInBounds_toArray, List.set_cons_zero, List.set_cons_succ]
              refine wpAnyH_take (i := 36) (oi := { dst := some 93, op := Op.move (Operand.tmp 5), type := 26, pos := "law.go:85", after := #[{ on := 35, ground := Ground.guard }], guard := some (35, false) }) (v := ?v36) rfl (by kernel_rfl) (by kernel_rfl) (by kernel_rfl) (fun _ _ _ h => h) (Or.inl ⟨by rfl, ?hy36⟩) (by assumption) ?r36
              case hy36 => (intro w hSw; (try dsimp only at hSw); go_simp; try (with_reducible rfl))
              simp only [Act.put, List.setIfInBounds_toArray, List.set_cons_zero, List.set_cons_succ]
              refine wpAnyH_take (i := 37) (oi := { dst := some 94, op := Op.fieldAddr 30 (Operand.tmp 10) 1, type := 0, pos := "law.go:85", after := #[{ on := 35, ground := Ground.guard }], guard := some (35, false) }) (v := ?v37) rfl (by kernel_rfl) (by kernel_rfl) (by kernel_rfl) (fun _ _ _ h => h) (Or.inl ⟨by rfl, ?hy37⟩) (by assumption) ?r37
              case hy37 => (intro w hSw; (try dsimp only at hSw); go_simp; try (with_reducible rfl))
              simp only [Act.put, List.setIfInBounds_toArray, List.set_cons_zero, List.set_cons_succ]
              refine wpAnyH_take (i := 38) (oi := { dst := some 95, op := Op.load 2 (Operand.tmp 94), type := 2, pos := "law.go:85", after := #[{ on := 37, ground := Ground.data }, { on := 35, ground := Ground.guard }], guard := some (35, false) }) (v := ?v38) rfl (by kernel_rfl) (by kernel_rfl) (by kernel_rfl) (fun _ _ _ h => h) (Or.inl ⟨by rfl, ?hy38⟩) (by assumption) ?r38
              case hy38 => (intro w hSw; (try dsimp only at hSw); go_simp; try (with_reducible rfl))
              simp only [Act.put, List.setIfInBounds_toArray, List.set_cons_zero, List.set_cons_succ]
              refine wpAnyH_take (i := 40) (oi := { dst := some 97, op := Op.move (Operand.tmp 9), type := 3, pos := "law.go:85", after := #[{ on := 35, ground := Ground.guard }], guard := some (35, false) }) (v := ?v40) rfl (by kernel_rfl) (by kernel_rfl) (by kernel_rfl) (fun _ _ _ h => h) (Or.inl ⟨by rfl, ?hy40⟩) (by assumption) ?r40
              case hy40 => (intro w hSw; (try dsimp only at hSw); go_simp; try (with_reducible rfl))
              simp only [Act.put, List.setIfInBounds_toArray, List.set_cons_zero, List.set_cons_succ]
              refine wpAnyH_ready (rs := [39]) (by kernel_rfl) (by simp) ?_
              refine AllReadyH.cons (o := { dst := some 96, op := Op.call { callee := Callee.value (Operand.func 20), args := #[Operand.tmp 93, Operand.tmp 95, Operand.const (Value.bool false)], argTypes := #[26, 2, 4] }, type := 3, pos := "law.go:85", after := #[{ on := 36, ground := Ground.data }, { on := 38, ground := Ground.data }, { on := 35, ground := Ground.chain }, { on := 35, ground := Ground.guard }], guard := some (35, false) }) rfl (fun K hK => ?_) AllReadyH.nil
              go_simp
              go_at_call 20
              with_reducible refine (hBl0.out _ (by assumption)).mono ?_
              rintro r W3_ ⟨rfl, p3_⟩
              try go_wp2_with fail
              refine hK.out _ _ (hce.out _ p3_) (fun hHeld => ?_)
              clear hK K
              try simp only [Act.put, List.setIfInBounds_toArray, List.set_cons_zero, List.set_cons_succ]
              refine wpAnyH_take (i := 41) (oi := { dst := some 98, op := Op.binOp BinOp.gtr 3 (Operand.tmp 96) (Operand.tmp 97) 3, type := 4, pos := "law.go:85", after := #[{ on := 39, ground := Ground.data }, { on := 40, ground := Ground.data }, { on := 35, ground := Ground.guard }], guard := some (35, false) }) (v := ?v41) rfl (by kernel_rfl) (by kernel_rfl) (by kernel_rfl) (fun _ _ _ h => h) (Or.inl ⟨by rfl, ?hy41⟩) (by assumption) ?r41
              case hy41 => (intro w hSw; (try dsimp only at hSw); go_simp; try (with_reducible rfl))
              simp only [Act.put, List.setIfInBounds_toArray, List.set_cons_zero, List.set_cons_succ]
              refine wpAnyH_take (i := 42) (oi := { dst := some 99, op := Op.pick (Operand.tmp 92) (Operand.const (Value.bool true)) (Operand.tmp 98), type := 4, pos := "law.go:85", after := #[{ on := 35, ground := Ground.data }, { on := 41, ground := Ground.data }], guard := none }) (v := ?v42) rfl (by kernel_rfl) (by kernel_rfl) (by kernel_rfl) (fun _ _ _ h => h) (Or.inl ⟨by rfl, ?hy42⟩) (by assumption) ?r42
              case hy42 => (intro w hSw; (try dsimp only at hSw); go_simp; try (with_reducible rfl))
              simp only [Act.put, List.setIfInBounds_toArray, List.set_cons_zero, List.set_cons_succ]
              refine wpAnyH_take (i := 43) (oi := { dst := some 100, op := Op.move (Operand.tmp 99), type := 4, pos := "law.go:85", after := #[{ on := 42, ground := Ground.data }, { on := 39, ground := Ground.chain }], guard := none }) (v := ?v43) rfl (by kernel_rfl) (by kernel_rfl) (by kernel_rfl) (fun _ _ _ h => h) (Or.inl ⟨by rfl, ?hy43⟩) (by assumption) ?r43
              case hy43 => (intro w hSw; (try dsimp only at hSw); go_simp; try (with_reducible rfl))
              simp only [Act.put, List.setIfInBounds_toArray, List.set_cons_zero, List.set_cons_succ]
              refine wpAnyH_take (i := 44) (oi := { dst := some 101, op := Op.move (Operand.tmp 5), type := 26, pos := "law.go:85", after := #[{ on := 43, ground := Ground.guard }], guard := some (43, false) }) (v := ?v44) rfl (by kernel_rfl) (by kernel_rfl) (by kernel_rfl) (fun _ _ _ h => h) (Or.inl ⟨by rfl, ?hy44⟩) (by assumption) ?r44
              case hy44 => (intro w hSw; (try dsimp only at hSw); go_simp; try (with_reducible rfl))
              simp only [Act.put, List.setIfInBounds_toArray, List.set_cons_zero, List.set_cons_succ]
              refine wpAnyH_take (i := 45) (oi := { dst := some 102, op := Op.fieldAddr 30 (Operand.tmp 10) 1, type := 0, pos := "law.go:85", after := #[{ on := 43, ground := Ground.guard }], guard := some (43, false) }) (v := ?v45) rfl (by kernel_rfl) (by kernel_rfl) (by kernel_rfl) (fun _ _ _ h => h) (Or.inl ⟨by rfl, ?hy45⟩) (by assumption) ?r45
              case hy45 => (intro w hSw; (try dsimp only at hSw); go_simp; try (with_reducible rfl))
              simp only [Act.put, List.setIfInBounds_toArray, List.set_cons_zero, List.set_cons_succ]
              refine wpAnyH_take (i := 46) (oi := { dst := some 103, op := Op.load 2 (Operand.tmp 102), type := 2, pos := "law.go:85", after := #[{ on := 45, ground := Ground.data }, { on := 43, ground := Ground.guard }], guard := some (43, false) }) (v := ?v46) rfl (by kernel_rfl) (by kernel_rfl) (by kernel_rfl) (fun _ _ _ h => h) (Or.inl ⟨by rfl, ?hy46⟩) (by assumption) ?r46
              case hy46 => (intro w hSw; (try dsimp only at hSw); go_simp; try (with_reducible rfl))
              simp only [Act.put, List.setIfInBounds_toArray, List.set_cons_zero, List.set_cons_succ]
              refine wpAnyH_take (i := 48) (oi := { dst := some 105, op := Op.move (Operand.tmp 9), type := 3, pos := "law.go:85", after := #[{ on := 43, ground := Ground.guard }], guard := some (43, false) }) (v := ?v48) rfl (by kernel_rfl) (by kernel_rfl) (by kernel_rfl) (fun _ _ _ h => h) (Or.inl ⟨by rfl, ?hy48⟩) (by assumption) ?r48
              case hy48 => (intro w hSw; (try dsimp only at hSw); go_simp; try (with_reducible rfl))
              simp only [Act.put, List.setIfInBounds_toArray, List.set_cons_zero, List.set_cons_succ]
              refine wpAnyH_ready (rs := [47]) (by kernel_rfl) (by simp) ?_
              refine AllReadyH.cons (o := { dst := some 104, op := Op.call { callee := Callee.value (Operand.func 20), args := #[Operand.tmp 101, Operand.tmp 103, Operand.const (Value.bool true)], argTypes := #[26, 2, 4] }, type := 3, pos := "law.go:85", after := #[{ on := 44, ground := Ground.data }, { on := 46, ground := Ground.data }, { on := 43, ground := Ground.chain }, { on := 43, ground := Ground.guard }], guard := some (43, false) }) rfl (fun K hK => ?_) AllReadyH.nil
              go_simp
              go_at_call 20
              with_reducible refine (hBl1.out _ (by assumption)).mono ?_
              rintro r W4_ ⟨rfl, p4_⟩
              try go_wp2_with fail
              refine hK.out _ _ (hce.out _ p4_) (fun hHeld => ?_)
              clear hK K
              try simp only [Act.put, List.setIfInBounds_toArray, List.set_cons_zero, List.set_cons_succ]
              refine wpAnyH_take (i := 49) (oi := { dst := some 106, op := Op.binOp BinOp.leq 3 (Operand.tmp 104) (Operand.tmp 105) 3, type := 4, pos := "law.go:85", after := #[{ on := 47, ground := Ground.data }, { on := 48, ground := Ground.data }, { on := 43, ground := Ground.guard }], guard := some (43, false) }) (v := ?v49) rfl (by kernel_rfl) (by kernel_rfl) (by kernel_rfl) (fun _ _ _ h => h) (Or.inl ⟨by rfl, ?hy49⟩) (by assumption) ?r49
              case hy49 => (intro w hSw; (try dsimp only at hSw); go_simp; try (with_reducible rfl))
              simp only [Act.put, List.setIfInBounds_toArray, List.set_cons_zero, List.set_cons_succ]
              refine wpAnyH_take (i := 50) (oi := { dst := some 107, op := Op.pick (Operand.tmp 100) (Operand.const (Value.bool true)) (Operand.tmp 106), type := 4, pos := "law.go:85", after := #[{ on := 43, ground := Ground.data }, { on := 49, ground := Ground.data }], guard := none }) (v := ?v50) rfl (by kernel_rfl) (by kernel_rfl) (by kernel_rfl) (fun _ _ _ h => h) (Or.inl ⟨by rfl, ?hy50⟩) (by assumption) ?r50
              case hy50 => (intro w hSw; (try dsimp only at hSw); go_simp; try (with_reducible rfl))
              simp only [Act.put, List.setIfInBounds_toArray, List.set_cons_zero, List.set_cons_succ]
              refine wpAnyH_take (i := 51) (oi := { dst := some 108, op := Op.move (Operand.tmp 107), type := 4, pos := "law.go:85", after := #[{ on := 50, ground := Ground.data }, { on := 47, ground := Ground.chain }], guard := none }) (v := ?v51) rfl (by kernel_rfl) (by kernel_rfl) (by kernel_rfl) (fun _ _ _ h => h) (Or.inl ⟨by rfl, ?hy51⟩) (by assumption) ?r51
              case hy51 => (intro w hSw; (try dsimp only at hSw); go_simp; try (with_reducible rfl))
              simp only [Act.put, List.setIfInBounds_toArray, List.set_cons_zero, List.set_cons_succ]
              refine wpAnyH_take (i := 52) (oi := { dst := some 109, op := Op.move (Operand.tmp 5), type := 26, pos := "law.go:85", after := #[{ on := 51, ground := Ground.guard }], guard := some (51, false) }) (v := ?v52) rfl (by kernel_rfl) (by kernel_rfl) (by kernel_rfl) (fun _ _ _ h => h) (Or.inl ⟨by rfl, ?hy52⟩) (by assumption) ?r52
              case hy52 => (intro w hSw; (try dsimp only at hSw); go_simp; try (with_reducible rfl))
              simp only [Act.put, List.setIfInBounds_toArray, List.set_cons_zero, List.set_cons_succ]
              refine wpAnyH_take (i := 53) (oi := { dst := some 110, op := Op.load 30 (Operand.tmp 10), type := 30, pos := "law.go:85", after := #[{ on := 51, ground := Ground.guard }], guard := some (51, false) }) (v := ?v53) rfl (by kernel_rfl) (by kernel_rfl) (by kernel_rfl) (fun _ _ _ h => h) (Or.inl ⟨by rfl, ?hy53⟩) (by assumption) ?r53
              case hy53 => (intro w hSw; (try dsimp only at hSw); go_simp; try (with_reducible rfl))
              simp only [Act.put, List.setIfInBounds_toArray, List.set_cons_zero, List.set_cons_succ]
              refine wpAnyH_ready (rs := [54]) (by kernel_rfl) (by simp) ?_
              refine AllReadyH.cons (o := { dst := some 111, op := Op.call { callee := Callee.value (Operand.func 12), args := #[Operand.tmp 109, Operand.tmp 110], argTypes := #[26, 30] }, type := 4, pos := "law.go:85", after := #[{ on := 52, ground := Ground.data }, { on := 53, ground := Ground.data }, { on := 51, ground := Ground.chain }, { on := 51, ground := Ground.guard }], guard := some (51, false) }) rfl (fun K hK => ?_) AllReadyH.nil
              go_simp
              go_at_call 12
              with_reducible refine (hPu.out _ (by assumption)).mono ?_
              rintro r W5_ ⟨rfl, p5_⟩
              try go_wp2_with fail
              refine hK.out _ _ (hce.out _ p5_) (fun hHeld => ?_)
              clear hK K
              try simp only [Act.put, List.setIfInBounds_toArray, List.set_cons_zero, List.set_cons_succ]
              refine wpAnyH_take (i := 55) (oi := { dst := some 112, op := Op.pick (Operand.tmp 108) (Operand.const (Value.bool true)) (Operand.tmp 111), type := 4, pos := "law.go:85", after := #[{ on := 51, ground := Ground.data }, { on := 54, ground := Ground.data }], guard := none }) (v := ?v55) rfl (by kernel_rfl) (by kernel_rfl) (by kernel_rfl) (fun _ _ _ h => h) (Or.inl ⟨by rfl, ?hy55⟩) (by assumption) ?r55
              case hy55 => (intro w hSw; (try dsimp only at hSw); go_simp; try (with_reducible rfl))
              simp only [Act.put, List.setIfInBounds_toArray, List.set_cons_zero, List.set_cons_succ]
              refine wpAnyH_done (by kernel_rfl) ?_ _
              have p15H := Lib.hid p5_
              all_goals go_wp2_with fail
              all_goals go_roundw
              case rel => exact ⟨i + 1, by have := him.out; omega, by go_num, Lib.hid (p15H.out.less (K' := []) (by simp))⟩
              case measure => have := him.out; simp [intOf]; omega
            · obtain ⟨k, hk⟩ : ∃ k, k = i - 1 := ⟨_, rfl⟩
              obtain ⟨⟨xa0, xs0⟩, hx0⟩ : ∃ x, L[k]? = some x := ⟨_, List.getElem?_eq_getElem (by have := him.out; have := hmH.out; omega)⟩
              have hles : lessS (xa0, xs0) (xa, xs) = true := rises_lt hrH.out (by omega) hx0 hxH.out
              have hrow : Hid (∀ W, Ply w W D (.slice (some ⟨g, 0, none⟩) m c6) L L [(by_, .cells #[.string xa, .int .i64 xs] 30), (bx, .cells #[.string xa, .int .i64 xs] 30)] → W.cell? ⟨g, k * 2, none⟩ = some (.string xa0) ∧ W.cell? ⟨g, k * 2 + 1, none⟩ = some (.int .i64 xs0)) := Lib.hid (fun W h => by
                obtain ⟨g', e1, e2, e3⟩ := h.row_at hx0
                cases e1
                exact ⟨e2, e3⟩)
              have hLs : Hid (∀ W, Ply w W D (.slice (some ⟨g, 0, none⟩) m c6) L L [(by_, .cells #[.string xa, .int .i64 xs] 30), (bx, .cells #[.string xa, .int .i64 xs] 30)] → Calls Tryd.prog 25 #[.agg #[.string xa0, .int .i64 xs0], .agg #[.string xa, .int .i64 xs]] W fun e w' => e = .returned (.bool true) ∧ Ply w w' D (.slice (some ⟨g, 0, none⟩) m c6) L L [(by_, .cells #[.string xa, .int .i64 xs] 30), (bx, .cells #[.string xa, .int .i64 xs] 30)]) := Lib.hid (fun W h => (less_any (xa0, xs0) (xa, xs) W).mono fun _ _ ⟨he, hp⟩ => ⟨by rw [he, hles], h.same hp⟩)
              have hz : decide ((0 : Int) < (i : Int)) = true := decide_eq_true (by omega)
              have hz2 : decide (0 < i) = true := decide_eq_true (by omega)
              have hwk := wrap_small (x := (i : Int) - 1) (by have := hib.out; omega)
              have hix0 := run_ix_lit g k m c6 (by have := him.out; omega) ((i : Int) - 1) (by omega)
              clear h0 hk hx0 hles
              have hce : Hid (∀ W, Ply w W D (.slice (some ⟨g, 0, none⟩) m c6) L L [(by_, .cells #[.string xa, .int .i64 xs] 30), (bx, .cells #[.string xa, .int .i64 xs] 30)] → W.cell? ⟨g, k * 2, none⟩ = some (.string xa0) ∧ W.cell? ⟨g, k * 2 + 1, none⟩ = some (.int .i64 xs0) ∧ W.cell? ⟨by_, 0, none⟩ = some (.string xa) ∧ W.cell? ⟨by_, 1, none⟩ = some (.int .i64 xs) ∧ W.cell? ⟨bx, 0, none⟩ = some (.string xa) ∧ W.cell? ⟨bx, 1, none⟩ = some (.int .i64 xs)) := Lib.hid (fun W h => ⟨(hrow.out W h).1, (hrow.out W h).2, h.cell (List.mem_cons_self ..) 0, h.cell (List.mem_cons_self ..) 1, h.cell (List.mem_cons_of_mem _ (List.mem_cons_self ..)) 0, h.cell (List.mem_cons_of_mem _ (List.mem_cons_self ..)) 1⟩)
              obtain ⟨z0, z1, z2, z3, z4, z5⟩ := hce.out _ hP3
              obtain ⟨y0, y1, y2, y3, y4, y5⟩ := hce.out _ hP3d
              go_wp2_with fail
              go_region_held3 (fun w' => w'.cell? ⟨g, k * 2, none⟩ = some (.string xa0) ∧ w'.cell? ⟨g, k * 2 + 1, none⟩ = some (.int .i64 xs0) ∧ w'.cell? ⟨by_, 0, none⟩ = some (.string xa) ∧ w'.cell? ⟨by_, 1, none⟩ = some (.int .i64 xs) ∧ w'.cell? ⟨bx, 0, none⟩ = some (.string xa) ∧ w'.cell? ⟨bx, 1, none⟩ = some (.int .i64 xs))
                (first | exact ⟨z0, z1, z2, z3, z4, z5⟩ | assumption | (refine ⟨?_, ?_, ?_, ?_, ?_, ?_⟩ <;> assumption))
                (first
                  | (go_at_call 25; ((with_reducible refine (hLs.out _ (by assumption)).mono ?_); rintro r w11 ⟨rfl, p11⟩; obtain ⟨t0, t1, t2, t3, t4, t5⟩ := hce.out _ p11))
                  | (go_at_call 16; ((with_reducible refine (hRk.out _ (by assumption)).mono ?_); rintro r w12 ⟨rfl, p12⟩; obtain ⟨t0, t1, t2, t3, t4, t5⟩ := hce.out _ p12))
                  | (go_at_call 18; ((with_reducible refine (hAh.out _ (by assumption)).mono ?_); rintro r w13 ⟨rfl, p13⟩; obtain ⟨t0, t1, t2, t3, t4, t5⟩ := hce.out _ p13))
                  | (go_at_call 20; ((first | (with_reducible refine (hBl0.out _ (by assumption)).mono ?_) | (with_reducible refine (hBl1.out _ (by assumption)).mono ?_)); rintro r w14 ⟨rfl, p14⟩; obtain ⟨t0, t1, t2, t3, t4, t5⟩ := hce.out _ p14))
                  | (go_at_call 12; ((with_reducible refine (hPu.out _ (by assumption)).mono ?_); rintro r w15 ⟨rfl, p15⟩; have p15H := Lib.hid p15; obtain ⟨t0, t1, t2, t3, t4, t5⟩ := hce.out _ p15; clear p15)))
              all_goals go_wp2_with fail
              all_goals go_roundw
              case rel => exact ⟨i + 1, by have := him.out; omega, by go_num, Lib.hid (p15H.out.less (K' := []) (by simp))⟩
              case measure => have := him.out; simp [intOf]; omega
          · have hin : i = m := by omega
            subst hin
            have hal := Lib.hid (fun W (h : Only [] w W) => alive_any W (hTH.out.later h))
            have hmo := Lib.hid hP.out.most
            go_wp2_with (go_at_call 8; ((with_reducible refine (hal.out _ hmo.out).mono ?_); rintro e w9 ⟨rfl, h9⟩; have h9H := Lib.hid (hmo.out.trans h9 (by simp)); clear h9))
            all_goals go_ret
            exact ⟨rfl, h9H.out.below (Nat.le_refl _) (by simp)⟩
end Go.Proofs.YtijfipghoilpeaaDoor
