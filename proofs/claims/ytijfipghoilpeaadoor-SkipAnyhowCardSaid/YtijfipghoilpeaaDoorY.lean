/-
  The law that what is told hangs on which pairs there are alone.
-/
import Derived.Test.YtijfipghoilpeaaDoorW
import Derived.Deep.RegionHeld3
namespace Go.Proofs.YtijfipghoilpeaaDoor
open Go.RowKit

set_option maxRecDepth 100000 in
set_option maxHeartbeats 16000000 in
theorem anyhow_any (w : World) (hT : Tabs w) (s0 s1 : Int) (hu0 : U s0) (hu1 : U s1) (A : Option Addr) (c : Nat) (l : List Sc) (hl : ScsAt w w.heap.size A l) (hsz : ∀ o ∈ l, o.1.size ≤ maxLen) (hll : l.length ≤ 140737488355328) :
    Calls Tryd.prog 5 #[.agg #[.int .u64 s0, .int .u64 s1], .slice A l.length c] w fun e w' => e = .returned (.bool true) ∧ Below w.heap.size w w' := by
  have hTH := Lib.hid hT
  by_cases hlen : l.length ≤ 300
  · have hd : decide ((300 : Int) < (l.length : Int)) = false := decide_eq_false (by omega)
    have hd2 : decide (300 < l.length) = false := decide_eq_false (by omega)
    have hO1 : Only [] w (w.alloc (.cells #[.int .u64 s0, .int .u64 s1] 48)) := (Only.refl [] w).alloc _
    have hb := heap_alloc_new w (.cells #[.int .u64 s0, .int .u64 s1] 48)
    have hN1 := Lib.hid (fun W (h : Only [] w W) => ply_new2 h s0 hu0)
    have hN2 := Lib.hid (fun W D (h : Ply w W D (.slice none 0 0) [] [] []) => twin_new h s1 hu1)
    have hlH := Lib.hid hl
    have hszH := Lib.hid hsz
    have hget : Hid (∀ i, i < l.length → ∃ y, l[i]? = some y) := Lib.hid (fun i hi => ⟨_, List.getElem?_eq_getElem hi⟩)
    have hrev : Hid (∀ i y, i < l.length → l[l.length - 1 - i]? = some y → l.reverse[i]? = some y) := Lib.hid (fun i y hi hy => by rw [List.getElem?_reverse hi]; exact hy)
    have hone : Hid (∀ L M, Rises L → Rises M → (∀ y, y ∈ L ↔ y ∈ l.take l.length) → (∀ y, y ∈ M ↔ y ∈ l.reverse.take l.length) → M = L) := Lib.hid (fun L M h1 h2 h3 h4 => by
      refine rises_ext h2 h1 (fun y => ?_)
      rw [h3, h4, List.take_of_length_le (by simp), List.take_of_length_le (by simp), List.mem_reverse])
    clear hl hsz hll hT hu0 hu1
    generalize l.length = n at *
    go_enter Tryd.func5, Tryd.ntmps5
    go_upto_region 1 with (fail)
    generalize hW1 : w.alloc (.cells #[.int .u64 s0, .int .u64 s1] 48) = W1 at *
    generalize hb0 : w.heap.size = b0 at *
    have x0 : W1.cell? ⟨b0, 0, none⟩ = some (.int .u64 s0) := Lib.cell_of_heap hb 0
    have x1 : W1.cell? ⟨b0, 1, none⟩ = some (.int .u64 s1) := Lib.cell_of_heap hb 1
    have hO1d := hO1.drew
    have x0d : W1.drew.cell? ⟨b0, 0, none⟩ = some (.int .u64 s0) := x0
    have x1d : W1.drew.cell? ⟨b0, 1, none⟩ = some (.int .u64 s1) := x1
    have hb0H := Lib.hid hb0
    clear hW1 hb hb0
    go_wp2_with fail
    go_region_held3 (fun w' => w'.cell? ⟨b0, 0, none⟩ = some (.int .u64 s0) ∧ w'.cell? ⟨b0, 1, none⟩ = some (.int .u64 s1))
      (first | exact ⟨x0, x1⟩ | assumption | (refine ⟨?_, ?_⟩ <;> assumption))
      (first
      | (go_at_call 9; (with_reducible refine (hN1.out _ (by assumption)).mono ?_); rintro r w3 ⟨D, rfl, p3, o3⟩; have e0 := cell_keep (a := W1.drew) o3 x0d; have e1 := cell_keep (a := W1.drew) o3 x1d)
      | (go_at_call 9; (with_reducible refine (hN2.out _ _ (by assumption)).mono ?_); rintro r w4 ⟨E, rfl, p4, o4⟩; have p4H := Lib.hid p4; have t0 := cell_keep (a := w3) o4 e0; have t1 := cell_keep (a := w3) o4 e1; clear p4 o4))
    clear p3 o3 x0 x1 x0d x1d hO1 hO1d hN1 hN2 e0 e1 t0 t1
    go_wp2_with fail
    go_loopw [7, 8, 9, 23] (fun s7 s8 s9 s23 wr => ∃ (i : Nat) (L M : List Sc), i ≤ n ∧ s23 = .int .i64 i ∧ Hid (Twin w wr D E L M []) ∧ Hid ((∀ y, y ∈ L ↔ y ∈ l.take i) ∧ (∀ y, y ∈ M ↔ y ∈ l.reverse.take i) ∧ L.length ≤ i ∧ M.length ≤ i)) (fun _ _ _ s23 _ => n - (intOf s23).toNat)
    case atStart => exact ⟨0, [], [], by omega, rfl, p4H, Lib.hid ⟨by simp, by simp, by simp, by simp⟩⟩
    case round =>
      obtain ⟨i, L, M, hi, rfl, hP, hLM⟩ := hrel
      by_cases hil : i < n
      · obtain ⟨x, hx⟩ := hget.out i hil
        obtain ⟨y, hy⟩ := hget.out (n - 1 - i) (by omega)
        have hbel := hP.out.most.below (B := b0) (by have := hb0H.out; omega) (by simp)
        obtain ⟨a, rfl, ha, x0, x1⟩ := hlH.out.on hbel i x hx
        obtain ⟨a', ha', hab, y0, y1⟩ := hlH.out.on hbel (n - 1 - i) y hy
        cases ha'
        have hyr := hrev.out i y hil hy
        have hix := run_ixA a i n c hil (i : Int) rfl
        have hiy := run_ixA a (n - 1 - i) n c (by omega) ((n : Int) - 1 - (i : Int)) (by omega)
        have hmx := Lib.hid (hszH.out x (List.mem_of_getElem? hx))
        have hmy := Lib.hid (hszH.out y (List.mem_of_getElem? hy))
        have hxH := Lib.hid hx
        have hyH := Lib.hid hyr
        obtain ⟨xa, xs⟩ := x
        obtain ⟨ya, ys⟩ := y
        simp only at x0 x1 y0 y1 hmx hmy
        have hilH := Lib.hid hil
        have hlt : decide ((i : Int) < (n : Int)) = true := decide_eq_true (by omega)
        have hltn : decide (i < n) = true := decide_eq_true hil
        have hw1 := wrap_small (x := (i : Int) + 1) (by omega)
        have hw2 := wrap_small (x := (n : Int) - 1) (by omega)
        have hw3 := wrap_small (x := (n : Int) - 1 - (i : Int)) (by omega)
        have hlenH := Lib.hid hlen
        have hM1 := hP.out.make #[.string xa, .int .i64 xs] 30
        have y0' := fun o => cell_past y0 o
        have y1' := fun o => cell_past y1 o
        have hM2 := Lib.hid (hM1.make #[.string ya, .int .i64 ys] 30)
        clear hx hy hyr hil hM1 hbel
        go_upto_region 8 with fail
        have hsz : (wr.alloc (.cells #[.string xa, .int .i64 xs] 30)).heap.size = wr.heap.size + 1 := by simp
        rw [hsz] at hM2
        clear hsz
        generalize hbx : wr.heap.size = bx at *
        generalize hWx : wr.alloc (.cells #[.string xa, .int .i64 xs] 30) = Wx at *
        generalize hWy : Wx.alloc (.cells #[.string ya, .int .i64 ys] 30) = Wy at *
        clear hbx hWx hWy x0 x1 y0 y1 y0' y1' hix hiy
        have q0 := hM2.out.cellv (List.mem_cons_of_mem _ (List.mem_cons_self ..)) 0 (v := .string xa) rfl
        have q1 := hM2.out.cellv (List.mem_cons_of_mem _ (List.mem_cons_self ..)) 1 (v := .int .i64 xs) rfl
        have q2 := hM2.out.cellv (List.mem_cons_self ..) 0 (v := .string ya) rfl
        have q3 := hM2.out.cellv (List.mem_cons_self ..) 1 (v := .int .i64 ys) rfl
        by_cases hlg : 200 < xa.size
        · have hg1 : decide ((200 : Int) < (xa.size : Int)) = true := decide_eq_true (by omega)
          have hg2 : decide (200 < xa.size) = true := decide_eq_true hlg
          have hal := Lib.hid (alive_any Wy (hTH.out.later hM2.out.most))
          have hmo := Lib.hid hM2.out.most
          clear hlg
          go_wp2_with (go_at_call 8; ((with_reducible refine (hal.out).mono ?_); rintro e w9 ⟨rfl, h9⟩; have h9H := Lib.hid (hmo.out.trans h9 (by simp)); clear h9))
          all_goals go_ret
          exact ⟨rfl, h9H.out.below (by have := hb0H.out; omega) (by simp)⟩
        · have hg1 : decide ((200 : Int) < (xa.size : Int)) = false := decide_eq_false (by omega)
          have hg2 : decide (200 < xa.size) = false := decide_eq_false hlg
          have hS1 := hM2.out.put hTH.out (by have := hLM.out.2.2.1; have := hilH.out; have := hlenH.out; omega) (xa, xs) hmx.out
          unfold scV at hS1
          have hS1H := Lib.hid hS1
          clear hS1 hlg
          go_wp2_with (first
            | (go_at_call 12; ((with_reducible refine (hS1H.out).mono ?_); rintro e w5 ⟨rfl, h5⟩; have r2 := h5.cellv (List.mem_cons_self ..) 0 (v := .string ya) rfl; have r3 := h5.cellv (List.mem_cons_self ..) 1 (v := .int .i64 ys) rfl; have hS2 := h5.put2 hTH.out (by have := hLM.out.2.2.2; have := hilH.out; have := hlenH.out; omega) (ya, ys) hmy.out; unfold scV at hS2; have hS2H := Lib.hid hS2; clear hS2 h5))
            | (go_at_call 12; ((with_reducible refine (hS2H.out).mono ?_); rintro e w6 ⟨rfl, h6⟩; have h6H := Lib.hid (h6.less (K' := []) (by simp)); clear h6)))
          go_roundw
          case rel => exact ⟨i + 1, _, _, by have := hilH.out; omega, by go_num, h6H, Lib.hid ⟨mem_take_put hLM.out.1 hxH.out, mem_take_put hLM.out.2.1 hyH.out, by have := putS_leW L (xa, xs); have := hLM.out.2.2.1; omega, by have := putS_leW M (ya, ys); have := hLM.out.2.2.2; omega⟩⟩
          case measure => have := hilH.out; simp [intOf]; omega
      · have hin : i = n := by omega
        subst hin
        have hLM2 : M = L := hone.out L M hP.out.rises hP.out.swap.rises hLM.out.1 hLM.out.2.1
        subst hLM2
        have hL3 : Hid (M.length ≤ 300) := Lib.hid (by have := hLM.out.2.2.1; omega)
        clear hLM hone hrev p4H hszH
        go_wp2_with fail
        go_loopw [10, 50] (fun s10 s50 wr => ∃ (k : Nat) (L : List Sc), k ≤ i ∧ s50 = .int .i64 k ∧ Hid (Twin w wr D E L L []) ∧ Hid (L.length ≤ 300)) (fun _ s50 _ => i - (intOf s50).toNat)
        case atStart => exact ⟨0, M, by omega, rfl, hP, hL3⟩
        case round =>
          clear hP hL3
          obtain ⟨k, L, hk, rfl, hP, hL3⟩ := hrel
          by_cases hkl : k < i
          · obtain ⟨⟨xa, xs⟩, hx⟩ := hget.out k hkl
            have hkH := Lib.hid hkl
            have hlt : decide ((k : Int) < (i : Int)) = true := decide_eq_true (by omega)
            have hltn : decide (k < i) = true := decide_eq_true hkl
            have hw1 := wrap_small (x := (k : Int) + 1) (by omega)
            have hbit := and_one k (by omega)
            rcases Nat.mod_two_eq_zero_or_one k with hm | hm
            · rw [hm] at hbit
              clear hm hx hkl
              go_wp2_with fail
              go_quiet (fail)
              go_wp2_with fail
              go_roundw
              case rel => exact ⟨k + 1, L, by have := hkH.out; omega, by go_num, Lib.hid (hP.out.same ((Only.refl [] _).drewN _)), hL3⟩
              case measure => have := hkH.out; simp [intOf]; omega
            · rw [hm] at hbit
              obtain ⟨a, rfl, ha, x0, x1⟩ := hlH.out.on (hP.out.most.below (B := b0) (by have := hb0H.out; omega) (by simp)) k _ hx
              simp only at x0 x1
              have hix := run_ixA a k i c hkl (k : Int) rfl
              have hce : Hid (∀ W, Only [] w W → W.cell? (a.add (k * 2)) = some (.string xa) ∧ W.cell? ⟨(a.add (k * 2)).block, (a.add (k * 2)).off + 1, none⟩ = some (.int .i64 xs)) := Lib.hid (fun W h => by
                obtain ⟨a', e1, _, e2, e3⟩ := hlH.out.on (h.below (B := b0) (by have := hb0H.out; omega) (by simp)) k _ hx
                cases e1
                exact ⟨e2, e3⟩)
              obtain ⟨dx, hdx⟩ : ∃ dx, dx = decide ((xa, xs) ∈ L) := ⟨_, rfl⟩
              have hdxH := Lib.hid hdx
              have hDa : Hid (∀ W, Twin w W D E L L [] → Calls Tryd.prog 10 #[.pointer (some ⟨D, 0, none⟩), .agg #[.string xa, .int .i64 xs]] W fun e w' => e = .returned (.bool dx) ∧ Twin w w' D E (dropS L (xa, xs)) L []) := Lib.hid (fun W h => (h.drop (xa, xs)).mono fun _ _ ⟨he, hp⟩ => ⟨by rw [he, hdxH.out], hp⟩)
              have hDb : Hid (∀ W, Twin w W D E (dropS L (xa, xs)) L [] → Calls Tryd.prog 10 #[.pointer (some ⟨E, 0, none⟩), .agg #[.string xa, .int .i64 xs]] W fun e w' => e = .returned (.bool dx) ∧ Twin w w' D E (dropS L (xa, xs)) (dropS L (xa, xs)) []) := Lib.hid (fun W h => (h.drop2 (xa, xs)).mono fun _ _ ⟨he, hp⟩ => ⟨by rw [he, hdxH.out], hp⟩)
              have hPp := hP.out
              have hPd := hP.out.same ((Only.refl [] _).drew)
              have x0d := (hce.out _ hPd.most).1
              have x1d := (hce.out _ hPd.most).2
              clear hm hx hkl hdx
              go_wp2_with fail
              go_region_held3 (fun w' => w'.cell? (a.add (k * 2)) = some (.string xa) ∧ w'.cell? ⟨(a.add (k * 2)).block, (a.add (k * 2)).off + 1, none⟩ = some (.int .i64 xs))
                (first | exact ⟨x0, x1⟩ | assumption | (refine ⟨?_, ?_⟩ <;> assumption))
                (first
                | (go_at_call 10; ((with_reducible refine (hDa.out _ (by assumption)).mono ?_); rintro r w7 ⟨rfl, p7⟩; obtain ⟨t0, t1⟩ := hce.out _ p7.most))
                | (go_at_call 10; ((with_reducible refine (hDb.out _ (by assumption)).mono ?_); rintro r w8 ⟨rfl, p8⟩; have p8H := Lib.hid p8; obtain ⟨t0, t1⟩ := hce.out _ p8.most; clear p8)))
              all_goals go_wp2_with fail
              all_goals go_roundw
              case rel => exact ⟨k + 1, _, by have := hkH.out; omega, by go_num, p8H, Lib.hid (by have := dropS_leW hPp.rises (xa, xs); have := hL3.out; omega)⟩
              case measure => have := hkH.out; simp [intOf]; omega
          · have hkn : k = i := by omega
            subst hkn
            have hla := Lib.hid hP.out.len
            have hlb := Lib.hid hP.out.swap.len
            have hca := hP.out.cut 0 1000 (by omega) (by omega)
            rw [cut_thousandW (by have := hL3.out; omega)] at hca
            have hcaH := Lib.hid hca
            clear hca hget hlH
            obtain ⟨m, hm⟩ : ∃ m, m = L.length := ⟨_, rfl⟩
            have hmH := Lib.hid hm
            rw [← hm] at hla hlb
            clear hm
            go_wp2_with (first
              | (go_at_call 15; (first | (with_reducible refine (hla.out).mono ?_) | (with_reducible refine (hlb.out).mono ?_)); rintro e w' ⟨rfl, rfl⟩)
              | (go_at_call 23; ((with_reducible refine (hcaH.out).mono ?_); rintro e w6 ⟨u6, rfl, r6, p6, o6⟩; have r6H := Lib.hid r6; have hcb := p6.swap.cut 0 1000 (by omega) (by omega); rw [cut_thousandW (by have := hL3.out; omega)] at hcb; have hcbH := Lib.hid hcb; clear r6 p6 o6 hcb))
              | (go_at_call 23; ((with_reducible refine (hcbH.out).mono ?_); rintro e w7 ⟨u7, rfl, r7, p7, o7⟩; have hS := rsame_any (r6H.out.none o7) r7 (by have := hL3.out; omega); rw [decide_eq_true rfl] at hS; have hSH := Lib.hid hS; have p7H := Lib.hid p7; clear hS r7 p7 o7))
              | (go_at_call 22; ((with_reducible refine (hSH.out).mono ?_); rintro e w8 ⟨rfl, o8⟩; have p8H := Lib.hid (p7H.out.same o8); have hal := Lib.hid (alive_any w8 (hTH.out.later p8H.out.most)); clear o8))
              | (go_at_call 8; ((with_reducible refine (hal.out).mono ?_); rintro e w9 ⟨rfl, h9⟩; have h9H := Lib.hid (p8H.out.most.trans h9 (by simp)); clear h9)))
            all_goals go_ret
            exact ⟨rfl, h9H.out.below (by have := hb0H.out; omega) (by simp)⟩
  · have hd : decide ((300 : Int) < (l.length : Int)) = true := decide_eq_true (by omega)
    have hd2 : decide (300 < l.length) = true := decide_eq_true (by omega)
    have hO1 : Only [] w (w.alloc (.cells #[.int .u64 s0, .int .u64 s1] 48)) := (Only.refl [] w).alloc _
    have hal := Lib.hid (alive_any (w.alloc (.cells #[.int .u64 s0, .int .u64 s1] 48)) (hT.later hO1))
    have hO1H := Lib.hid hO1
    clear hl hsz hll hT hO1 hlen
    generalize l.length = n at *
    go_enter Tryd.func5, Tryd.ntmps5
    go_wp2_with (go_at_call 8; ((with_reducible refine (hal.out).mono ?_); rintro e w3 ⟨rfl, h3⟩; have h3H := Lib.hid (hO1H.out.trans h3 (by simp)); clear h3))
    all_goals go_ret
    exact ⟨rfl, h3H.out.below (Nat.le_refl _) (by simp)⟩
end Go.Proofs.YtijfipghoilpeaaDoor
