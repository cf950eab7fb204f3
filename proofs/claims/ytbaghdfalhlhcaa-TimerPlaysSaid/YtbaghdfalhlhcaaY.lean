/-
  The law Due: what is due goes in order, and nothing that is left is due.
-/
import Derived.Test.YtbaghdfalhlhcaaX
import Derived.Deep.QuietTactic
import Derived.BigQuiet
import Derived.IntWalk
namespace Go.Proofs.Ytbaghdfalhlhcaa
open Go.RowKit

/-- What All and Due told, as they lie beside the timer. -/
structure Dd (w0 w : World) (pa : Nat) (now : Int) (L : List Sc) (n d : Nat) (A5 : Option Addr) (c5 : Nat) (A6 : Option Addr) (c6 : Nat) : Prop where
  tm : ∃ O, Pl w0 w pa O (L.drop d)
  row : ∃ B, RowS w B (.slice A5 n c5) L
  due : ∃ B, RowT w B (.slice A6 d c6) ((L.take d).map Prod.fst)
theorem Dd.same {w0 w w' : World} {pa : Nat} {now : Int} {L : List Sc} {n d : Nat} {A5 : Option Addr} {c5 : Nat} {A6 : Option Addr} {c6 : Nat} (h : Dd w0 w pa now L n d A5 c5 A6 c6) (ho : Only [] w w') : Dd w0 w' pa now L n d A5 c5 A6 c6 := by
  obtain ⟨⟨O, h1⟩, ⟨B, h2⟩, ⟨B', h3⟩⟩ := h
  exact ⟨⟨O, h1.same ho⟩, ⟨B, h2.none ho⟩, ⟨B', h3.same ho⟩⟩
theorem Pl.dueD {w0 w : World} {p : Nat} {O : List Nat} {L : List Sc} (h : Pl w0 w p O L) (now : Int) {B n c5 : Nat} {A5 : Option Addr} (h5 : RowS w B (.slice A5 n c5) L) (hn : ∀ k, (Value.slice A5 n c5).ownBlock = some k → k ∉ O) {d : Nat} (hd : d = dueN L now) :
    Calls Try.prog 16 #[.pointer (some ⟨p, 0, none⟩), .int .i64 now] w fun e w' => ∃ A6 c6, e = .returned (.slice A6 d c6) ∧ Dd w0 w' p now L n d A5 c5 A6 c6 := by
  subst hd
  refine (h.due now).mono ?_
  rintro e w' ⟨u, rfl, r, O', p', m, _⟩
  obtain ⟨A6, c6, rfl⟩ := r.len
  rw [List.length_map, List.length_take, Nat.min_eq_left (dueN_le L now)] at r ⊢
  exact ⟨A6, c6, rfl, ⟨O', p'⟩, ⟨B, h5.only m.1 hn⟩, ⟨_, r⟩⟩
set_option maxRecDepth 100000 in
set_option maxHeartbeats 32000000 in
theorem dueLaw_any (w : World) (A : Option Addr) (c : Nat) (now : Int) (l : List OpT) (hO : OpsAt w w.heap.size A l) (hsz : ∀ o ∈ l, o.2.1.size ≤ maxLen) (hl : l.length ≤ 140737488355328) :
    Calls Try.prog 4 #[.slice A l.length c, .int .i64 now] w fun e w' => e = .returned (.bool true) ∧ Below w.heap.size w w' := by
  have hfar := Lib.hid (far_any (c := c) hO hl hsz)
  cases hf : farF l with
  | true =>
    rw [hf] at hfar
    clear hO hsz hl hf
    generalize l.length = n at *
    go_enter Try.func4, Try.ntmps4
    go_wp2_with (first
      | (go_at_call 7; ((with_reducible refine (hfar.out).mono ?_); rintro e w2 ⟨rfl, h2⟩; have h2H := Lib.hid h2; clear h2))
      | (go_at_call 8; ((with_reducible refine (alive_any w2).mono ?_); rintro e w3 ⟨rfl, h3⟩; have h3H := Lib.hid (only_nil h2H.out h3); clear h3)))
    all_goals go_ret
    exact ⟨rfl, h3H.out.below (Nat.le_refl _) (by simp)⟩
  | false =>
    rw [hf] at hfar
    obtain ⟨hn300, hk200⟩ := farF_no hf
    have hkey : Hid (∀ o ∈ l, o.2.1.size ≤ maxLen) := Lib.hid hsz
    have hOH := Lib.hid hO
    obtain ⟨ps, hps⟩ : ∃ ps, ps = l.map Prod.snd := ⟨_, rfl⟩
    have hpsget : Hid (∀ (i : Nat) (o : OpT), l[i]? = some o → ps[i]? = some o.2) := Lib.hid (fun i o ho => by rw [hps, List.getElem?_map, ho]; rfl)
    have hpsl : Hid (ps.length = l.length) := Lib.hid (by rw [hps, List.length_map])
    obtain ⟨n, hnn⟩ : ∃ n, n = l.length := ⟨_, rfl⟩
    have hnH := Lib.hid hnn
    rw [← hnn] at hfar ⊢
    have hnew := Lib.hid (fun w2 (h2 : Only [] w w2) => pl_new h2)
    have hnb : n ≤ 300 := by omega
    clear hO hsz hl hf hn300 hk200 hps hnn
    go_enter Try.func4, Try.ntmps4
    go_upto_region 5 with (first
      | (go_at_call 7; ((with_reducible refine (hfar.out).mono ?_); rintro e w2 ⟨rfl, h2⟩; have hnw := Lib.hid (hnew.out w2 h2); clear h2))
      | (go_at_call 9; ((with_reducible refine (hnw.out).mono ?_); rintro e w3 ⟨rfl, h3, _⟩; have h3H := Lib.hid h3; clear h3)))
    generalize w2.heap.size = pa at *
    clear hnw hnew hfar
    go_loopw [20] (fun s20 wr => ∃ i : Nat, i ≤ n ∧ s20 = .int .i64 i ∧ Hid (∃ O, Pl w wr pa O (sets (ps.take i)))) (fun s20 _ => n - (intOf s20).toNat)
    case atStart => exact ⟨0, by omega, rfl, Lib.hid ⟨_, h3H.out⟩⟩
    case round =>
      obtain ⟨i, hi, rfl, htw⟩ := hrel
      by_cases hil : i < n
      · obtain ⟨y, hy⟩ : ∃ y, l[i]? = some y := ⟨_, List.getElem?_eq_getElem (by have := hnH.out; omega)⟩
        obtain ⟨a, rfl⟩ := hOH.out.form (by have := hnH.out; omega)
        obtain ⟨x0, x1, x2⟩ := hOH.out.get (htw.out.choose_spec.most.below (Nat.le_refl _) (by simp)) hy
        have hyk := hkey.out y (List.mem_of_getElem? hy)
        have hpy := hpsget.out _ _ hy
        have hS : Hid (∀ W, (∃ O, Pl w W pa O (sets (ps.take i))) → Calls Try.prog 10 #[.pointer (some ⟨pa, 0, none⟩), .string y.2.1, .int .i64 y.2.2] W fun e w' => (∃ b, e = .returned (.bool b)) ∧ ∃ O, Pl w w' pa O (sets (ps.take (i + 1)))) := Lib.hid (fun W ⟨O, h⟩ => by
          rw [take_next hpy, sets_snoc]
          refine (h.set ?_ _ hyk _).mono ?_
          · have := sets_le (ps.take i)
            rw [List.length_take] at this
            omega
          · rintro e w' ⟨rfl, O', h', _⟩
            exact ⟨⟨_, rfl⟩, O', h'⟩)
        clear hyk hpy hy
        obtain ⟨kd, ya, ys⟩ := y
        simp only at x0 x1 x2 hS
        have hlt : decide ((i : Int) < (n : Int)) = true := decide_eq_true (by omega)
        have hltn : decide (i < n) = true := decide_eq_true hil
        have hwk := wrap_small (x := (i : Int) + 1) (by omega)
        have hilH := Lib.hid hil
        clear hkey hOH hpsget
        go_wp2_with (go_at_call 10; ((with_reducible refine (hS.out _ (htw.out.imp fun _ h => h.same ((Only.refl [] wr).alloc _))).mono ?_); rintro e w5 ⟨⟨b5, rfl⟩, h5⟩; have h5H := Lib.hid h5; clear h5))
        go_roundw
        case rel => exact ⟨i + 1, by have := hilH.out; omega, by go_num, h5H⟩
        case measure => have := hilH.out; simp [intOf]; omega
      · have hin : i = n := by omega
        subst hin
        obtain ⟨O, hP⟩ := htw.out
        rw [List.take_of_length_le (by have := hpsl.out; have := hnH.out; omega)] at hP
        have hLl : (sets ps).length ≤ 300 := by
          have := sets_le ps
          have := hpsl.out
          have := hnH.out
          omega
        have hPH := Lib.hid hP
        generalize sets ps = L at *
        obtain ⟨N, hN⟩ : ∃ N, N = L.length := ⟨_, rfl⟩
        obtain ⟨d, hd⟩ : ∃ d, d = dueN L now := ⟨_, rfl⟩
        have hdN := dueN_le L now
        obtain ⟨m, hm⟩ : ∃ m, m = (L.drop d).length := ⟨_, rfl⟩
        have hmN : d + m = N := by rw [List.length_drop] at hm; omega
        have hNb : N ≤ 300 := by omega
        have hdH := Lib.hid hd
        have hNH := Lib.hid hN
        have hmH := Lib.hid hm
        have hris := Lib.hid hP.rises
        clear hLl hdN htw hP hOH hkey hpsget hpsl hnH h3H hd hN hm
        have hdm := wrap_small (x := (d : Int) + (m : Int)) (by omega)
        have hdN : (d : Int) + (m : Int) = (N : Int) := by omega
        go_upto_region 14 with (first
          | (go_at_call 22; ((with_reducible refine (hPH.out.all).mono ?_); rintro e w5 ⟨v5, rfl, h5, o5⟩; obtain ⟨A5, c5, e5⟩ := h5.len; rw [← hNH.out] at e5; subst e5; have hdu := Lib.hid ((hPH.out.same o5).dueD now h5 (fun k hk hm => by have := (h5.lt k hk).1; have := hPH.out.lt hm; omega) hdH.out); clear h5 o5))
          | (go_at_call 16; ((with_reducible refine (hdu.out).mono ?_); rintro e w6 ⟨A6, c6, rfl, h6⟩; have hle6 : Hid (Calls Try.prog 20 #[.pointer (some ⟨pa, 0, none⟩)] w6 fun e w' => e = .returned (.int .i64 (m : Nat)) ∧ w6 = w') := Lib.hid (by obtain ⟨O6, hp6⟩ := h6.tm; have := hp6.len; rw [← hmH.out] at this; exact this); have h6H := Lib.hid h6; clear h6))
          | (go_at_call 20; ((with_reducible refine (hle6.out).mono ?_); rintro e w' ⟨rfl, rfl⟩)))
        clear hdu hle6 hPH
        have hNk := Lib.hid hmN
        have hNbH := Lib.hid hNb
        clear hdm hdN hmN
        go_loopw [46] (fun s46 wr => ∃ i : Nat, i ≤ N ∧ s46 = .int .i64 i ∧ Hid (Dd w wr pa now L N d A5 c5 A6 c6)) (fun s46 _ => N - (intOf s46).toNat)
        case atStart => exact ⟨0, by omega, rfl, h6H⟩
        case round =>
          obtain ⟨j, hj, rfl, hdd⟩ := hrel
          by_cases hjl : j < N
          · obtain ⟨x, hx⟩ : ∃ x, L[j]? = some x := ⟨_, List.getElem?_eq_getElem (by have := hNH.out; omega)⟩
            have hrow : Hid (∀ W, Dd w W pa now L N d A5 c5 A6 c6 → ∃ g, A5 = some ⟨g, 0, none⟩ ∧ ∀ k, k < N → ∃ y : Sc, L[k]? = some y ∧ W.cell? ⟨g, k * 2, none⟩ = some (.string y.1) ∧ W.cell? ⟨g, k * 2 + 1, none⟩ = some (.int .i64 y.2)) := Lib.hid (fun W D => by
              obtain ⟨B, hr⟩ := D.row
              obtain ⟨y, g, hy, hg, _⟩ := rowS_cell hr j (by have := hNH.out; omega)
              refine ⟨g, hg, fun k hk => ?_⟩
              obtain ⟨y', g', hy', hg', k1, k2⟩ := rowS_cell hr k (by have := hNH.out; omega)
              rw [hg] at hg'
              cases hg'
              exact ⟨y', hy', k1, k2⟩)
            obtain ⟨g, rfl, hcl⟩ := hrow.out _ hdd.out
            obtain ⟨x', hx', x0, x1⟩ := hcl j hjl
            rw [hx] at hx'
            obtain rfl := Option.some.inj hx'
            have hwl := due_lt hris.out (now := now) hx
            rw [← hdH.out] at hwl
            have hpx : Hid (∀ p, L[j - 1]? = some p → 0 < j → lessS p x = true) := Lib.hid (fun p hp h0 => rises_lt hris.out (by omega) hp hx)
            have hdc : Hid (∀ W, Dd w W pa now L N d (some ⟨g, 0, none⟩) c5 A6 c6 → j < d → ∃ g6, A6 = some ⟨g6, 0, none⟩ ∧ W.cell? ⟨g6, j, none⟩ = some (.string x.1)) := Lib.hid (fun W D hjd => by
              obtain ⟨B, hr⟩ := D.due
              obtain ⟨g6, c', he, _, _, hc⟩ := hr.cell (j := j) (x := x.1) (by rw [List.getElem?_map, List.getElem?_take, if_pos hjd, hx]; rfl)
              injection he with e1 e2 e3
              exact ⟨g6, e1, hc⟩)
            clear hx' hcl hx
            obtain ⟨xa, xs⟩ := x
            simp only at x0 x1 hwl hpx hdc
            have hlt : decide ((j : Int) < (N : Int)) = true := decide_eq_true (by omega)
            have hltn : decide (j < N) = true := decide_eq_true hjl
            have hwk := wrap_small (x := (j : Int) + 1) (by omega)
            go_upto_region 16 with (fail)
            have hoA : Only [] wr (wr.alloc (.cells #[.string xa, .int .i64 xs] 44)) := (Only.refl [] wr).alloc _
            have hDD := Lib.hid (hdd.out.same hoA)
            have hbk := heap_alloc_new wr (.cells #[.string xa, .int .i64 xs] 44)
            generalize wr.alloc (.cells #[.string xa, .int .i64 xs] 44) = W at *
            generalize wr.heap.size = b11 at *
            have y0 : W.cell? ⟨b11, 0, none⟩ = some (.string xa) := Lib.cell_of_heap hbk 0
            have y1 : W.cell? ⟨b11, 1, none⟩ = some (.int .i64 xs) := Lib.cell_of_heap hbk 1
            obtain ⟨q, hq⟩ : ∃ q, q = j - 1 := ⟨_, rfl⟩
            obtain ⟨g', hg', hcl⟩ := hrow.out _ hDD.out
            cases hg'
            obtain ⟨z, hz, z0, z1⟩ := hcl q (by omega)
            rw [← hq] at hpx
            have hpxz := Lib.hid (hpx.out z hz)
            clear hpx hz hcl hrow hdd hoA hbk x0 x1
            obtain ⟨za, zs⟩ := z
            simp only at z0 z1 hpxz
            have hqH := Lib.hid hq
            have hjH := Lib.hid hj
            have hjlH := Lib.hid hjl
            have hdcW := Lib.hid (hdc.out _ hDD.out)
            clear hdc hq
            by_cases hjd : j < d
            · obtain ⟨g6, rfl, u0⟩ := hdcW.out hjd
              have t1 : decide ((j : Int) < (d : Int)) = true := decide_eq_true (by omega)
              have t1n : decide (j < d) = true := decide_eq_true hjd
              have t2 : decide (xs ≤ now) = true := decide_eq_true (hwl.1 hjd)
              have t3 : (j : Int) < (d : Int) := by omega
              clear hwl hjd
              clear hdcW
              go_quiet (fail)
              go_upto_region 18 with (fail)
              by_cases h0 : 0 < j
              · have p0 : decide ((0 : Int) < (j : Int)) = true := decide_eq_true (by omega)
                have p0n : decide (0 < j) = true := decide_eq_true h0
                have hl := hpxz.out h0
                unfold lessS at hl
                have hqj : (j : Int) - 1 = (q : Int) := by have := hqH.out; omega
                have hwq := wrap_small (x := (q : Int)) (by have := hjlH.out; have := hqH.out; have := hNbH.out; omega)
                have hqN : (q : Int) < (N : Int) := by have := hjlH.out; have := hqH.out; omega
                have hix := run_ixS g q N c5 (by have := hjlH.out; have := hqH.out; omega)
                by_cases he : zs = xs
                · subst he
                  simp only [if_true] at hl
                  have p1 : decide (zs < zs) = false := decide_eq_false (by omega)
                  go_quiet (fail)
                  go_wp2_with fail
                  go_roundw
                  case rel => exact ⟨j + 1, by have := hjlH.out; omega, by go_num, Lib.hid (hDD.out.same ((Only.refl [] _).drewN _))⟩
                  case measure => have := hjlH.out; simp [intOf]; omega
                · simp only [if_neg he] at hl
                  have p1 : decide (xs < zs) = false := decide_eq_false (by have := of_decide_eq_true hl; omega)
                  have p2 : decide (zs = xs) = false := decide_eq_false he
                  clear hl
                  go_quiet (fail)
                  go_wp2_with fail
                  go_roundw
                  case rel => exact ⟨j + 1, by have := hjlH.out; omega, by go_num, Lib.hid (hDD.out.same ((Only.refl [] _).drewN _))⟩
                  case measure => have := hjlH.out; simp [intOf]; omega
              · have p0 : decide ((0 : Int) < (j : Int)) = false := decide_eq_false (by omega)
                have p0n : decide (0 < j) = false := decide_eq_false h0
                go_quiet (fail)
                go_wp2_with fail
                go_roundw
                case rel => exact ⟨j + 1, by have := hjlH.out; omega, by go_num, Lib.hid (hDD.out.same ((Only.refl [] _).drewN _))⟩
                case measure => have := hjlH.out; simp [intOf]; omega
            · have t1 : decide ((j : Int) < (d : Int)) = false := decide_eq_false (by omega)
              have t1n : decide (j < d) = false := decide_eq_false hjd
              have t2 : decide (xs ≤ now) = false := decide_eq_false (fun e => hjd (hwl.2 e))
              clear hwl hjd
              clear hdcW
              go_quiet (fail)
              go_upto_region 18 with (fail)
              by_cases h0 : 0 < j
              · have p0 : decide ((0 : Int) < (j : Int)) = true := decide_eq_true (by omega)
                have p0n : decide (0 < j) = true := decide_eq_true h0
                have hl := hpxz.out h0
                unfold lessS at hl
                have hqj : (j : Int) - 1 = (q : Int) := by have := hqH.out; omega
                have hwq := wrap_small (x := (q : Int)) (by have := hjlH.out; have := hqH.out; have := hNbH.out; omega)
                have hqN : (q : Int) < (N : Int) := by have := hjlH.out; have := hqH.out; omega
                have hix := run_ixS g q N c5 (by have := hjlH.out; have := hqH.out; omega)
                by_cases he : zs = xs
                · subst he
                  simp only [if_true] at hl
                  have p1 : decide (zs < zs) = false := decide_eq_false (by omega)
                  go_quiet (fail)
                  go_wp2_with fail
                  go_roundw
                  case rel => exact ⟨j + 1, by have := hjlH.out; omega, by go_num, Lib.hid (hDD.out.same ((Only.refl [] _).drewN _))⟩
                  case measure => have := hjlH.out; simp [intOf]; omega
                · simp only [if_neg he] at hl
                  have p1 : decide (xs < zs) = false := decide_eq_false (by have := of_decide_eq_true hl; omega)
                  have p2 : decide (zs = xs) = false := decide_eq_false he
                  clear hl
                  go_quiet (fail)
                  go_wp2_with fail
                  go_roundw
                  case rel => exact ⟨j + 1, by have := hjlH.out; omega, by go_num, Lib.hid (hDD.out.same ((Only.refl [] _).drewN _))⟩
                  case measure => have := hjlH.out; simp [intOf]; omega
              · have p0 : decide ((0 : Int) < (j : Int)) = false := decide_eq_false (by omega)
                have p0n : decide (0 < j) = false := decide_eq_false h0
                go_quiet (fail)
                go_wp2_with fail
                go_roundw
                case rel => exact ⟨j + 1, by have := hjlH.out; omega, by go_num, Lib.hid (hDD.out.same ((Only.refl [] _).drewN _))⟩
                case measure => have := hjlH.out; simp [intOf]; omega
          · have hjn : j = N := by omega
            subst hjn
            obtain ⟨O, hP⟩ := hdd.out.tm
            have hD2 : Hid (∀ W, Only [] wr W → Calls Try.prog 16 #[.pointer (some ⟨pa, 0, none⟩), .int .i64 now] W fun e w' => ∃ A c, e = .returned (.slice A 0 c) ∧ Only [] w w') := Lib.hid (fun W ho => by
              refine ((hP.same ho).due now).mono ?_
              rintro e w' ⟨u, rfl, r, O', p', _⟩
              have h0 := due_rest hris.out now
              rw [← hdH.out] at h0
              rw [h0] at r
              obtain ⟨A7, c7, rfl⟩ := r.len
              exact ⟨A7, c7, rfl, p'.most⟩)
            have hF := Lib.hid hP.first
            have hgt : Hid (∀ x ∈ L.drop d, now < x.2) := Lib.hid (by rw [hdH.out]; exact (due_split hris.out now).2)
            clear hP hdd
            cases hr : L.drop d with
            | nil =>
              rw [hr, show firstV [] = .tuple #[.agg #[.string ⟨#[]⟩, .int .i64 0], .bool false] from rfl] at hF
              clear hr hgt
              go_wp2_with (first
                | (go_at_call 19; ((with_reducible refine (hF.out).mono ?_); rintro e w7 ⟨rfl, o7⟩; have o7H := Lib.hid (o7.alloc (.cells #[.string ⟨#[]⟩, .int .i64 0] 44)); clear o7))
                | (go_at_call 16; ((with_reducible refine (hD2.out _ o7H.out).mono ?_); rintro e w8 ⟨A8, c8, rfl, o8⟩; have o8H := Lib.hid o8; clear o8))
                | (go_at_call 8; ((with_reducible refine (alive_any _).mono ?_); rintro e w9 ⟨rfl, h9⟩; have h9H := Lib.hid (only_nil o8H.out h9); clear h9)))
              all_goals go_ret
              exact ⟨rfl, h9H.out.below (Nat.le_refl _) (by simp)⟩
            | cons x r =>
              have hx := hgt.out x (by rw [hr]; simp)
              rw [hr, show firstV (x :: r) = .tuple #[.agg #[.string x.1, .int .i64 x.2], .bool true] from rfl] at hF
              clear hr hgt
              obtain ⟨xa, xs⟩ := x
              simp only at hF hx
              have hd1 : decide (now < xs) = true := decide_eq_true hx
              clear hx
              go_wp2_with (first
                | (go_at_call 19; ((with_reducible refine (hF.out).mono ?_); rintro e w7 ⟨rfl, o7⟩; have o7H := Lib.hid (o7.alloc (.cells #[.string xa, .int .i64 xs] 44)); clear o7))
                | (go_at_call 16; ((with_reducible refine (hD2.out _ o7H.out).mono ?_); rintro e w8 ⟨A8, c8, rfl, o8⟩; have o8H := Lib.hid o8; clear o8))
                | (go_at_call 8; ((with_reducible refine (alive_any _).mono ?_); rintro e w9 ⟨rfl, h9⟩; have h9H := Lib.hid (only_nil o8H.out h9); clear h9)))
              all_goals go_ret
              exact ⟨rfl, h9H.out.below (Nat.le_refl _) (by simp)⟩
end Go.Proofs.Ytbaghdfalhlhcaa
