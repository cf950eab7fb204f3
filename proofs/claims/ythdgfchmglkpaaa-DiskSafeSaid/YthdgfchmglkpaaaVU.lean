/-
  The library's sameness of rows of files, of faults; the program's Same of disks that are alike. Premises: the disks lie in memory, and are of the size that a call is asked for.
-/
import Derived.Test.YthdgfchmglkpaaaChecked
import Derived.Test.YthdgfchmglkpaaaMath
import Derived.Test.YthdgfchmglkpaaaA
import Derived.Test.YthdgfchmglkpaaaB
import Derived.Test.YthdgfchmglkpaaaC
import Derived.Test.YthdgfchmglkpaaaD
import Derived.Test.YthdgfchmglkpaaaE
import Derived.Test.YthdgfchmglkpaaaF
import Derived.Test.YthdgfchmglkpaaaG
import Derived.Test.YthdgfchmglkpaaaJ
import Derived.Test.YthdgfchmglkpaaaK
import Derived.Test.YthdgfchmglkpaaaL
import Derived.Test.YthdgfchmglkpaaaM
import Derived.Test.YthdgfchmglkpaaaU
import Derived.Test.YthdgfchmglkpaaaS
import Derived.Test.YthdgfchmglkpaaaVS
import Derived.Test.YthdgfchmglkpaaaVF
import Derived.Test.YthdgfchmglkpaaaVO
import Derived.Test.YthdgfchmglkpaaaVD
import Derived.Test.YthdgfchmglkpaaaVP
import Derived.Test.YthdgfchmglkpaaaVT
import Derived.WalkKit
import Derived.WalkSpells
import Derived.WalkLawsBesides
import Derived.Deep.QuietTactic
import Derived.BigQuiet
import Derived.Lib.Hide
import Derived.Lib.SmallJoins
import Derived.Outline
import Derived.OwnWalk
import Derived.Deep.CutBlock
import Derived.BigRegion
import Derived.StillTailTactics
import Derived.Laws.AppendOwnNone
import Derived.Maps.AppendAt
import Derived.Deep.RegionLaw
import Derived.Deep.RegionHeld3
import Derived.Lib.BufferRead
import Derived.Deep.AppendLies
import Derived.Lib.SliceRun
import Derived.Laws.CopyOwn
namespace Go.Proofs.Ythdgfchmglkpaaa
open Go.RowKit
set_option maxRecDepth 100000 in
set_option maxHeartbeats 4000000 in
theorem equal_fl {w : World} {A A' : Option Addr} {c c' : Nat} {L : List Fl} (h : FilesAt w A L) (h' : FilesAt w A' L) (hl : L.length ≤ 1000000) :
    Calls Try.prog 33 #[.slice A L.length c, .slice A' L.length c'] w fun e w' => e = .returned (.bool true) ∧ ∃ n, w' = w.drewN n := by
  have hSH := Lib.hid h
  have hSH' := Lib.hid h'
  have hget : Hid (∀ i, i < L.length → ∃ f, L[i]? = some f) := Lib.hid (fun i hi => ⟨_, List.getElem?_eq_getElem hi⟩)
  have hlH := Lib.hid hl
  have k1 : ((L.length : Int) == (L.length : Int)) = true := by simp
  have k2 : ((L.length : Int) != (L.length : Int)) = false := by simp
  have k3 : (L.length == L.length) = true := by simp
  have k4 : (L.length != L.length) = false := by simp
  clear h h' hl
  generalize L.length = n at *
  go_enter Try.func33, Try.ntmps33
  go_wp2_with fail
  go_loopw [13] (fun i wr => ∃ k : Nat, i = .int .i64 k ∧ k ≤ n ∧ Hid (∃ m, wr = w.drewN m)) (fun i _ => n - (intOf i).toNat)
  case atStart => exact ⟨0, rfl, by omega, Lib.hid ⟨0, rfl⟩⟩
  case round =>
    obtain ⟨k, rfl, hk, hW⟩ := hrel
    obtain ⟨m, hm⟩ := hW.out
    by_cases hlt : k < n
    · obtain ⟨f, hf⟩ := hget.out k hlt
      obtain ⟨a, rfl, _, y0, y1, y2⟩ := hSH.out k f hf
      obtain ⟨b, rfl, _, z0, z1, z2⟩ := hSH'.out k f hf
      have hix := run_ixF a k n c hlt
      have hix' := run_ixF b k n c' hlt
      have cs : ∀ p, wr.cell? p = w.cell? p := fun p => by rw [hm]; rfl
      rw [← cs] at y0 y1 y2 z0 z1 z2
      have hltH := Lib.hid hlt
      have hwk := wrap_small (x := (k : Int) + 1) (by have := hlH.out; omega)
      have dk : decide ((k : Int) < (n : Int)) = true := decide_eq_true (by omega)
      have dk2 : decide (k < n) = true := decide_eq_true hlt
      have q1 : (f.1.toList == f.1.toList) = true := by simp
      have q2 : (f.1.toList != f.1.toList) = false := by simp
      have q3 : (f.2.1.toList == f.2.1.toList) = true := by simp
      have q4 : (f.2.1.toList != f.2.1.toList) = false := by simp
      have q5 : (f.2.2 == f.2.2) = true := by simp
      have q6 : (f.2.2 != f.2.2) = false := by simp
      clear hf hlt hm cs
      go_wp2_with fail
      go_quiet (fail)
      go_wp2_with fail
      go_roundw
      case rel => exact ⟨k + 1, by go_num, by have := hltH.out; omega, Lib.hid (by obtain ⟨m, hm⟩ := hW.out; exact ⟨_, by rw [hm, World.drewN_drewN]⟩)⟩
      case measure => have := hltH.out; simp [intOf]; omega
    · have hkn : k = n := by omega
      subst hkn
      have dk : decide ((k : Int) < (k : Int)) = false := decide_eq_false (by omega)
      have dk2 : decide (k < k) = false := decide_eq_false hlt
      clear hlt hm
      go_wp2_with fail
      go_ret
      exact ⟨rfl, hW.out⟩
set_option maxRecDepth 100000 in
set_option maxHeartbeats 4000000 in
theorem equal_ft {w : World} {A A' : Option Addr} {c c' : Nat} {L : List Ft} (h : FaultsAt w A L) (h' : FaultsAt w A' L) (hl : L.length ≤ 1000000) :
    Calls Try.prog 35 #[.slice A L.length c, .slice A' L.length c'] w fun e w' => e = .returned (.bool true) ∧ ∃ n, w' = w.drewN n := by
  have hSH := Lib.hid h
  have hSH' := Lib.hid h'
  have hget : Hid (∀ i, i < L.length → ∃ f, L[i]? = some f) := Lib.hid (fun i hi => ⟨_, List.getElem?_eq_getElem hi⟩)
  have hlH := Lib.hid hl
  have k1 : ((L.length : Int) == (L.length : Int)) = true := by simp
  have k2 : ((L.length : Int) != (L.length : Int)) = false := by simp
  have k3 : (L.length == L.length) = true := by simp
  have k4 : (L.length != L.length) = false := by simp
  clear h h' hl
  generalize L.length = n at *
  go_enter Try.func35, Try.ntmps35
  go_wp2_with fail
  go_loopw [13] (fun i wr => ∃ k : Nat, i = .int .i64 k ∧ k ≤ n ∧ Hid (∃ m, wr = w.drewN m)) (fun i _ => n - (intOf i).toNat)
  case atStart => exact ⟨0, rfl, by omega, Lib.hid ⟨0, rfl⟩⟩
  case round =>
    obtain ⟨k, rfl, hk, hW⟩ := hrel
    obtain ⟨m, hm⟩ := hW.out
    by_cases hlt : k < n
    · obtain ⟨f, hf⟩ := hget.out k hlt
      obtain ⟨a, rfl, _, y0, y1, y2⟩ := hSH.out k f hf
      obtain ⟨b, rfl, _, z0, z1, z2⟩ := hSH'.out k f hf
      have hix := run_ixT a k n c hlt
      have hix' := run_ixT b k n c' hlt
      have cs : ∀ p, wr.cell? p = w.cell? p := fun p => by rw [hm]; rfl
      rw [← cs] at y0 y1 y2 z0 z1 z2
      have hltH := Lib.hid hlt
      have hwk := wrap_small (x := (k : Int) + 1) (by have := hlH.out; omega)
      have dk : decide ((k : Int) < (n : Int)) = true := decide_eq_true (by omega)
      have dk2 : decide (k < n) = true := decide_eq_true hlt
      have q1 : (f.1.toList == f.1.toList) = true := by simp
      have q2 : (f.1.toList != f.1.toList) = false := by simp
      have q3 : (f.2.1 == f.2.1) = true := by simp
      have q4 : (f.2.1 != f.2.1) = false := by simp
      have q5 : (f.2.2 == f.2.2) = true := by simp
      have q6 : (f.2.2 != f.2.2) = false := by simp
      clear hf hlt hm cs
      go_wp2_with fail
      go_quiet (fail)
      go_wp2_with fail
      go_roundw
      case rel => exact ⟨k + 1, by go_num, by have := hltH.out; omega, Lib.hid (by obtain ⟨m, hm⟩ := hW.out; exact ⟨_, by rw [hm, World.drewN_drewN]⟩)⟩
      case measure => have := hltH.out; simp [intOf]; omega
    · have hkn : k = n := by omega
      subst hkn
      have dk : decide ((k : Int) < (k : Int)) = false := decide_eq_false (by omega)
      have dk2 : decide (k < k) = false := decide_eq_false hlt
      clear hlt hm
      go_wp2_with fail
      go_ret
      exact ⟨rfl, hW.out⟩
set_option maxRecDepth 100000 in
set_option maxHeartbeats 8000000 in
theorem psame_any {w : World} {va vb : Value} {a b : Dk} (ha : DkAt w va a) (hb : DkAt w vb b) (la : Okd a) (lb : Okd b) (h : Eqv a b) :
    Calls Try.prog 13 #[va, vb] w fun r w' => r = .returned (.bool true) ∧ Below w.heap.size w w' := by
  obtain ⟨A, c, B, d, rfl, hA, hB⟩ := ha
  obtain ⟨A', c', B', d', rfl, hA', hB'⟩ := hb
  obtain ⟨W, hW, k1, k2, kb, ks⟩ := two_boxes w (.cells #[.slice A a.1.length c, .slice B a.2.length d] 25) (.cells #[.slice A' b.1.length c', .slice B' b.2.length d'] 25)
  have hn : a.2.length = b.2.length := by rw [h.2]
  have hle : ∀ L N, L.length ≤ 1000000 → CountOf L N → N.length ≤ 1000000 := fun L N h0 hN => by
    have h1 := hN.names.len
    have h2 := files_len L
    rw [List.length_map] at h1
    omega
  have hCa : Hid (∀ X, Below W.heap.size W X → Calls Try.prog 34 #[.agg #[.slice A a.1.length c, .slice B a.2.length d]] X fun e w' => (∃ N A1 c1, e = .returned (.slice A1 N.length c1) ∧ FilesAt w' A1 N ∧ Hid (CountOf a.1 N)) ∧ Below X.heap.size X w') := Lib.hid (fun X hX => (counting_any (hA.on (kb.trans (hX.mono kb.size))) la.fl).mono (by
    rintro e w' ⟨⟨v, N, rfl, hr, hN⟩, hb⟩
    obtain ⟨A1, c1, rfl, hF⟩ := hr.files
    exact ⟨⟨N, A1, c1, rfl, hF, Lib.hid hN⟩, hb⟩))
  have hCb : Hid (∀ X, Below W.heap.size W X → Calls Try.prog 34 #[.agg #[.slice A' b.1.length c', .slice B' b.2.length d']] X fun e w' => (∃ N A1 c1, e = .returned (.slice A1 N.length c1) ∧ FilesAt w' A1 N ∧ Hid (CountOf b.1 N)) ∧ Below X.heap.size X w') := Lib.hid (fun X hX => (counting_any (hA'.on (kb.trans (hX.mono kb.size))) lb.fl).mono (by
    rintro e w' ⟨⟨v, N, rfl, hr, hN⟩, hb⟩
    obtain ⟨A1, c1, rfl, hF⟩ := hr.files
    exact ⟨⟨N, A1, c1, rfl, hF, Lib.hid hN⟩, hb⟩))
  have hEf : Hid (∀ X N K A1 A2 c1 c2, Hid (CountOf a.1 N) → Hid (CountOf b.1 K) → FilesAt X A1 N → FilesAt X A2 K → Calls Try.prog 33 #[.slice A1 N.length c1, .slice A2 K.length c2] X fun e w' => e = .returned (.bool true) ∧ Below X.heap.size X w') := Lib.hid (fun X N K A1 A2 c1 c2 h1 h2 f1 f2 => by
    have e := h1.out.same h2.out h.1
    subst e
    refine (equal_fl f1 f2 (hle _ _ la.fl h1.out)).mono ?_
    rintro e w' ⟨rfl, n, rfl⟩
    exact ⟨rfl, below_drewN (Below.refl _ _) n⟩)
  have hEt : Hid (∀ X, Below W.heap.size W X → Calls Try.prog 35 #[.slice B a.2.length d, .slice B' b.2.length d'] X fun e w' => e = .returned (.bool true) ∧ Below X.heap.size X w') := Lib.hid (fun X hX => by
    have f1 := hB.on (kb.trans (hX.mono kb.size))
    have f2 := hB'.on (kb.trans (hX.mono kb.size))
    rw [h.2] at f1 ⊢
    refine (equal_ft f1 f2 (by rw [← h.2]; exact la.ft)).mono ?_
    rintro e w' ⟨rfl, n, rfl⟩
    exact ⟨rfl, below_drewN (Below.refl _ _) n⟩)
  have kbH := Lib.hid kb
  have k1H := Lib.hid k1
  have k2H := Lib.hid k2
  clear hA hB hA' hB' kb k1 k2 la lb h hn hle
  generalize a.1.length = n1 at *
  generalize a.2.length = n2 at *
  generalize b.1.length = m1 at *
  generalize b.2.length = m2 at *
  go_enter Try.func13, Try.ntmps13
  go_upto_region 1 with fail
  rw [← hW]
  clear hW
  have hMk : Hid (∀ X, Below W.heap.size W X → Below W.heap.size W X ∧ X.cell? ⟨w.heap.size, 0, none⟩ = some (.slice A n1 c) ∧ X.cell? ⟨w.heap.size, 1, none⟩ = some (.slice B n2 d) ∧ X.cell? ⟨w.heap.size + 1, 0, none⟩ = some (.slice A' m1 c') ∧ X.cell? ⟨w.heap.size + 1, 1, none⟩ = some (.slice B' m2 d')) := Lib.hid (fun X hX => by
    obtain ⟨q0, q1, -, -⟩ := two ((hX.block w.heap.size (some_lt k1H.out)).trans k1H.out)
    obtain ⟨q2, q3, -, -⟩ := two ((hX.block (w.heap.size + 1) (some_lt k2H.out)).trans k2H.out)
    exact ⟨hX, q0, q1, q2, q3⟩)
  have hK0 := Lib.hid (Below.drew (Below.refl W.heap.size W))
  have hOn : Hid (∀ a c, Below a.heap.size a c → Below W.heap.size W a → Below W.heap.size W c) := Lib.hid fun a c k h => h.trans (k.mono h.size)
  go_region_held3 (fun w' => Below W.heap.size W w' ∧ w'.cell? ⟨w.heap.size, 0, none⟩ = some (.slice A n1 c) ∧ w'.cell? ⟨w.heap.size, 1, none⟩ = some (.slice B n2 d) ∧ w'.cell? ⟨w.heap.size + 1, 0, none⟩ = some (.slice A' m1 c') ∧ w'.cell? ⟨w.heap.size + 1, 1, none⟩ = some (.slice B' m2 d'))
    (first | exact hMk.out _ hK0.out | exact hMk.out _ (hOn.out _ _ (by assumption) (And.left (by assumption))) | assumption)
    (first
    | (go_at_call 34; ((with_reducible refine (hCa.out _ (And.left (by assumption))).mono ?_); rintro e' u1 ⟨⟨N1, A1, c1, rfl, f1, j1⟩, bb1⟩))
    | (go_at_call 34; ((with_reducible refine (hCb.out _ (And.left (by assumption))).mono ?_); rintro e' u2 ⟨⟨N2, A2, c2, rfl, f2, j2⟩, bb2⟩))
    | (go_at_call 33; ((with_reducible refine (hEf.out _ _ _ _ _ _ _ (by assumption) (by assumption) (by first | assumption | exact FilesAt.on (by assumption) (by assumption)) (by first | assumption | exact FilesAt.on (by assumption) (by assumption))).mono ?_); rintro e' u3 ⟨rfl, bb3⟩))
    | (go_at_call 35; ((with_reducible refine (hEt.out _ (And.left (by assumption))).mono ?_); rintro e' u4 ⟨rfl, bb4⟩)))
  all_goals go_wp2_with fail
  all_goals go_ret
  all_goals exact ⟨rfl, kbH.out.trans (Below.mono (And.left (by assumption)) kbH.out.size)⟩
end Go.Proofs.Ythdgfchmglkpaaa
