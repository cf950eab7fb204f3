/-
  Calls that are handed over, as they are read; the law's own Far: where it tells false, all that is handed over is small.
-/
import Derived.Test.YthdgfchmglkpaaaChecked
import Derived.Test.YthdgfchmglkpaaaMath
import Derived.Test.YthdgfchmglkpaaaA
import Derived.Test.YthdgfchmglkpaaaB
import Derived.Test.YthdgfchmglkpaaaC
import Derived.Test.YthdgfchmglkpaaaD
import Derived.Test.YthdgfchmglkpaaaE
import Derived.Test.YthdgfchmglkpaaaF
import Derived.Test.YthdgfchmglkpaaaJ
import Derived.Test.YthdgfchmglkpaaaK
import Derived.Test.YthdgfchmglkpaaaL
import Derived.WalkKit
import Derived.WalkSpells
import Derived.WalkLawsBesides
import Derived.Deep.QuietTactic
import Derived.BigQuiet
import Derived.Lib.Hide
import Derived.Lib.SmallJoins
import Derived.Outline
import Derived.OwnWalk
import Derived.Deep.CutBlock
import Derived.BigRegion
import Derived.StillTailTactics
import Derived.Laws.AppendOwnNone
import Derived.Maps.AppendAt
import Derived.Deep.RegionLaw
import Derived.Deep.RegionHeld3
import Derived.Lib.BufferRead
import Derived.Deep.AppendLies
namespace Go.Proofs.Ythdgfchmglkpaaa
open Go.RowKit
/-- A call of a law's: its kind, its name, its text, its number. -/
abbrev Od := Int × ByteArray × ByteArray × Int
def OpAt (w : World) (p : Addr) (x : Od) : Prop := w.cell? p = some (.int .i64 x.1) ∧ w.cell? ⟨p.block, p.off + 1, none⟩ = some (.string x.2.1) ∧ w.cell? ⟨p.block, p.off + 2, none⟩ = some (.string x.2.2.1) ∧ w.cell? ⟨p.block, p.off + 3, none⟩ = some (.int .i64 x.2.2.2)
def OpsAt (w : World) (B : Nat) (A : Option Addr) (l : List Od) : Prop := ∀ i x, l[i]? = some x → ∃ a, A = some a ∧ a.block < B ∧ OpAt w (a.add (i * 4)) x
theorem OpsAt.on {w w' : World} {A : Option Addr} {l : List Od} {B : Nat} (h : OpsAt w B A l) (hb : Below B w w') : OpsAt w' B A l := by
  intro i x hx
  obtain ⟨a, rfl, h1, h2, h3, h4, h5⟩ := h i x hx
  have hab : (a.add (i * 4)).block < B := by rw [add_block]; exact h1
  exact ⟨a, rfl, h1, (hb.cell hab).trans h2, (hb.cell (p := ⟨(a.add (i * 4)).block, _, none⟩) hab).trans h3, (hb.cell (p := ⟨(a.add (i * 4)).block, _, none⟩) hab).trans h4, (hb.cell (p := ⟨(a.add (i * 4)).block, _, none⟩) hab).trans h5⟩
theorem run_ixO (a : Addr) (k n c : Nat) (hk : k < n) (w : World) : Sem.run Try.prog (Instr.indexAt 26 (.slice (some a) n c) (.int .i64 (k : Int))) w = .ok (.pointer (some (a.add (k * 4)))) w := by
  go_simp
/-- What Far's false tells. -/
def FewL (L : List Fl) : Prop := L.length ≤ 40 ∧ ∀ f ∈ L, f.1.size ≤ 5000 ∧ f.2.1.size ≤ 5000
def FewO (l : List Od) : Prop := l.length ≤ 100 ∧ ∀ o ∈ l, o.2.1.size ≤ 5000 ∧ o.2.2.1.size ≤ 5000
theorem one_min (x : Nat) : ∃ p : Nat, (if (10000 : Int) < (x : Int) then 10000 else (x : Int)) = (p : Int) ∧ (p ≤ 5000 → x ≤ 5000) ∧ p ≤ 10000 := by
  by_cases h : 10000 < x
  · exact ⟨10000, by rw [if_pos (by omega)]; rfl, by omega, by omega⟩
  · exact ⟨x, by rw [if_neg (by omega)], by omega, by omega⟩
def FarRes (e : Ending) (L : List Fl) (m : Nat) (l : List Od) : Prop := ∃ b, e = .returned (.bool b) ∧ (b = false → FewL L ∧ m ≤ 100 ∧ FewO l)
theorem FarRes.yes {e : Ending} {L : List Fl} {m : Nat} {l : List Od} (h : e = .returned (.bool true)) : FarRes e L m l := ⟨true, h, fun e => by cases e⟩
theorem FarRes.no {e : Ending} {L : List Fl} {m : Nat} {l : List Od} (h : e = .returned (.bool false)) (h1 : FewL L) (h2 : m ≤ 100) (h3 : FewO l) : FarRes e L m l := ⟨false, h, fun _ => ⟨h1, h2, h3⟩⟩
set_option maxHeartbeats 4000000 in
theorem far_any {w : World} {A B E : Option Addr} {c d c' : Nat} {L : List Fl} {m : Nat} {l : List Od} (h : FilesAt w A L) (hl : L.length ≤ 140737488355328) (hs : ∀ f ∈ L, f.1.size ≤ maxLen ∧ f.2.1.size ≤ maxLen) (ho : OpsAt w w.heap.size E l) (hol : l.length ≤ 140737488355328) (hos : ∀ o ∈ l, o.2.1.size ≤ maxLen ∧ o.2.2.1.size ≤ maxLen) :
    Calls Try.prog 6 #[.agg #[.slice A L.length c, .slice B m d], .slice E l.length c'] w fun e w' => FarRes e L m l ∧ Below w.heap.size w w' := by
  have hd0 := heap_alloc_new w (.cells #[.slice A L.length c, .slice B m d] 25)
  have hb1 : Below w.heap.size w (w.alloc (.cells #[.slice A L.length c, .slice B m d] 25)) := (Below.refl _ _).alloc (Nat.le_refl _) _
  have hHf := h.on hb1
  have hHo := ho.on hb1
  have hsH := Lib.hid hs
  have hosH := Lib.hid hos
  have hget : Hid (∀ i, i < L.length → ∃ f, L[i]? = some f) := Lib.hid (fun i hi => ⟨_, List.getElem?_eq_getElem hi⟩)
  have hgetO : Hid (∀ i, i < l.length → ∃ f, l[i]? = some f) := Lib.hid (fun i hi => ⟨_, List.getElem?_eq_getElem hi⟩)
  have hfew : Hid ((∀ j x, j < L.length → L[j]? = some x → x.1.size ≤ 5000 ∧ x.2.1.size ≤ 5000) → (∀ j x, j < l.length → l[j]? = some x → x.2.1.size ≤ 5000 ∧ x.2.2.1.size ≤ 5000) → L.length ≤ 40 → l.length ≤ 100 → FewL L ∧ FewO l) := Lib.hid (fun h1 h2 h3 h4 => ⟨⟨h3, fun f hf => by
    obtain ⟨j, hj⟩ := List.getElem?_of_mem hf
    exact h1 j f (List.getElem?_eq_some_iff.1 hj).1 hj⟩, ⟨h4, fun o ho => by
    obtain ⟨j, hj⟩ := List.getElem?_of_mem ho
    exact h2 j o (List.getElem?_eq_some_iff.1 hj).1 hj⟩⟩)
  clear h ho hs hos
  generalize L.length = n at *
  generalize l.length = k at *
  go_enter Try.func6, Try.ntmps6
  go_upto_region 1 with fail
  generalize (w.alloc (.cells #[.slice A n c, .slice B m d] 25)) = W2 at hd0 hb1 hHf hHo ⊢
  obtain ⟨x0, x1, -, -⟩ := two hd0
  have hdH := Lib.hid hd0
  have hbH := Lib.hid hb1
  have hHH := Lib.hid hHf
  have hOH := Lib.hid hHo
  have hz0 := heap_alloc_lt hd0
  clear hd0 hb1 hHf hHo
  go_wp2_with fail
  go_loopw [5, 13] (fun s5 s13 wr => ∃ i q : Nat, i ≤ n ∧ q ≤ 5000 ∧ s5 = .int .i64 q ∧ s13 = .int .i64 i ∧ Hid (∀ j x, j < i → L[j]? = some x → x.1.size ≤ 5000 ∧ x.2.1.size ≤ 5000) ∧ Hid (Below W2.heap.size W2 wr)) (fun _ s13 _ => n - (intOf s13).toNat)
  case atStart => exact ⟨0, 0, by omega, by omega, rfl, rfl, Lib.hid (fun j x hj => by omega), Lib.hid (Below.refl _ _)⟩
  case round =>
    obtain ⟨i, q, hi, hq, rfl, rfl, hpre, hW⟩ := hrel
    by_cases hil : i < n
    · obtain ⟨f, hf⟩ := hget.out i hil
      obtain ⟨a, rfl, ha, y0, y1, y2⟩ := hHH.out.on hW.out i f hf
      have hix := run_ixF a i n c hil
      obtain ⟨hs1, hs2⟩ := hsH.out f (List.mem_of_getElem? hf)
      have hilH := Lib.hid hil
      have hfH := Lib.hid hf
      have dk : decide ((i : Int) < (n : Int)) = true := decide_eq_true (by omega)
      have dk2 : decide (i < n) = true := decide_eq_true hil
      have hwk := wrap_small (x := (i : Int) + 1) (by omega)
      clear hil hf x0 x1
      go_upto_region 6 with fail
      obtain ⟨p1, e1, g1, l1⟩ := one_min f.2.1.size
      obtain ⟨p2, e2, g2, l2⟩ := one_min f.1.size
      rw [e1, e2]
      obtain ⟨p, hp⟩ : ∃ p, p = q + (p1 + p2) := ⟨_, rfl⟩
      rw [show ((q : Int) + ((p1 : Int) + (p2 : Int))) = (p : Int) by omega]
      have hp2 : p ≤ 5000 → f.2.1.size ≤ 5000 ∧ f.1.size ≤ 5000 := fun _ => ⟨g1 (by omega), g2 (by omega)⟩
      have hp3 : p ≤ 25000 := by omega
      clear e1 g1 e2 g2
      clear hp hs1 hs2 hix y0 y1 y2 hq
      by_cases hlg : 5000 < p
      · have hd : decide ((5000 : Int) < (p : Int)) = true := decide_eq_true (by omega)
        have hd2 : decide (5000 < p) = true := decide_eq_true hlg
        clear hlg hwk
        go_wp2_with fail
        go_ret
        exact ⟨.yes rfl, hbH.out.trans ((hW.out.alloc hW.out.size _).mono hbH.out.size)⟩
      · have hd : decide ((5000 : Int) < (p : Int)) = false := decide_eq_false (by omega)
        have hd2 : decide (5000 < p) = false := decide_eq_false hlg
        have hno := Lib.hid (hp2 (by omega))
        have hpH : Hid (p ≤ 5000) := Lib.hid (by omega)
        clear hlg hp2 hp3
        go_wp2_with fail
        go_roundw
        case rel => exact ⟨i + 1, p, by have := hilH.out; omega, hpH.out, rfl, by go_num, Lib.hid (fun j x hj hx => by
          by_cases hji : j = i
          · subst hji
            rw [hfH.out] at hx
            rw [← Option.some.inj hx]
            exact ⟨hno.out.2, hno.out.1⟩
          · exact hpre.out j x (by omega) hx), Lib.hid (hW.out.alloc hW.out.size _)⟩
        case measure => have := hilH.out; simp [intOf]; omega
    · have hin : i = n := by omega
      subst hin
      have dk : decide ((i : Int) < (i : Int)) = false := decide_eq_false (by omega)
      have dk2 : decide (i < i) = false := decide_eq_false (by omega)
      have hpreF := hpre
      clear hil hpre x0 x1
      go_wp2_with fail
      go_loopw [5, 33] (fun s5 s33 wt => ∃ j q : Nat, j ≤ k ∧ q ≤ 5000 ∧ s5 = .int .i64 q ∧ s33 = .int .i64 j ∧ Hid (∀ g x, g < j → l[g]? = some x → x.2.1.size ≤ 5000 ∧ x.2.2.1.size ≤ 5000) ∧ Hid (Below W2.heap.size W2 wt)) (fun _ s33 _ => k - (intOf s33).toNat)
      case atStart => exact ⟨0, q, by omega, hq, rfl, rfl, Lib.hid (fun j x hj => by omega), hW⟩
      case round =>
        obtain ⟨j, q2, hj, hq2, rfl, rfl, hpre, hV⟩ := hrel
        by_cases hjk : j < k
        · obtain ⟨o, ho⟩ := hgetO.out j hjk
          obtain ⟨a, rfl, ha, y0, y1, y2, y3⟩ := (hOH.out.on (hV.out.mono hbH.out.size)) j o ho
          have hix := run_ixO a j k c' hjk
          obtain ⟨hs1, hs2⟩ := hosH.out o (List.mem_of_getElem? ho)
          have hjkH := Lib.hid hjk
          have hoH := Lib.hid ho
          have dk3 : decide ((j : Int) < (k : Int)) = true := decide_eq_true (by omega)
          have dk4 : decide (j < k) = true := decide_eq_true hjk
          have hwk := wrap_small (x := (j : Int) + 1) (by omega)
          clear hjk ho
          go_upto_region 13 with fail
          obtain ⟨p1, e1, g1, l1⟩ := one_min o.2.2.1.size
          obtain ⟨p2, e2, g2, l2⟩ := one_min o.2.1.size
          rw [e1, e2]
          obtain ⟨p, hp⟩ : ∃ p, p = q2 + (p1 + p2) := ⟨_, rfl⟩
          rw [show ((q2 : Int) + ((p1 : Int) + (p2 : Int))) = (p : Int) by omega]
          have hp2 : p ≤ 5000 → o.2.2.1.size ≤ 5000 ∧ o.2.1.size ≤ 5000 := fun _ => ⟨g1 (by omega), g2 (by omega)⟩
          have hp3 : p ≤ 25000 := by omega
          clear e1 g1 e2 g2
          clear hp hs1 hs2 hix y0 y1 y2 y3 hq2
          by_cases hlg : 5000 < p
          · have hd : decide ((5000 : Int) < (p : Int)) = true := decide_eq_true (by omega)
            have hd2 : decide (5000 < p) = true := decide_eq_true hlg
            clear hlg hwk
            go_wp2_with fail
            go_ret
            exact ⟨.yes rfl, hbH.out.trans ((hV.out.alloc hV.out.size _).mono hbH.out.size)⟩
          · have hd : decide ((5000 : Int) < (p : Int)) = false := decide_eq_false (by omega)
            have hd2 : decide (5000 < p) = false := decide_eq_false hlg
            have hno := Lib.hid (hp2 (by omega))
            have hpH : Hid (p ≤ 5000) := Lib.hid (by omega)
            clear hlg hp2 hp3
            go_wp2_with fail
            go_roundw
            case rel => exact ⟨j + 1, p, by have := hjkH.out; omega, hpH.out, rfl, by go_num, Lib.hid (fun g x hg hx => by
              by_cases hji : g = j
              · subst hji
                rw [hoH.out] at hx
                rw [← Option.some.inj hx]
                exact ⟨hno.out.2, hno.out.1⟩
              · exact hpre.out g x (by omega) hx), Lib.hid (hV.out.alloc hV.out.size _)⟩
            case measure => have := hjkH.out; simp [intOf]; omega
        · have hjn : j = k := by omega
          subst hjn
          have dk3 : decide ((j : Int) < (j : Int)) = false := decide_eq_false (by omega)
          have dk4 : decide (j < j) = false := decide_eq_false (by omega)
          obtain ⟨x0, x1, -, -⟩ := two ((hV.out.block w.heap.size hz0).trans hdH.out)
          have hpH := hpre
          clear hjk hpre
          by_cases hc1 : 40 < i
          · have hd : decide ((40 : Int) < (i : Int)) = true := decide_eq_true (by omega)
            have hd2 : decide (40 < i) = true := decide_eq_true hc1
            clear hc1
            go_wp2_with fail
            go_ret
            exact ⟨.yes rfl, hbH.out.trans (hV.out.mono hbH.out.size)⟩
          · have hd : decide ((40 : Int) < (i : Int)) = false := decide_eq_false (by omega)
            have hd2 : decide (40 < i) = false := decide_eq_false hc1
            by_cases hc2 : 100 < m
            · have he : decide ((100 : Int) < (m : Int)) = true := decide_eq_true (by omega)
              have he2 : decide (100 < m) = true := decide_eq_true hc2
              clear hc1 hc2
              go_wp2_with fail
              go_ret
              exact ⟨.yes rfl, hbH.out.trans (hV.out.mono hbH.out.size)⟩
            · have he : decide ((100 : Int) < (m : Int)) = false := decide_eq_false (by omega)
              have he2 : decide (100 < m) = false := decide_eq_false hc2
              by_cases hc3 : 100 < j
              · have hg : decide ((100 : Int) < (j : Int)) = true := decide_eq_true (by omega)
                have hg2 : decide (100 < j) = true := decide_eq_true hc3
                clear hc1 hc2 hc3
                go_wp2_with fail
                go_ret
                exact ⟨.yes rfl, hbH.out.trans (hV.out.mono hbH.out.size)⟩
              · have hg : decide ((100 : Int) < (j : Int)) = false := decide_eq_false (by omega)
                have hg2 : decide (100 < j) = false := decide_eq_false hc3
                have hall := Lib.hid (hfew.out hpreF.out hpH.out (by omega) (by omega))
                have hmm : Hid (m ≤ 100) := Lib.hid (by omega)
                clear hc1 hc2 hc3
                go_wp2_with fail
                go_ret
                exact ⟨.no rfl hall.out.1 hmm.out hall.out.2, hbH.out.trans (hV.out.mono hbH.out.size)⟩
end Go.Proofs.Ythdgfchmglkpaaa
