/-
  Calls that are handed over, as they are read; the law's own far and last.
-/
import Derived.Test.YtpbmgaipeofpaaaS
namespace Go.Proofs.Ytpbmgaipeofpaaa
open Go.RowKit

/-- Calls of a law's, as they are handed over. -/
def OpsAt (w : World) (B : Nat) (A : Option Addr) (l : List OpD) : Prop := ∀ i x, l[i]? = some x → ∃ a, A = some a ∧ a.block < B ∧ w.cell? (a.add (i * 2)) = some (.int .i64 x.1) ∧ w.cell? ⟨(a.add (i * 2)).block, (a.add (i * 2)).off + 1, none⟩ = some (.string x.2)
theorem OpsAt.on {w w' : World} {A : Option Addr} {l : List OpD} {B : Nat} (h : OpsAt w B A l) (hb : Below B w w') : OpsAt w' B A l := by
  intro i x hx
  obtain ⟨a, rfl, h1, h2, h3⟩ := h i x hx
  have hab : ∀ j, (a.add j).block < B := fun j => by rw [add_block]; exact h1
  exact ⟨a, rfl, h1, (hb.cell (hab _)).trans h2, (hb.cell (p := ⟨(a.add (i * 2)).block, _, none⟩) (hab _)).trans h3⟩
theorem OpsAt.get {w w' : World} {B : Nat} {a : Addr} {l : List OpD} (h : OpsAt w B (some a) l) (hb : Below B w w') {i : Nat} {x : OpD} (hx : l[i]? = some x) : w'.cell? (a.add (i * 2)) = some (.int .i64 x.1) ∧ w'.cell? ⟨(a.add (i * 2)).block, (a.add (i * 2)).off + 1, none⟩ = some (.string x.2) := by
  obtain ⟨a', ha, _, h2, h3⟩ := h.on hb i x hx
  cases ha
  exact ⟨h2, h3⟩
theorem OpsAt.form {w : World} {B : Nat} {A : Option Addr} {l : List OpD} (h : OpsAt w B A l) (hl : 0 < l.length) : ∃ a, A = some a := by
  obtain ⟨a, ha, _⟩ := h 0 _ (List.getElem?_eq_getElem hl)
  exact ⟨a, ha⟩
theorem run_ixO (a : Addr) (k n c : Nat) (hk : k < n) (w : World) : Sem.run Try.prog (Instr.indexAt 22 (.slice (some a) n c) (.int .i64 (k : Int))) w = .ok (.pointer (some (a.add (k * 2)))) w := by
  go_simp
def longO (o : OpD) : Bool := decide (200 < o.2.size)
def farF (l : List OpD) : Bool := l.any longO || decide (400 < l.length)
theorem farF_no {l : List OpD} (h : farF l = false) : l.length ≤ 400 ∧ ∀ o ∈ l, o.2.size ≤ 200 := by
  unfold farF at h
  rw [Bool.or_eq_false_iff] at h
  obtain ⟨h1, h2⟩ := h
  have h2 := of_decide_eq_false h2
  refine ⟨by omega, fun o ho => ?_⟩
  have := List.any_eq_false.1 h1 o ho
  unfold longO at this
  simp at this
  omega
set_option maxHeartbeats 4000000 in
theorem far_any {w : World} {A : Option Addr} {c : Nat} {l : List OpD} (h : OpsAt w w.heap.size A l) (hl : l.length ≤ 140737488355328) (hs : ∀ o ∈ l, o.2.size ≤ maxLen) :
    Calls Try.prog 7 #[.slice A l.length c] w fun e w' => e = .returned (.bool (farF l)) ∧ Only [] w w' := by
  have hH := Lib.hid h
  have hsH := Lib.hid hs
  have hend : Hid ((∀ j x, j < l.length → l[j]? = some x → longO x = false) → farF l = decide (400 < l.length)) := Lib.hid (fun hq => by
    unfold farF
    rw [List.any_eq_false.2 (fun o ho => by
      obtain ⟨j, hj⟩ := List.getElem?_of_mem ho
      rw [hq j o (List.getElem?_eq_some_iff.1 hj).1 hj]
      exact Bool.false_ne_true)]
    simp)
  have hhit : Hid (∀ o ∈ l, longO o = true → farF l = true) := Lib.hid (fun o ho hq => by
    unfold farF
    rw [List.any_eq_true.2 ⟨o, ho, hq⟩]
    rfl)
  have hget : Hid (∀ i, i < l.length → ∃ y, l[i]? = some y) := Lib.hid (fun i hi => ⟨_, List.getElem?_eq_getElem hi⟩)
  generalize hfv : farF l = fv at *
  clear h hs hfv
  generalize l.length = n at *
  go_enter Try.func7, Try.ntmps7
  go_wp2_with fail
  go_loopw [4, 7] (fun s4 s7 wr => ∃ i : Nat, i ≤ n ∧ s7 = .int .i64 i ∧ Hid (∀ j x, j < i → l[j]? = some x → longO x = false) ∧ Hid (Only [] w wr)) (fun _ s7 _ => n - (intOf s7).toNat)
  case atStart => exact ⟨0, by omega, rfl, Lib.hid (fun j x hj => by omega), Lib.hid (Only.refl _ _)⟩
  case round =>
    obtain ⟨i, hi, rfl, hpre, hon⟩ := hrel
    by_cases hil : i < n
    · obtain ⟨y, hy⟩ := hget.out i hil
      obtain ⟨a, rfl, ha, x0, x1⟩ := hH.out.on (hon.out.below (Nat.le_refl _) (by simp)) i y hy
      have hsz := hsH.out y (List.mem_of_getElem? hy)
      obtain ⟨kd, ya⟩ := y
      simp only at x0 x1 hsz
      have hilH := Lib.hid hil
      have hyH := Lib.hid hy
      have hlt : decide ((i : Int) < (n : Int)) = true := decide_eq_true (by omega)
      have hltn : decide (i < n) = true := decide_eq_true hil
      have hwk := wrap_small (x := (i : Int) + 1) (by omega)
      clear hy
      by_cases hlg : 200 < ya.size
      · have hv : fv = true := hhit.out _ (List.mem_of_getElem? hyH.out) (by unfold longO; exact decide_eq_true hlg)
        have hd : decide ((200 : Int) < (ya.size : Int)) = true := decide_eq_true (by omega)
        have hd2 : decide (200 < ya.size) = true := decide_eq_true hlg
        have hvH := Lib.hid hv
        clear hv hlg hil hsz
        go_wp2_with fail
        go_ret
        exact ⟨ret_bool hvH.out.symm, hon.out.alloc _⟩
      · have hd : decide ((200 : Int) < (ya.size : Int)) = false := decide_eq_false (by omega)
        have hd2 : decide (200 < ya.size) = false := decide_eq_false hlg
        have hno : Hid (longO (kd, ya) = false) := Lib.hid (decide_eq_false hlg)
        clear hlg hil hsz
        go_wp2_with fail
        go_roundw
        case rel => exact ⟨i + 1, by have := hilH.out; omega, by go_num, Lib.hid (fun j x hj hx => by
          by_cases hji : j = i
          · subst hji
            rw [hyH.out] at hx
            rw [← Option.some.inj hx]
            exact hno.out
          · exact hpre.out j x (by omega) hx), Lib.hid (hon.out.alloc _)⟩
        case measure => have := hilH.out; simp [intOf]; omega
    · have hin : i = n := by omega
      subst hin
      have hv := Lib.hid (hend.out hpre.out)
      go_wp2_with fail
      go_ret
      have hx : decide ((400 : Int) < (i : Int)) = decide (400 < i) := by
        by_cases hq : 400 < i
        · rw [decide_eq_true hq, decide_eq_true (by omega)]
        · rw [decide_eq_false hq, decide_eq_false (by omega)]
      exact ⟨ret_bool (by rw [hv.out, ← hx]), hon.out⟩
set_option maxHeartbeats 4000000 in
theorem last_any {w : World} {A : Option Addr} {c B : Nat} {l : List OpD} (h : OpsAt w B A l) (hB : B ≤ w.heap.size) (hl : l.length ≤ 400) (key : ByteArray) :
    Calls Try.prog 23 #[.slice A l.length c, .string key] w fun e w' => e = .returned (.int .i64 (lastT l key)) ∧ Only [] w w' := by
  have hH := Lib.hid h
  have hstep : Hid (∀ (i : Nat) (y : OpD), l[i]? = some y → lastT (l.take (i + 1)) key = if y.1 = 0 ∧ y.2 = key then (i : Int) else lastT (l.take i) key) := Lib.hid (fun i y hy => by
    have hi := (List.getElem?_eq_some_iff.1 hy).1
    rw [List.take_add_one, hy]
    show lastT (l.take i ++ [y]) key = _
    rw [lastT_snoc, List.length_take, Nat.min_eq_left (by omega)])
  have hfin : Hid (lastT (l.take l.length) key = lastT l key) := Lib.hid (by rw [List.take_length])
  have hget : Hid (∀ i, i < l.length → ∃ y, l[i]? = some y) := Lib.hid (fun i hi => ⟨_, List.getElem?_eq_getElem hi⟩)
  obtain ⟨G, hG⟩ : ∃ G, G = lastT l key := ⟨_, rfl⟩
  rw [← hG] at hfin ⊢
  have hBH := Lib.hid hB
  clear h hG hB
  generalize l.length = n at *
  go_enter Try.func23, Try.ntmps23
  go_wp2_with fail
  go_loopw [5, 10] (fun s5 s10 wr => ∃ i : Nat, i ≤ n ∧ s10 = .int .i64 i ∧ s5 = .int .i64 (lastT (l.take i) key) ∧ Hid (Only [] w wr)) (fun _ s10 _ => n - (intOf s10).toNat)
  case atStart => exact ⟨0, by omega, rfl, rfl, Lib.hid (Only.refl _ _)⟩
  case round =>
    obtain ⟨i, hi, rfl, rfl, hon⟩ := hrel
    by_cases hil : i < n
    · obtain ⟨y, hy⟩ := hget.out i hil
      obtain ⟨a, rfl, ha, x0, x1⟩ := hH.out.on (hon.out.below hBH.out (by simp)) i y hy
      have hs := Lib.hid (hstep.out i y hy)
      obtain ⟨kd, ya⟩ := y
      simp only at x0 x1 hs
      have hilH := Lib.hid hil
      have hlt : decide ((i : Int) < (n : Int)) = true := decide_eq_true (by omega)
      have hltn : decide (i < n) = true := decide_eq_true hil
      have hwk := wrap_small (x := (i : Int) + 1) (by omega)
      clear hy hil
      generalize hT : lastT (l.take i) key = T at *
      clear hT
      by_cases hk : kd = 0
      · subst hk
        by_cases hq : ya = key
        · subst hq
          have hbq : (ya.toList == ya.toList) = true := by simp
          rw [if_pos ⟨rfl, rfl⟩] at hs
          go_wp2_with fail
          go_roundw
          case rel => exact ⟨i + 1, by have := hilH.out; omega, by go_num, by rw [hs.out], Lib.hid (hon.out.alloc _)⟩
          case measure => have := hilH.out; simp [intOf]; omega
        · have hbq := key_ne hq
          rw [if_neg (fun e => hq e.2)] at hs
          clear hq
          go_wp2_with fail
          go_roundw
          case rel => exact ⟨i + 1, by have := hilH.out; omega, by go_num, by rw [hs.out], Lib.hid (hon.out.alloc _)⟩
          case measure => have := hilH.out; simp [intOf]; omega
      · have hbk : (kd == 0) = false := beq_false_of_ne hk
        rw [if_neg (fun e => hk e.1)] at hs
        clear hk
        go_wp2_with fail
        go_roundw
        case rel => exact ⟨i + 1, by have := hilH.out; omega, by go_num, by rw [hs.out], Lib.hid (hon.out.alloc _)⟩
        case measure => have := hilH.out; simp [intOf]; omega
    · have hin : i = n := by omega
      subst hin
      rw [hfin.out]
      go_wp2_with fail
      go_ret
      exact ⟨rfl, hon.out⟩
end Go.Proofs.Ytpbmgaipeofpaaa
