/-
  The document's answers: Count, Drop, Touch. Premises: a row of keys with counts of one's own.
-/
import Derived.Test.YtpbmgaipeofpaaaM
namespace Go.Proofs.Ytpbmgaipeofpaaa
open Go.RowKit

theorem rowS_cell {w : World} {B : Nat} {A : Option Addr} {n c : Nat} {L : List Sc} (h : RowS w B (.slice A n c) L) : ∀ k, k < L.length → ∃ (y : Sc) (g : Nat), L[k]? = some y ∧ A = some ⟨g, 0, none⟩ ∧ w.cell? ⟨g, k * 2, none⟩ = some (.string y.1) ∧ w.cell? ⟨g, k * 2 + 1, none⟩ = some (.int .i64 y.2) := by
  intro k hk
  rcases h.form with ⟨_, rfl⟩ | ⟨g, cap, he, h1, h2, h3, hc⟩
  · simp at hk
  · cases he
    exact ⟨L[k], g, List.getElem?_eq_getElem hk, rfl, hc k _ (List.getElem?_eq_getElem hk)⟩
set_option maxHeartbeats 4000000 in
theorem rcnt_none {w : World} {B : Nat} {v : Value} {L : List Sc} (h : RowS w B v L) (hn : L.length ≤ 1000000) (key : ByteArray) (habs : ∀ x ∈ L, x.1 ≠ key) :
    Calls Try.prog 18 #[v, .string key] w fun e w' => e = .returned (.int .i64 0) ∧ w = w' := by
  have hab := Lib.hid habs
  clear habs
  obtain ⟨A, c, rfl⟩ := h.len
  have hcel := Lib.hid (rowS_cell h)
  obtain ⟨n, hnn⟩ : ∃ n, n = L.length := ⟨_, rfl⟩
  have hnH := Lib.hid hnn
  rw [← hnn] at hcel hn ⊢
  clear h hnn
  go_enter Try.func18, Try.ntmps18
  go_wp2_with fail
  go_loopw [5] (fun s5 wr => ∃ i : Nat, i ≤ n ∧ s5 = .int .i64 i ∧ w = wr) (fun s5 _ => n - (intOf s5).toNat)
  case atStart => exact ⟨0, by omega, rfl, rfl⟩
  case round =>
    obtain ⟨i, hi, rfl, rfl⟩ := hrel
    by_cases hil : i < n
    · obtain ⟨y, g, hy, rfl, d1, d2⟩ := hcel.out i hil
      have hix := run_ixS g i n c hil
      have hilH := Lib.hid hil
      have hlt : decide ((i : Int) < (n : Int)) = true := decide_eq_true (by omega)
      have hltn : decide (i < n) = true := decide_eq_true hil
      clear hil
      have hne := key_ne (hab.out y (List.mem_of_getElem? hy))
      clear hy d2
      go_wp2_with fail
      go_roundw
      case rel => exact ⟨i + 1, by have := hilH.out; omega, by go_num, trivial⟩
      case measure => have := hilH.out; simp [intOf]; omega
    · have hin : i = n := by omega
      subst hin
      go_wp2_with fail
      go_ret
      exact ⟨rfl, rfl⟩
set_option maxHeartbeats 8000000 in
theorem rcnt_some {w : World} {B : Nat} {v : Value} {L : List Sc} (h : RowS w B v L) (hn : L.length ≤ 1000000) (key : ByteArray) {t : Int} {q : Nat} (hq : L[q]? = some (key, t)) (hpre : ∀ (j : Nat) (y : Sc), j < q → L[j]? = some y → y.1 ≠ key) :
    Calls Try.prog 18 #[v, .string key] w fun e w' => e = .returned (.int .i64 t) ∧ w = w' := by
  have hqH := Lib.hid hq
  have hpreH := Lib.hid hpre
  have hql := (List.getElem?_eq_some_iff.1 hq).1
  clear hq hpre
  obtain ⟨A, c, rfl⟩ := h.len
  have hcel := Lib.hid (rowS_cell h)
  obtain ⟨n, hnn⟩ : ∃ n, n = L.length := ⟨_, rfl⟩
  have hnH := Lib.hid hnn
  rw [← hnn] at hcel hn hql ⊢
  clear h hnn
  go_enter Try.func18, Try.ntmps18
  go_wp2_with fail
  go_loopw [5] (fun s5 wr => ∃ i : Nat, i ≤ q ∧ s5 = .int .i64 i ∧ w = wr) (fun s5 _ => n - (intOf s5).toNat)
  case atStart => exact ⟨0, by omega, rfl, rfl⟩
  case round =>
    obtain ⟨i, hi, rfl, rfl⟩ := hrel
    have hil : i < n := by omega
    obtain ⟨y, g, hy, rfl, d1, d2⟩ := hcel.out i hil
    have hix := run_ixS g i n c hil
    have hilH := Lib.hid hil
    have hlt : decide ((i : Int) < (n : Int)) = true := decide_eq_true (by omega)
    have hltn : decide (i < n) = true := decide_eq_true hil
    clear hil
    by_cases hiq : i < q
    · have hne := key_ne (hpreH.out i y hiq hy)
      clear hy d2
      go_wp2_with fail
      go_roundw
      case rel => exact ⟨i + 1, by omega, by go_num, trivial⟩
      case measure => have := hilH.out; simp [intOf]; omega
    · have hie : i = q := by omega
      subst hie
      have he : y = (key, t) := by rw [hqH.out] at hy; exact (Option.some.inj hy).symm
      subst he
      have hbq : (key.toList == key.toList) = true := by simp
      clear hy hiq
      simp only at d1 d2
      go_wp2_with fail
      go_ret
      exact ⟨rfl, rfl⟩
/-- Count, as the document has it. -/
theorem rcnt_any {w : World} {B : Nat} {v : Value} {L : List Sc} (h : RowS w B v L) (hn : L.length ≤ 1000000) (key : ByteArray) :
    Calls Try.prog 18 #[v, .string key] w fun e w' => e = .returned (.int .i64 (cntF L key)) ∧ w = w' := by
  rcases cntF_cases L key with ⟨h1, h2⟩ | ⟨i, t, h1, h2, h3⟩
  · rw [h2]; exact rcnt_none h hn key h1
  · rw [h3]; exact rcnt_some h hn key h1 h2
/-- Whether a key is there. -/
def hasF (R : List Sc) (k : ByteArray) : Bool := decide ((goF R k).length < R.length)
set_option maxHeartbeats 8000000 in
/-- Drop, as the document has it. -/
theorem rgo_any {w : World} {B : Nat} {v : Value} {L : List Sc} (h : RowS w B v L) (hn : L.length ≤ 1000000) (key : ByteArray) :
    Calls Try.prog 13 #[v, .string key] w fun e w' => ∃ v', e = .returned (.tuple #[v', .bool (hasF L key)]) ∧ RowS w' w.heap.size v' (goF L key) ∧ Only [] w w' := by
  have hH := Lib.hid h
  obtain ⟨A, c, rfl⟩ := h.len
  have hstep : Hid (∀ (i : Nat) (y : Sc), L[i]? = some y → goF (L.take (i + 1)) key = if y.1 = key then goF (L.take i) key else goF (L.take i) key ++ [y]) := Lib.hid (fun i y hy => by
    rw [List.take_add_one, hy]
    exact goF_snoc _ _ _)
  have hfin : Hid (goF (L.take L.length) key = goF L key) := Lib.hid (by rw [List.take_length])
  have hle : Hid (∀ i : Nat, (goF (L.take i) key).length ≤ 1000000) := Lib.hid (fun i => by
    have := goF_le (L.take i) key
    rw [List.length_take] at this
    omega)
  have hcel := Lib.hid (fun (w2 : World) (ho : Only [] w w2) => rowS_cell (h.none ho))
  obtain ⟨b, hb⟩ : ∃ b, b = hasF L key := ⟨_, rfl⟩
  have hbe : Hid (b = decide ((goF L key).length < L.length)) := Lib.hid hb
  rw [← hb]
  obtain ⟨G, hG⟩ : ∃ G, G = goF L key := ⟨_, rfl⟩
  rw [← hG] at hfin hbe ⊢
  obtain ⟨n, hnn⟩ : ∃ n, n = L.length := ⟨_, rfl⟩
  rw [← hnn] at hH hfin hn hbe hcel ⊢
  clear h hb hnn hG
  go_enter Try.func13, Try.ntmps13
  go_wp2_with fail
  go_loopw [6, 7] (fun s6 s7 wr => ∃ (i : Nat) (v6 : Value), i ≤ n ∧ s7 = .int .i64 i ∧ v6 = s6 ∧ Hid (RowS wr w.heap.size v6 (goF (L.take i) key)) ∧ Hid (Only [] w wr)) (fun _ s7 _ => n - (intOf s7).toNat)
  case atStart => exact ⟨0, _, by omega, rfl, rfl, Lib.hid (rowS_nil _ _), Lib.hid (Only.refl _ _)⟩
  case round =>
    obtain ⟨i, v6, hi, rfl, rfl, hR, hon⟩ := hrel
    by_cases hil : i < n
    · obtain ⟨y, g, hy, rfl, d1, d2⟩ := hcel.out wr hon.out i hil
      have hix := run_ixS g i n c hil
      have hilH := Lib.hid hil
      have hst := hstep.out i y hy
      have hlt : decide ((i : Int) < (n : Int)) = true := decide_eq_true (by omega)
      have hltn : decide (i < n) = true := decide_eq_true hil
      have hwk := wrap_small (x := (i : Int) + 1) (by omega)
      obtain ⟨yk, yt⟩ := y
      simp only at d1 d2 hst
      clear hil hy
      by_cases hk : yk = key
      · subst hk
        rw [if_pos rfl] at hst
        have hbq : (yk.toList == yk.toList) = true := by simp
        have hstH := Lib.hid hst
        clear hst
        go_wp2_with fail
        go_roundw
        case rel => exact ⟨i + 1, v6, by have := hilH.out; omega, by go_num, rfl, Lib.hid (by rw [hstH.out]; exact hR.out), hon⟩
        case measure => have := hilH.out; simp [intOf]; omega
      · have hne := key_ne hk
        rw [if_neg hk] at hst
        have hstH := Lib.hid hst
        clear hst hk
        obtain ⟨T, hT⟩ : ∃ T, T = goF (L.take i) key := ⟨_, rfl⟩
        have hTl := Lib.hid (hle.out i)
        rw [← hT] at hR hstH hTl
        clear hT
        go_wp2_with (first
          | (at_builtin; refine wpList_append_s (o := ⟨some 27, _, _, _, _, _⟩) (by rfl) (.tmp 21) (.tmp 26) (by rfl) w.heap.size v6 (.slice (some ⟨wr.heap.size, 0, none⟩) 1 1) T [(yk, yt)] (by rfl) (by rfl) (hR.out.none ((Only.refl [] wr).alloc (.cells #[.string yk, .int .i64 yt] 64))) (rowS_one (yk, yt) (Nat.le_refl _)).src (by have := hTl.out; simp; omega) (by have := hon.out.size; have := ((Only.refl [] wr).alloc (.cells #[.string yk, .int .i64 yt] 64)).size; omega) ?_; intro v7 w7 hR7 hO7 hv7; have hR7H := Lib.hid hR7; have hO7H := Lib.hid (own_newS hO7 (hon.out.alloc _) (fun x hx => (hR.out.lt x hx).1)); clear hR7 hO7 hv7))
        go_roundw
        case rel => exact ⟨i + 1, v7, by have := hilH.out; omega, by go_num, rfl, Lib.hid (by rw [hstH.out]; exact hR7H.out), hO7H⟩
        case measure => have := hilH.out; simp [intOf]; omega
    · have hin : i = n := by omega
      subst hin
      have hR2 := hR.out
      rw [hfin.out] at hR2
      obtain ⟨A6, c6, rfl⟩ := hR2.len
      have hR2H := Lib.hid hR2
      clear hR2 hR
      go_wp2_with fail
      go_ret2
      refine ⟨_, ?_, hR2H.out, hon.out⟩
      rw [hbe.out]
      have : decide ((G.length : Int) < (i : Int)) = decide (G.length < i) := by
        by_cases hq : G.length < i
        · rw [decide_eq_true hq, decide_eq_true (by omega)]
        · rw [decide_eq_false hq, decide_eq_false (by omega)]
      first | rw [this] | simp
set_option maxHeartbeats 4000000 in
/-- Touch, as the document has it. -/
theorem rtip_any {w : World} {B : Nat} {v : Value} {L : List Sc} (h : RowS w B v L) (hn : L.length ≤ 1000000) (hc : Cnt L) (key : ByteArray) :
    Calls Try.prog 11 #[v, .string key] w fun e w' => ∃ v', e = .returned (.tuple #[v', .int .i64 (upF (cntF L key))]) ∧ RowS w' w.heap.size v' (tipF L key) ∧ Only [] w w' := by
  have hC := Lib.hid (rcnt_any h hn key)
  have hD := Lib.hid (rgo_any h hn key)
  obtain ⟨r1, r2⟩ := cntF_range hc key
  have hle : Hid ((goF L key).length ≤ 1000000) := Lib.hid (Nat.le_trans (goF_le L key) hn)
  obtain ⟨A, c, hve⟩ := h.len
  generalize L.length = n0 at hve
  subst hve
  unfold tipF
  obtain ⟨t, ht⟩ : ∃ t, t = cntF L key := ⟨_, rfl⟩
  rw [← ht] at hC r1 r2 ⊢
  obtain ⟨b, hb⟩ : ∃ b, b = hasF L key := ⟨_, rfl⟩
  rw [← hb] at hD
  obtain ⟨G, hG⟩ : ∃ G, G = goF L key := ⟨_, rfl⟩
  rw [← hG] at hD hle ⊢
  have hw1 := wrap_small (x := t + 1) (by omega)
  obtain ⟨u, hu⟩ : ∃ u, u = upF t := ⟨_, rfl⟩
  rw [← hu]
  have huH : Hid (u = if 255 < t + 1 then 255 else t + 1) := Lib.hid (by rw [hu]; rfl)
  clear h hn hc hb hG ht hu
  by_cases h255 : 255 < t + 1
  · have hue : u = 255 := by rw [huH.out, if_pos h255]
    subst hue
    have hd : decide ((255 : Int) < t + 1) = true := decide_eq_true h255
    clear huH h255
    go_enter Try.func11, Try.ntmps11
    go_wp2_with (first
      | (go_at_call 18; ((with_reducible refine (hC.out).mono ?_); rintro e w1 ⟨rfl, rfl⟩))
      | (go_at_call 13; ((with_reducible refine (hD.out).mono ?_); rintro e w2 ⟨v2, rfl, hR2, hO2⟩; obtain ⟨A2, c2, hve2⟩ := hR2.len; generalize G.length = m2 at hve2; subst hve2; have hRH := Lib.hid hR2; have hOH := Lib.hid hO2; clear hR2 hO2))
      | (at_builtin; refine wpList_append_s (o := ⟨some 26, _, _, _, _, _⟩) (by rfl) (.tmp 21) (.tmp 25) (by rfl) w.heap.size (.slice A2 m2 c2) (.slice (some ⟨w2.heap.size, 0, none⟩) 1 1) G [(key, 255)] (by rfl) (by rfl) (hRH.out.none ((Only.refl [] w2).alloc (.cells #[.string key, .int .i64 255] 64))) (rowS_one (key, 255) (Nat.le_refl _)).src (by have := hle.out; simp; omega) (by have := hOH.out.size; have := ((Only.refl [] w2).alloc (.cells #[.string key, .int .i64 255] 64)).size; omega) ?_; intro v7 w7 hR7 hO7 hv7; have hR7H := Lib.hid hR7; have hO7H := Lib.hid (own_newS hO7 (hOH.out.alloc _) (fun x hx => (hRH.out.lt x hx).1)); clear hR7 hO7 hv7))
    all_goals go_ret2
    exact ⟨v7, rfl, hR7H.out, hO7H.out⟩
  · have hue : u = t + 1 := by rw [huH.out, if_neg h255]
    subst hue
    have hd : decide ((255 : Int) < t + 1) = false := decide_eq_false h255
    clear huH h255
    go_enter Try.func11, Try.ntmps11
    go_wp2_with (first
      | (go_at_call 18; ((with_reducible refine (hC.out).mono ?_); rintro e w1 ⟨rfl, rfl⟩))
      | (go_at_call 13; ((with_reducible refine (hD.out).mono ?_); rintro e w2 ⟨v2, rfl, hR2, hO2⟩; obtain ⟨A2, c2, hve2⟩ := hR2.len; generalize G.length = m2 at hve2; subst hve2; have hRH := Lib.hid hR2; have hOH := Lib.hid hO2; clear hR2 hO2))
      | (at_builtin; refine wpList_append_s (o := ⟨some 26, _, _, _, _, _⟩) (by rfl) (.tmp 21) (.tmp 25) (by rfl) w.heap.size (.slice A2 m2 c2) (.slice (some ⟨w2.heap.size, 0, none⟩) 1 1) G [(key, t + 1)] (by rfl) (by rfl) (hRH.out.none ((Only.refl [] w2).alloc (.cells #[.string key, .int .i64 (t + 1)] 64))) (rowS_one (key, t + 1) (Nat.le_refl _)).src (by have := hle.out; simp; omega) (by have := hOH.out.size; have := ((Only.refl [] w2).alloc (.cells #[.string key, .int .i64 (t + 1)] 64)).size; omega) ?_; intro v7 w7 hR7 hO7 hv7; have hR7H := Lib.hid hR7; have hO7H := Lib.hid (own_newS hO7 (hOH.out.alloc _) (fun x hx => (hRH.out.lt x hx).1)); clear hR7 hO7 hv7))
    all_goals go_ret2
    exact ⟨v7, rfl, hR7H.out, hO7H.out⟩
end Go.Proofs.Ytpbmgaipeofpaaa
