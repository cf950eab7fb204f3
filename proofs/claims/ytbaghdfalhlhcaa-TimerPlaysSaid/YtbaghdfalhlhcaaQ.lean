/-
  The document's answers: At, Drop. Premises: a row of keys with times of one's own, each key once.
-/
import Derived.Test.YtbaghdfalhlhcaaP
import Derived.Test.YtbaghdfalhlhcaaG
namespace Go.Proofs.Ytbaghdfalhlhcaa
open Go.RowKit

theorem key_ne {a b : ByteArray} (h : a ≠ b) : (a.toList == b.toList) = false := by
  cases hq : (a.toList == b.toList) with
  | false => rfl
  | true => exact absurd (ba_eq (by simpa using hq)) h
/-- Where a key stands in a row, if it does. -/
theorem key_first {R : List Sc} (hu : Uniq R) {key : ByteArray} {t : Int} (h : atK R key = some t) : ∃ i, R[i]? = some (key, t) ∧ ∀ (j : Nat) (y : Sc), j < i → R[j]? = some y → y.1 ≠ key := by
  obtain ⟨i, hi⟩ := List.getElem?_of_mem (atK_mem h)
  exact ⟨i, hi, fun j y hj hy e => by have := uniq_at hu hy hi e; omega⟩
set_option maxHeartbeats 4000000 in
theorem rat_none {w : World} {B : Nat} {v : Value} {L : List Sc} (h : RowS w B v L) (hn : L.length ≤ 1000000) (key : ByteArray) (habs : ∀ x ∈ L, x.1 ≠ key) :
    Calls Try.prog 18 #[v, .string key] w fun e w' => e = .returned (.tuple #[.int .i64 0, .bool false]) ∧ w = w' := by
  have hab := Lib.hid habs
  clear habs
  obtain ⟨A, c, rfl⟩ := h.len
  have hcel := Lib.hid (rowS_cell h)
  obtain ⟨n, hnn⟩ : ∃ n, n = L.length := ⟨_, rfl⟩
  have hnH := Lib.hid hnn
  rw [← hnn] at hcel hn ⊢
  clear h hnn
  go_enter Try.func18, Try.ntmps18
  go_wp2_with fail
  go_loopw [6] (fun s6 wr => ∃ i : Nat, i ≤ n ∧ s6 = .int .i64 i ∧ w = wr) (fun s6 _ => n - (intOf s6).toNat)
  case atStart => exact ⟨0, by omega, rfl, rfl⟩
  case round =>
    obtain ⟨i, hi, rfl, rfl⟩ := hrel
    by_cases hil : i < n
    · obtain ⟨y, g, hy, rfl, d1, d2⟩ := hcel.out i hil
      have hix := run_ixS g i n c hil
      have hilH := Lib.hid hil
      have hlt : decide ((i : Int) < (n : Int)) = true := decide_eq_true (by omega)
      have hltn : decide (i < n) = true := decide_eq_true hil
      clear hil
      have hne := key_ne (hab.out y (List.mem_of_getElem? hy))
      clear hy d2
      go_wp2_with fail
      go_roundw
      case rel => exact ⟨i + 1, by have := hilH.out; omega, by go_num, trivial⟩
      case measure => have := hilH.out; simp [intOf]; omega
    · have hin : i = n := by omega
      subst hin
      go_wp2_with fail
      go_ret2
      exact ⟨rfl, rfl⟩
set_option maxHeartbeats 8000000 in
theorem rat_some {w : World} {B : Nat} {v : Value} {L : List Sc} (h : RowS w B v L) (hn : L.length ≤ 1000000) (key : ByteArray) {t : Int} {q : Nat} (hq : L[q]? = some (key, t)) (hpre : ∀ (j : Nat) (y : Sc), j < q → L[j]? = some y → y.1 ≠ key) :
    Calls Try.prog 18 #[v, .string key] w fun e w' => e = .returned (.tuple #[.int .i64 t, .bool true]) ∧ w = w' := by
  have hqH := Lib.hid hq
  have hpreH := Lib.hid hpre
  have hql := (List.getElem?_eq_some_iff.1 hq).1
  clear hq hpre
  obtain ⟨A, c, rfl⟩ := h.len
  have hcel := Lib.hid (rowS_cell h)
  obtain ⟨n, hnn⟩ : ∃ n, n = L.length := ⟨_, rfl⟩
  have hnH := Lib.hid hnn
  rw [← hnn] at hcel hn hql ⊢
  clear h hnn
  go_enter Try.func18, Try.ntmps18
  go_wp2_with fail
  go_loopw [6] (fun s6 wr => ∃ i : Nat, i ≤ q ∧ s6 = .int .i64 i ∧ w = wr) (fun s6 _ => n - (intOf s6).toNat)
  case atStart => exact ⟨0, by omega, rfl, rfl⟩
  case round =>
    obtain ⟨i, hi, rfl, rfl⟩ := hrel
    have hil : i < n := by omega
    obtain ⟨y, g, hy, rfl, d1, d2⟩ := hcel.out i hil
    have hix := run_ixS g i n c hil
    have hilH := Lib.hid hil
    have hlt : decide ((i : Int) < (n : Int)) = true := decide_eq_true (by omega)
    have hltn : decide (i < n) = true := decide_eq_true hil
    clear hil
    by_cases hiq : i < q
    · have hne := key_ne (hpreH.out i y hiq hy)
      clear hy d2
      go_wp2_with fail
      go_roundw
      case rel => exact ⟨i + 1, by omega, by go_num, trivial⟩
      case measure => have := hilH.out; simp [intOf]; omega
    · have hie : i = q := by omega
      subst hie
      have he : y = (key, t) := by rw [hqH.out] at hy; exact (Option.some.inj hy).symm
      subst he
      have hbq : (key.toList == key.toList) = true := by simp
      clear hy hiq
      simp only at d1 d2
      go_wp2_with fail
      go_ret2
      exact ⟨rfl, rfl⟩
set_option maxHeartbeats 4000000 in
theorem rdrop_none {w : World} {B : Nat} {v : Value} {L : List Sc} (h : RowS w B v L) (hn : L.length ≤ 1000000) (key : ByteArray) (habs : ∀ x ∈ L, x.1 ≠ key) :
    Calls Try.prog 13 #[v, .string key] w fun e w' => e = .returned (.tuple #[v, .bool false]) ∧ w = w' := by
  have hab := Lib.hid habs
  clear habs
  obtain ⟨A, c, rfl⟩ := h.len
  have hcel := Lib.hid (rowS_cell h)
  obtain ⟨n, hnn⟩ : ∃ n, n = L.length := ⟨_, rfl⟩
  have hnH := Lib.hid hnn
  rw [← hnn] at hcel hn ⊢
  clear h hnn
  go_enter Try.func13, Try.ntmps13
  go_wp2_with fail
  go_loopw [6] (fun s6 wr => ∃ i : Nat, i ≤ n ∧ s6 = .int .i64 i ∧ w = wr) (fun s6 _ => n - (intOf s6).toNat)
  case atStart => exact ⟨0, by omega, rfl, rfl⟩
  case round =>
    obtain ⟨i, hi, rfl, rfl⟩ := hrel
    by_cases hil : i < n
    · obtain ⟨y, g, hy, rfl, d1, d2⟩ := hcel.out i hil
      have hix := run_ixS g i n c hil
      have hilH := Lib.hid hil
      have hlt : decide ((i : Int) < (n : Int)) = true := decide_eq_true (by omega)
      have hltn : decide (i < n) = true := decide_eq_true hil
      clear hil
      have hne := key_ne (hab.out y (List.mem_of_getElem? hy))
      clear hy d2
      go_wp2_with fail
      go_roundw
      case rel => exact ⟨i + 1, by have := hilH.out; omega, by go_num, trivial⟩
      case measure => have := hilH.out; simp [intOf]; omega
    · have hin : i = n := by omega
      subst hin
      go_wp2_with fail
      go_ret2
      exact ⟨rfl, rfl⟩
set_option maxHeartbeats 8000000 in
theorem rdrop_some {w : World} {B : Nat} {v : Value} {L : List Sc} (h : RowS w B v L) (hn : L.length ≤ 1000000) (key : ByteArray) {t : Int} {q : Nat} (hq : L[q]? = some (key, t)) (hpre : ∀ (j : Nat) (y : Sc), j < q → L[j]? = some y → y.1 ≠ key) :
    Calls Try.prog 13 #[v, .string key] w fun e w' => ∃ v', e = .returned (.tuple #[v', .bool true]) ∧ FreshS w v' (L.take q ++ L.drop (q + 1)) w' := by
  have hqH := Lib.hid hq
  have hpreH := Lib.hid hpre
  have hql := (List.getElem?_eq_some_iff.1 hq).1
  obtain ⟨S, hS, hsrc⟩ := cut_toS h q (by omega) (q : Nat) rfl
  obtain ⟨T, hT, htsrc⟩ := cut_fromS h (q + 1) (by omega) ((q : Nat) + 1) (by omega)
  have hsH := Lib.hid hsrc
  have htH := Lib.hid htsrc
  have hl1 : Hid ((L.take q).length ≤ 1000000) := Lib.hid (by rw [List.length_take]; omega)
  have hl2 : Hid ((L.take q).length + (L.drop (q + 1)).length ≤ 1000001) := Lib.hid (by rw [List.length_take, List.length_drop]; omega)
  have hw1 := wrap_small (x := ((q : Nat) : Int) + 1) (by omega)
  clear hsrc htsrc
  clear hq hpre
  obtain ⟨A, c, rfl⟩ := h.len
  have hcel := Lib.hid (rowS_cell h)
  obtain ⟨n, hnn⟩ : ∃ n, n = L.length := ⟨_, rfl⟩
  have hnH := Lib.hid hnn
  rw [← hnn] at hcel hn hql hS hT ⊢
  clear h hnn
  go_enter Try.func13, Try.ntmps13
  go_wp2_with fail
  go_loopw [6] (fun s6 wr => ∃ i : Nat, i ≤ q ∧ s6 = .int .i64 i ∧ w = wr) (fun s6 _ => n - (intOf s6).toNat)
  case atStart => exact ⟨0, by omega, rfl, rfl⟩
  case round =>
    obtain ⟨i, hi, rfl, rfl⟩ := hrel
    have hil : i < n := by omega
    obtain ⟨y, g, hy, rfl, d1, d2⟩ := hcel.out i hil
    have hix := run_ixS g i n c hil
    have hilH := Lib.hid hil
    have hlt : decide ((i : Int) < (n : Int)) = true := decide_eq_true (by omega)
    have hltn : decide (i < n) = true := decide_eq_true hil
    clear hil
    by_cases hiq : i < q
    · have hne := key_ne (hpreH.out i y hiq hy)
      clear hy d2
      go_wp2_with fail
      go_roundw
      case rel => exact ⟨i + 1, by omega, by go_num, trivial⟩
      case measure => have := hilH.out; simp [intOf]; omega
    · have hie : i = q := by omega
      subst hie
      have he : y = (key, t) := by rw [hqH.out] at hy; exact (Option.some.inj hy).symm
      subst he
      have hbq : (key.toList == key.toList) = true := by simp
      clear hy hiq
      simp only at d1 d2
      clear d2
      go_wp2_with fail
      clear d1 hix hlt hltn hilH hql hi hcel hnH hqH hpreH
      generalize hP : L.take i = P at *
      generalize hD : L.drop (i + 1) = R at *
      have hPH := Lib.hid hP
      have hDH := Lib.hid hD
      clear hP hD
      go_region_law (first
        | (refine step_append_s (o := ⟨some 23, _, _, _, _, _⟩) (by rfl) (.const (.slice none 0 0)) (.tmp 22) (by rfl) w.heap.size (.slice none 0 0) S [] P (by rfl) (by simp [Act.eval, Act.put]) (rowS_nil _ _) (hsH.out.none ((Only.refl [] w).drewN _)) (by have := hl1.out; simp; omega) (by simp) ?_; intro v1 w3 hR1 hO1 hv1; have hO1H := Lib.hid (((Only.refl [] w).drew).trans hO1 (by simp [Value.ownBlock])); have hR1H := Lib.hid (show RowS w3 w.heap.size v1 P from hR1); clear hR1 hO1 hv1)
        | (refine step_append_s (o := ⟨some 28, _, _, _, _, _⟩) (by rfl) (.tmp 23) (.tmp 27) (by rfl) w.heap.size v1 T P R (by simp [Act.eval]) (by simp [Act.eval]) hR1H.out (htH.out.none (hO1H.out)) (by have := hl2.out; omega) hO1H.out.size ?_; intro v4 w4 hR2 hO2 hv2; have hR2H := Lib.hid hR2; have hO2H := Lib.hid (own_newS hO2 hO1H.out (fun k hk => (hR1H.out.lt k hk).1)); clear hR2 hO2 hv2))
      all_goals go_wp2_with fail
      all_goals go_ret2
      all_goals exact ⟨v4, rfl, by rw [hPH.out, hDH.out]; exact hR2H.out, hO2H.out⟩
/-- At, as the document has it. -/
theorem rat_any {w : World} {B : Nat} {v : Value} {L : List Sc} (h : RowS w B v L) (hn : L.length ≤ 1000000) (hu : Uniq L) (key : ByteArray) :
    Calls Try.prog 18 #[v, .string key] w fun e w' => e = .returned (atV L key) ∧ w = w' := by
  unfold atV
  cases hq : atK L key with
  | none => exact rat_none h hn key (atK_none.1 hq)
  | some t =>
    obtain ⟨i, h1, h2⟩ := key_first hu hq
    exact rat_some h hn key h1 h2
/-- Drop, as the document has it. -/
theorem rdrop_any {w : World} {B : Nat} {v : Value} {L : List Sc} (h : RowS w B v L) (hB : B ≤ w.heap.size) (hn : L.length ≤ 1000000) (hu : Uniq L) (key : ByteArray) :
    Calls Try.prog 13 #[v, .string key] w fun e w' => ∃ v', e = .returned (.tuple #[v', .bool (atK L key).isSome]) ∧ RowS w' B v' (dropK L key) ∧ Only [] w w' := by
  cases hq : atK L key with
  | none =>
    rw [dropK_none (atK_none.1 hq)]
    refine (rdrop_none h hn key (atK_none.1 hq)).mono ?_
    rintro e w' ⟨rfl, rfl⟩
    exact ⟨v, rfl, h, Only.refl _ _⟩
  | some t =>
    obtain ⟨i, h1, h2⟩ := key_first hu hq
    refine (rdrop_some h hn key h1 h2).mono ?_
    rintro e w' ⟨v', rfl, hR, hO⟩
    have := dropK_at hu h1
    simp only at this
    rw [this]
    exact ⟨v', rfl, hR.base hB, hO⟩
end Go.Proofs.Ytbaghdfalhlhcaa
