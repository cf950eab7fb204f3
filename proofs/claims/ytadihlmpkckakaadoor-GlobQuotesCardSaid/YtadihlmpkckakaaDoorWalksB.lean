/-
  The walks of package glob's classes and parts. No condition but the lengths that Go's own strings have.
-/
import Derived.Test.YtadihlmpkckakaaDoorWalks
import Derived.Lib.IndexBytes
namespace Go.Proofs.YtadihlmpkckakaaDoor
open Go.RowKit Gl

theorem tail_data (s : ByteArray) (k : Nat) : (s.extract k s.size).data.toList.drop 0 = s.data.toList.drop k := by
  rw [List.drop_zero, Lib.extract_to_end]
theorem tail_size (s : ByteArray) (k : Nat) : (s.extract k s.size).size = s.size - k := by simp
theorem lit_at (s : ByteArray) (k : Nat) (w : World) (hs : s.size ≤ 65536) (h0 : k < s.size) :
    Calls Tryd.prog 22 #[.string (s.extract k s.size)] w fun e w' => e = .returned (.tuple #[.int .u8 (litB (s.data.toList.drop k)), .int .i64 (litN (s.data.toList.drop k))]) ∧ w = w' := by
  have h := lit_any (s.extract k s.size) w (by rw [tail_size]; unfold maxLen; omega) (by rw [tail_size]; omega)
  rwa [tail_data] at h
theorem item_at (s : ByteArray) (k : Nat) (w : World) (hs : s.size ≤ 65536) (h0 : k < s.size) :
    Calls Tryd.prog 34 #[.string (s.extract k s.size)] w fun e w' => e = .returned (.tuple #[.int .u8 (itL (s.data.toList.drop k)), .int .u8 (itH (s.data.toList.drop k)), .int .i64 (itN (s.data.toList.drop k))]) ∧ ∃ n, w' = w.drewN n := by
  have h := item_any (s.extract k s.size) w (by rw [tail_size]; unfold maxLen; omega) (by rw [tail_size]; omega)
  rwa [tail_data] at h
theorem turned_at (s : ByteArray) (k : Nat) (w : World) (b : Bool) (hb : Hid (turned (s.data.toList.drop k) = b)) :
    Calls Tryd.prog 33 #[.string (s.extract k s.size), .string ⟨#[94]⟩] w fun e w' => e = .returned (.bool b) ∧ w = w' := by
  refine (Tryd.strings_HasPrefix (s.extract k s.size) ⟨#[94]⟩ w).mono fun e w' ⟨he, hw⟩ => ⟨?_, hw.symm⟩
  rw [he, Lib.extract_to_end, ← hb.out]
  congr 2
  unfold Lib.hasPrefix turned
  cases s.data.toList.drop k with
  | nil => rfl
  | cons a t =>
    show (94 == a && ([] : List UInt8).isPrefixOf t) = (some a == some 94)
    rw [List.isPrefixOf]
    by_cases h : a = 94
    · subst h; rfl
    · have h1 : ((94 : UInt8) == a) = false := by simpa using Ne.symm h
      rw [h1]
      simp [h]

theorem itN_pos (l : List UInt8) : 1 ≤ itN l := by have := item_pos l; unfold itN; omega
theorem itN_le (s : ByteArray) (k : Nat) (h : k < s.size) : (k : Int) + itN (s.data.toList.drop k) ≤ s.size := by
  have hl : (s.data.toList.drop k).length = s.size - k := by simp
  have := item_le (s.data.toList.drop k) (by intro e; rw [e] at hl; simp at hl; omega)
  unfold itN
  omega
theorem head_ne {s : ByteArray} {k : Nat} (h : k < s.size) (h2 : ¬ (s[k].toNat : Int) = 93) : s.data.toList.drop k ≠ [] ∧ (s.data.toList.drop k).head? ≠ some 93 := by
  rw [cons1 s k h]
  refine ⟨by simp, fun e => h2 ?_⟩
  have e1 : s[k] = 93 := by simpa using e
  rw [e1]; rfl
/-- Where a walk over a class's items stands. -/
def InClass (s : ByteArray) (c : UInt8) (k0 k : Nat) (b : Bool) : Prop :=
  (b || itemsHas (s.data.toList.drop k) c) = itemsHas (s.data.toList.drop k0) c ∧ k + itemsLen (s.data.toList.drop k) = k0 + itemsLen (s.data.toList.drop k0)
theorem inClass_start (s : ByteArray) (c : UInt8) (k0 : Nat) : InClass s c k0 k0 false := ⟨rfl, rfl⟩
theorem inClass_on {s : ByteArray} {c : UInt8} {k0 k : Nat} {b : Bool} (hc : InClass s c k0 k b) (h : k < s.size) (h2 : ¬ (s[k].toNat : Int) = 93) (x : Bool)
    (hx : x = within (item (s.data.toList.drop k)) c) : InClass s c k0 (k + (item (s.data.toList.drop k)).2.2) (b || x) := by
  obtain ⟨h3, h4⟩ := hc
  obtain ⟨n1, n2⟩ := head_ne h h2
  unfold InClass
  rw [has_more n1 n2, ← hx] at h3
  rw [len_more n1 n2] at h4
  rw [List.drop_drop] at h3 h4
  exact ⟨by rw [← h3, Bool.or_assoc], by omega⟩
theorem inClass_end {s : ByteArray} {c : UInt8} {k0 k : Nat} {b : Bool} (hc : InClass s c k0 k b) (h : s.size ≤ k ∨ ∃ x, s[k]? = some x ∧ (x.toNat : Int) = 93) :
    b = itemsHas (s.data.toList.drop k0) c ∧ k = k0 + itemsLen (s.data.toList.drop k0) := by
  obtain ⟨h3, h4⟩ := hc
  have he : s.data.toList.drop k = [] ∨ (s.data.toList.drop k).head? = some 93 := by
    rcases h with h | ⟨x, hx, hx2⟩
    · exact Or.inl (none0 s k h)
    · obtain ⟨hk, e⟩ := getElem?_eq_some_iff.1 hx
      refine Or.inr ?_
      rw [cons1 s k hk, e, byte_of (c := x) (n := 93) (by decide) hx2]
      rfl
  rw [has_end he] at h3
  rw [len_end he] at h4
  exact ⟨by simpa using h3, by omega⟩
theorem within_eq (l : List UInt8) (c : UInt8) : within (item l) c = (decide (itL l ≤ (c.toNat : Int)) && decide ((c.toNat : Int) ≤ itH l)) := by
  unfold within itL itH
  have h1 : ∀ a b : UInt8, decide (a ≤ b) = decide ((a.toNat : Int) ≤ (b.toNat : Int)) := by
    intro a b
    rw [decide_eq_decide, UInt8.le_iff_toNat_le]
    omega
  rw [h1, h1]

/-- What a class answers: whether a byte is it, and how many bytes it has. -/
def clB (s : ByteArray) (c : UInt8) : Bool := clsHas (s.data.toList.drop 1) c
def clN (s : ByteArray) : Int := min (1 + (clsLen (s.data.toList.drop 1) : Int)) s.size
theorem cls_end {s : ByteArray} {c : UInt8} {k0 k : Nat} {b tu : Bool} (ht : turned (s.data.toList.drop 1) = tu) (hk0 : k0 = 1 + (if tu then 1 else 0))
    (h : b = itemsHas (s.data.toList.drop k0) c ∧ k = k0 + itemsLen (s.data.toList.drop k0)) : (b != tu) = clB s c ∧ min ((k : Int) + 1) s.size = clN s := by
  have hb : body (s.data.toList.drop 1) = s.data.toList.drop k0 := by
    unfold body
    rw [ht, hk0]
    cases tu with
    | true => show (s.data.toList.drop 1).tail = s.data.toList.drop 2; rw [List.tail_drop]
    | false => rfl
  unfold clB clN clsHas clsLen
  rw [hb, ht, h.1, h.2]
  refine ⟨rfl, ?_⟩
  rw [hk0]
  cases tu <;> simp <;> omega
theorem ret_bi {a a' : Bool} {b b' : Int} (h : a' = a ∧ b' = b) : Ending.returned (.tuple #[.bool a, .int .i64 b]) = .returned (.tuple #[.bool a', .int .i64 b']) := by rw [h.1, h.2]

theorem or_true_ {b x : Bool} (h : b = true) : true = (b || x) := by rw [h]; rfl
theorem or_low {b x : Bool} {l c h : Int} (hb : ¬ b = true) (hx : x = (decide (l ≤ c) && decide (c ≤ h))) (hl : l ≤ c) : decide (c ≤ h) = (b || x) := by
  rw [hx, decide_eq_true hl]
  cases b with
  | true => exact absurd rfl hb
  | false => rfl
theorem or_high {b x : Bool} {l c h : Int} (hb : ¬ b = true) (hx : x = (decide (l ≤ c) && decide (c ≤ h))) (hl : ¬ l ≤ c) : false = (b || x) := by
  rw [hx, decide_eq_false hl]
  cases b with
  | true => exact absurd rfl hb
  | false => rfl
theorem rel_next {s : ByteArray} {c : UInt8} {w : World} {k0 k m : Nat} {b x : Bool} (hl : (k : Int) + itN (s.data.toList.drop k) ≤ s.size)
    (ho : ∀ y : Bool, y = within (item (s.data.toList.drop k)) c → InClass s c k0 (k + (item (s.data.toList.drop k)).2.2) (b || y))
    (hx : x = (b || within (item (s.data.toList.drop k)) c)) : ∃ (k1 m1 : Nat) (b1 : Bool), k1 ≤ s.size ∧ Value.int .i64 ((k : Int) + itN (s.data.toList.drop k)) = Value.int .i64 k1 ∧ Value.bool x = Value.bool b1 ∧ Hid (InClass s c k0 k1 b1) ∧ w.drewN m = w.drewN m1 := by
  have e : itN (s.data.toList.drop k) = ((item (s.data.toList.drop k)).2.2 : Int) := rfl
  refine ⟨k + (item (s.data.toList.drop k)).2.2, m, x, by omega, congrArg (Value.int .i64) (by omega), rfl, ?_, rfl⟩
  rw [hx]
  exact Lib.hid (ho _ rfl)

theorem cl_plain {b d : Bool} {x y : Int} (h : (b != false) = d ∧ x = y) : d = b ∧ y = x := ⟨by rw [← h.1]; simp, h.2.symm⟩
theorem cl_turned {b d : Bool} {x y : Int} (h : (b != true) = d ∧ x = y) : d = !b ∧ y = x := ⟨by rw [← h.1]; simp, h.2.symm⟩
theorem turned_len {s : ByteArray} (h : turned (s.data.toList.drop 1) = true) : 2 ≤ s.size := by
  have hl : (s.data.toList.drop 1).length = s.size - 1 := by simp
  cases hd : s.data.toList.drop 1 with
  | nil => rw [hd] at h; cases h
  | cons a t => rw [hd] at hl; simp at hl; omega
set_option maxHeartbeats 1000000 in
theorem class_plain (s : ByteArray) (c : UInt8) (w : World) (hs : s.size ≤ 65536) (h0 : 0 < s.size) (ht : Hid (turned (s.data.toList.drop 1) = false)) :
    Calls Tryd.prog 25 #[.string s, .int .u8 (c.toNat : Int)] w fun e w' => e = .returned (.tuple #[.bool (clB s c), .int .i64 (clN s)]) ∧ ∃ n, w' = w.drewN n := by
  go_enter Tryd.func25, Tryd.ntmps25
  go_wp2_with (go_at_call 33; (with_reducible refine (turned_at s 1 _ false ht).mono ?_); rintro e w' ⟨rfl, rfl⟩)
  go_loopw [6, 8] (fun n had wr => ∃ (k m : Nat) (b : Bool), k ≤ s.size ∧ n = .int .i64 k ∧ had = .bool b ∧ Hid (InClass s c 1 k b) ∧ wr = w.drewN m) (fun n _ _ => s.size - (intOf n).toNat)
  case atStart => exact ⟨1, 0, false, by omega, rfl, rfl, Lib.hid (inClass_start _ _ _), rfl⟩
  case round =>
    obtain ⟨k, m, b, hk, rfl, rfl, hc, rfl⟩ := hrel
    by_cases hlt : k < s.size
    · by_cases h93 : (s[k].toNat : Int) = 93
      · have hn := Lib.hid (cls_end ht.out rfl (inClass_end hc.out (Or.inr ⟨_, getElem?_pos s k hlt, h93⟩)))
        have h93' : ((s[k].toNat : Int) != 93) = false := by simpa using h93
        clear h93
        go_wp2_with fail
        go_ret2
        exact ⟨ret_bi (cl_plain hn.out), _, rfl⟩
      · have hp := itN_pos (s.data.toList.drop k)
        have hl := itN_le s k hlt
        have hw := Lib.hid (within_eq (s.data.toList.drop k) c)
        have ho := Lib.hid (inClass_on hc.out hlt h93)
        have h93' : ((s[k].toNat : Int) != 93) = true := by simpa using h93
        go_wp2_with (go_at_call 34; (with_reducible refine (item_at s k _ hs hlt).mono ?_); rintro e w' ⟨rfl, n, rfl⟩)
        all_goals go_roundw
        case rel => exact rel_next hl ho.out (or_true_ (by assumption))
        case measure => simp [intOf]; omega
        case rel => exact rel_next hl ho.out (or_low (by assumption) hw.out (by assumption))
        case measure => simp [intOf]; omega
        case rel => exact rel_next hl ho.out (or_high (by assumption) hw.out (by assumption))
        case measure => simp [intOf]; omega
    · have hn := Lib.hid (cls_end ht.out rfl (inClass_end hc.out (Or.inl (by omega))))
      go_wp2_with fail
      go_ret2
      exact ⟨ret_bi (cl_plain hn.out), _, rfl⟩

set_option maxHeartbeats 1000000 in
theorem class_turned (s : ByteArray) (c : UInt8) (w : World) (hs : s.size ≤ 65536) (h0 : 0 < s.size) (ht : Hid (turned (s.data.toList.drop 1) = true)) :
    Calls Tryd.prog 25 #[.string s, .int .u8 (c.toNat : Int)] w fun e w' => e = .returned (.tuple #[.bool (clB s c), .int .i64 (clN s)]) ∧ ∃ n, w' = w.drewN n := by
  go_enter Tryd.func25, Tryd.ntmps25
  go_wp2_with (go_at_call 33; (with_reducible refine (turned_at s 1 _ true ht).mono ?_); rintro e w' ⟨rfl, rfl⟩)
  go_loopw [6, 8] (fun n had wr => ∃ (k m : Nat) (b : Bool), k ≤ s.size ∧ n = .int .i64 k ∧ had = .bool b ∧ Hid (InClass s c 2 k b) ∧ wr = w.drewN m) (fun n _ _ => s.size - (intOf n).toNat)
  case atStart => exact ⟨2, 0, false, by have := turned_len ht.out; omega, rfl, rfl, Lib.hid (inClass_start _ _ _), rfl⟩
  case round =>
    obtain ⟨k, m, b, hk, rfl, rfl, hc, rfl⟩ := hrel
    by_cases hlt : k < s.size
    · by_cases h93 : (s[k].toNat : Int) = 93
      · have hn := Lib.hid (cls_end ht.out rfl (inClass_end hc.out (Or.inr ⟨_, getElem?_pos s k hlt, h93⟩)))
        have h93' : ((s[k].toNat : Int) != 93) = false := by simpa using h93
        clear h93
        go_wp2_with fail
        go_ret2
        exact ⟨ret_bi (cl_turned hn.out), _, rfl⟩
      · have hp := itN_pos (s.data.toList.drop k)
        have hl := itN_le s k hlt
        have hw := Lib.hid (within_eq (s.data.toList.drop k) c)
        have ho := Lib.hid (inClass_on hc.out hlt h93)
        have h93' : ((s[k].toNat : Int) != 93) = true := by simpa using h93
        go_wp2_with (go_at_call 34; (with_reducible refine (item_at s k _ hs hlt).mono ?_); rintro e w' ⟨rfl, n, rfl⟩)
        all_goals go_roundw
        case rel => exact rel_next hl ho.out (or_true_ (by assumption))
        case measure => simp [intOf]; omega
        case rel => exact rel_next hl ho.out (or_low (by assumption) hw.out (by assumption))
        case measure => simp [intOf]; omega
        case rel => exact rel_next hl ho.out (or_high (by assumption) hw.out (by assumption))
        case measure => simp [intOf]; omega
    · have hn := Lib.hid (cls_end ht.out rfl (inClass_end hc.out (Or.inl (by omega))))
      go_wp2_with fail
      go_ret2
      exact ⟨ret_bi (cl_turned hn.out), _, rfl⟩

theorem class_any (s : ByteArray) (c : UInt8) (w : World) (hs : s.size ≤ 65536) (h0 : 0 < s.size) :
    Calls Tryd.prog 25 #[.string s, .int .u8 (c.toNat : Int)] w fun e w' => e = .returned (.tuple #[.bool (clB s c), .int .i64 (clN s)]) ∧ ∃ n, w' = w.drewN n := by
  cases ht : turned (s.data.toList.drop 1) with
  | false => exact class_plain s c w hs h0 (Lib.hid ht)
  | true => exact class_turned s c w hs h0 (Lib.hid ht)

end Go.Proofs.YtadihlmpkckakaaDoor
