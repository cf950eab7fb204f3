/-
  The walk of looking for a line's end's bytes in a text, whatever bytes it has. A premise: the text is shorter than 4294967281 bytes.
-/
import Derived.Test.YtogbjhpkbdmllaaDoorMem
import Derived.Laws.RangeAny
import Derived.Laws.Runes
import Derived.Laws.Cover4
namespace Go.Proofs.YtogbjhpkbdmllaaDoor
open Go.RowKit Rp Dec

theorem enc_two (r : Int) (h : 128 ≤ r) : 2 ≤ (Utf8.encode r).size ∧ ∀ i (h : i < (Utf8.encode r).size), 128 ≤ ((Utf8.encode r)[i]).toNat := by
  have key : ∀ c : Nat, 128 ≤ c → c ≤ 1114111 → ∀ e : ByteArray, e = (if c < 0x80 then ⟨#[UInt8.ofNat c]⟩
      else if c < 0x800 then ⟨#[UInt8.ofNat (0xC0 + c / 64), UInt8.ofNat (0x80 + c % 64)]⟩
      else if c < 0x10000 then ⟨#[UInt8.ofNat (0xE0 + c / 4096), UInt8.ofNat (0x80 + c / 64 % 64), UInt8.ofNat (0x80 + c % 64)]⟩
      else ⟨#[UInt8.ofNat (0xF0 + c / 262144), UInt8.ofNat (0x80 + c / 4096 % 64), UInt8.ofNat (0x80 + c / 64 % 64), UInt8.ofNat (0x80 + c % 64)]⟩) → 2 ≤ e.size ∧ ∀ i (h : i < e.size), 128 ≤ (e[i]).toNat := by
    intro c h1 h2 e he
    rw [if_neg (by omega)] at he
    split at he
    · subst he
      refine ⟨by simp [ByteArray.size], fun i hi => ?_⟩
      have hi' : i < 2 := by simpa [ByteArray.size] using hi
      match i, hi' with
      | 0, _ => show 128 ≤ (UInt8.ofNat (192 + c / 64)).toNat; simp; omega
      | 1, _ => show 128 ≤ (UInt8.ofNat (128 + c % 64)).toNat; simp; omega
    · split at he
      · subst he
        refine ⟨by simp [ByteArray.size], fun i hi => ?_⟩
        have hi' : i < 3 := by simpa [ByteArray.size] using hi
        match i, hi' with
        | 0, _ => show 128 ≤ (UInt8.ofNat (224 + c / 4096)).toNat; simp; omega
        | 1, _ => show 128 ≤ (UInt8.ofNat (128 + c / 64 % 64)).toNat; simp; omega
        | 2, _ => show 128 ≤ (UInt8.ofNat (128 + c % 64)).toNat; simp; omega
      · subst he
        refine ⟨by simp [ByteArray.size], fun i hi => ?_⟩
        have hi' : i < 4 := by simpa [ByteArray.size] using hi
        match i, hi' with
        | 0, _ => show 128 ≤ (UInt8.ofNat (240 + c / 262144)).toNat; simp; omega
        | 1, _ => show 128 ≤ (UInt8.ofNat (128 + c / 4096 % 64)).toNat; simp; omega
        | 2, _ => show 128 ≤ (UInt8.ofNat (128 + c / 64 % 64)).toNat; simp; omega
        | 3, _ => show 128 ≤ (UInt8.ofNat (128 + c % 64)).toNat; simp; omega
  refine key (if Utf8.valid r then r.toNat else Utf8.runeError) ?_ ?_ _ rfl
  · split
    · omega
    · decide
  · split
    · rename_i hv
      unfold Utf8.valid at hv
      simp only [Bool.or_eq_true, Bool.and_eq_true, decide_eq_true_eq] at hv
      omega
    · decide

set_option maxRecDepth 100000 in
set_option maxHeartbeats 1000000 in
theorem rune_wrong (r : Int) (w : World) (h0 : 128 ≤ r) (h1 : r ≤ 2147483647) (h2 : (r == 65533) = false) (hv : Hid (Lib.validRune r = false)) :
    Calls Tryd.prog 58 #[.string ⟨#[13, 10]⟩, .int .i32 r] w fun e w' => e = .returned (.int .i64 (-1)) ∧ w = w' := by
  go_enter Tryd.func58, Tryd.ntmps58
  go_wp2_with (go_at_call 70; (refine (Tryd.utf8_ValidRune r _).mono ?_; rw [hv.out]; rintro e w' ⟨rfl, rfl⟩))
  go_ret
  exact ⟨rfl, rfl⟩
set_option maxRecDepth 100000 in
set_option maxHeartbeats 1000000 in
theorem rune_error (w : World) :
    Calls Tryd.prog 58 #[.string ⟨#[13, 10]⟩, .int .i32 65533] w fun e w' => e = .returned (.int .i64 (-1)) ∧ Below w.heap.size w w' := by
  go_enter Tryd.func58, Tryd.ntmps58
  go_wp2_with fail
  go_loopg [5, 6] 2 (fun g _ _ wx => ∃ i : Nat, i + g = 2 ∧ wx = w.iter ⟨#[13, 10]⟩ i)
  case atStart => exact ⟨0, by omega, rfl⟩
  case round =>
    obtain ⟨i, hig, rfl⟩ := hrel
    cases gk with
    | zero =>
      obtain rfl : i = 2 := by omega
      have hnx := fun ty => run_next_end (P := Tryd.prog) w ⟨#[13, 10]⟩ 2 ty (by decide)
      go_wp2_with fail
      go_ret
      exact ⟨rfl, (Below.refl _ _).alloc (Nat.le_refl _) _⟩
    | succ g =>
      rcases (show i = 0 ∨ i = 1 by omega) with rfl | rfl
      · have hnx := fun ty => run_next_ascii (P := Tryd.prog) w ⟨#[13, 10]⟩ 0 ty (by decide) (by decide)
        go_wp2_with fail
        go_roundg g
        case measure => omega
        case rel => exact ⟨1, by omega, rfl⟩
      · have hnx := fun ty => run_next_ascii (P := Tryd.prog) w ⟨#[13, 10]⟩ 1 ty (by decide) (by decide)
        go_wp2_with fail
        go_roundg g
        case measure => omega
        case rel => exact ⟨2, by omega, rfl⟩
set_option maxRecDepth 100000 in
set_option maxHeartbeats 1000000 in
theorem rune_long (r : Int) (w : World) (h0 : 128 ≤ r) (h1 : r ≤ 2147483647) (h2 : (r == 65533) = false) (hv : Hid (Lib.validRune r = true)) (e : ByteArray) (he : Utf8.encode r = e) (e1 : 3 ≤ e.size) (e3 : e.size ≤ 4) :
    Calls Tryd.prog 58 #[.string ⟨#[13, 10]⟩, .int .i32 r] w fun e w' => e = .returned (.int .i64 (-1)) ∧ Below w.heap.size w w' := by
  have hV : ∀ w, Calls Tryd.prog 70 #[.int .i32 r] w fun e w' => e = .returned (.bool true) ∧ w = w' := fun w =>
    (Tryd.utf8_ValidRune r w).mono fun e w' ⟨a, b⟩ => ⟨by rw [a, hv.out], b.symm⟩
  go_enter Tryd.func58, Tryd.ntmps58
  go_wp2_with (go_at_call 70; ((with_reducible refine (hV _).mono ?_); rintro e w' ⟨rfl, rfl⟩))
  go_step3
  go_wp2_with fail
  refine wp_loop_rounds 1 ?_
  rw [rounds_succ]
  go_wp2_with fail
  rw [Exit.noGoto_ret]
  go_ret
  exact ⟨rfl, Below.refl _ _⟩
theorem byte_nothing (c : Int) (w : World) : Calls Tryd.prog 69 #[.string ⟨#[]⟩, .int .u8 c] w fun e w' => e = .returned (.int .i64 (-1)) ∧ w' = w :=
  (Tryd.strings_IndexByte ⟨#[]⟩ c w).mono fun e w' ⟨a, b⟩ => ⟨by rw [a]; rfl, b⟩
set_option maxRecDepth 100000 in
set_option maxHeartbeats 1000000 in
theorem rune_two (r : Int) (w : World) (h0 : 128 ≤ r) (h1 : r ≤ 2147483647) (h2 : (r == 65533) = false) (hv : Hid (Lib.validRune r = true)) (a b : UInt8) (he : Utf8.encode r = ⟨#[a, b]⟩) (hb : 128 ≤ b.toNat) :
    Calls Tryd.prog 58 #[.string ⟨#[13, 10]⟩, .int .i32 r] w fun e w' => e = .returned (.int .i64 (-1)) ∧ Below w.heap.size w w' := by
  have hV : ∀ w, Calls Tryd.prog 70 #[.int .i32 r] w fun e w' => e = .returned (.bool true) ∧ w = w' := fun w =>
    (Tryd.utf8_ValidRune r w).mono fun e w' ⟨a, b⟩ => ⟨by rw [a, hv.out], b.symm⟩
  go_enter Tryd.func58, Tryd.ntmps58
  go_wp2_with (go_at_call 70; ((with_reducible refine (hV _).mono ?_); rintro e w' ⟨rfl, rfl⟩))
  go_step3
  go_wp2_with fail
  refine wp_loop_rounds 1 ?_
  rw [rounds_succ]
  go_wp2_with fail
  go_step3
  go_wp2_with fail
  have hne : ((10 : Int) != (b.toNat : Int)) = true := by simp; omega
  have hne2 : ((10 : Int) == (b.toNat : Int)) = false := by simp; omega
  go_quiet (fail)
  have hbw := Lib.hid (drewN_below w nq)
  generalize w.drewN nq = w2 at hbw ⊢
  go_wp2_with fail
  · go_quiet ((go_at_call 69; exact Calls.quiet_of_same (byte_nothing _ _)))
    go_wp2_with fail
    rw [Exit.noGoto_ret]
    go_simp
    go_ret
    refine ⟨rfl, ?_⟩
    exact hbw.out.trans ((drewN_below w2 _).mono hbw.out.size)
  · exfalso
    have hq : (((10 : UInt8).toNat : Int) != (b.toNat : Int)) = false := by assumption
    have e10 : ((10 : UInt8).toNat : Int) = 10 := rfl
    rw [e10, hne] at hq
    cases hq

/-- A code point that is no ASCII is no line's end. -/
theorem rune_no (r : Int) (w : World) (h0 : 128 ≤ r) (h1 : r ≤ 2147483647) :
    Calls Tryd.prog 58 #[.string ⟨#[13, 10]⟩, .int .i32 r] w fun e w' => e = .returned (.int .i64 (-1)) ∧ Below w.heap.size w w' := by
  by_cases h2 : r = 65533
  · subst h2; exact rune_error w
  · have h2' : (r == 65533) = false := by simpa using h2
    cases hv : Lib.validRune r with
    | false => exact (rune_wrong r w h0 h1 h2' (Lib.hid hv)).mono fun e w' ⟨a, b⟩ => ⟨a, by rw [← b]; exact Below.refl _ _⟩
    | true =>
      obtain ⟨e1, e2⟩ := enc_two r h0
      have e3 := encode_size_le r
      by_cases h3 : 3 ≤ (Utf8.encode r).size
      · exact rune_long r w h0 h1 h2' (Lib.hid hv) _ rfl h3 e3
      · have h4 : (Utf8.encode r).size = 2 := by omega
        have h5 := e2 1 (by omega)
        obtain ⟨a, b, hab⟩ : ∃ a b, Utf8.encode r = ⟨#[a, b]⟩ := by
          generalize Utf8.encode r = e at h4
          obtain ⟨⟨l⟩⟩ := e
          match l, h4 with
          | [a, b], _ => exact ⟨a, b, rfl⟩
        refine rune_two r w h0 h1 h2' (Lib.hid hv) a b hab ?_
        have : ∀ e : ByteArray, e = ⟨#[a, b]⟩ → ∀ h : 1 < e.size, 128 ≤ (e[1]).toNat → 128 ≤ b.toNat := by
          intro e he h hx; subst he; exact hx
        exact this _ hab (by omega) h5

/-- The bytes of a code point that is no ASCII are no ASCII. -/
theorem decode_bytes (s : ByteArray) (i : Nat) (h : i < s.size) (ha : 128 ≤ (s[i]'h).toNat) :
    i + (Utf8.decode s i).2 ≤ s.size ∧ ∀ j, i ≤ j → j < i + (Utf8.decode s i).2 → ∀ hj : j < s.size, 128 ≤ (s[j]'hj).toNat := by
  have g : ∀ k, (hk : i + k < s.size) → s.get! (i + k) = s[i + k]'hk := by
    intro k hk
    simp [ByteArray.get!, getElem!_pos, hk]
    rfl
  have g0 : s.get! (i + 0) = s[i]'h := g 0 h
  have one : ∀ j, i ≤ j → j < i + 1 → ∀ hj : j < s.size, 128 ≤ (s[j]'hj).toNat := by
    intro j h1 h2 hj
    obtain rfl : j = i := by omega
    exact ha
  have c : ∀ k, (decide (i + k < s.size) && (s.get! (i + k)).toNat / 64 == 2) = true → ∃ hk : i + k < s.size, 128 ≤ (s[i + k]'hk).toNat := by
    intro k hk
    simp only [Bool.and_eq_true, decide_eq_true_eq, beq_iff_eq] at hk
    refine ⟨hk.1, ?_⟩
    have := hk.2
    rw [g k hk.1] at this
    omega
  have hn : ¬ (s.get! (i + 0)).toNat < 128 := by rw [g0]; omega
  simp only [Utf8.decode]
  rw [if_neg hn]
  split
  · rename_i h1
    simp only [Bool.and_eq_true] at h1
    obtain ⟨k1, b1⟩ := c 1 (by simpa using h1.2)
    split
    · refine ⟨by simp; omega, fun j j1 j2 hj => ?_⟩
      rcases (show j = i ∨ j = i + 1 by simp at j2; omega) with rfl | rfl
      · exact ha
      · exact b1
    · exact ⟨by simp; omega, one⟩
  · split
    · rename_i h1
      simp only [Bool.and_eq_true] at h1
      obtain ⟨k1, b1⟩ := c 1 (by simpa using h1.1.2)
      obtain ⟨k2, b2⟩ := c 2 (by simpa using h1.2)
      split
      · refine ⟨by simp; omega, fun j j1 j2 hj => ?_⟩
        rcases (show j = i ∨ j = i + 1 ∨ j = i + 2 by simp at j2; omega) with rfl | rfl | rfl
        · exact ha
        · exact b1
        · exact b2
      · exact ⟨by simp; omega, one⟩
    · split
      · rename_i h1
        simp only [Bool.and_eq_true] at h1
        obtain ⟨k1, b1⟩ := c 1 (by simpa using h1.1.1.2)
        obtain ⟨k2, b2⟩ := c 2 (by simpa using h1.1.2)
        obtain ⟨k3, b3⟩ := c 3 (by simpa using h1.2)
        split
        · refine ⟨by simp; omega, fun j j1 j2 hj => ?_⟩
          rcases (show j = i ∨ j = i + 1 ∨ j = i + 2 ∨ j = i + 3 by simp at j2; omega) with rfl | rfl | rfl | rfl
          · exact ha
          · exact b1
          · exact b2
          · exact b3
        · exact ⟨by simp; omega, one⟩
      · exact ⟨by simp; omega, one⟩

theorem decode_step {s : ByteArray} {i : Nat} (h : i < s.size) (ha : 128 ≤ (s[i]'h).toNat) (hn : Lib.NoAny s.data.toList [13, 10] i) :
    Lib.NoAny s.data.toList [13, 10] (i + (Utf8.decode s i).2) ∧ i + (Utf8.decode s i).2 ≤ s.size ∧ 1 ≤ (Utf8.decode s i).2 := by
  obtain ⟨h1, h2⟩ := decode_bytes s i h ha
  refine ⟨fun j b hj hb => ?_, h1, (decode_high s i h ha).2⟩
  by_cases hji : j < i
  · exact hn j b hji hb
  · have hjs : j < s.size := by omega
    have hx := h2 j (by omega) hj hjs
    have e : s.data.toList[j]? = some (s[j]'hjs) := Lib.data_getElem? s j hjs
    rw [e] at hb
    obtain rfl := Option.some.inj hb
    have b1 : s[j] ≠ 13 := fun e => by rw [e] at hx; exact absurd hx (by decide)
    have b2 : s[j] ≠ 10 := fun e => by rw [e] at hx; exact absurd hx (by decide)
    simp [b1, b2]
theorem rune_ascii (x : UInt8) (w : World) (v : Int) (h : x.toNat < 128) (hv : Hid (Lib.indexByte [13, 10] x = v)) :
    Calls Tryd.prog 58 #[.string ⟨#[13, 10]⟩, .int .i32 (x.toNat : Int)] w fun e w' => e = .returned (.int .i64 v) ∧ w = w' := by
  refine (Tryd.strings_IndexRune_ascii ⟨#[13, 10]⟩ (x.toNat : Int) w (by omega) (by omega)).mono fun e w' ⟨a, b⟩ => ⟨?_, b.symm⟩
  have hback : ((x.toNat : Int)).toNat.toUInt8 = x := by simp
  rw [a, hback]
  exact ret_int hv.out
set_option maxRecDepth 100000 in
set_option maxHeartbeats 2000000 in
theorem index_short (s : ByteArray) (w : World) (h8 : s.size ≤ 8) :
    Calls Tryd.prog 51 #[.string s, .string ⟨#[13, 10]⟩] w fun e w' => e = .returned (.int .i64 (Lib.indexAny s.data.toList [13, 10])) ∧ Below w.heap.size w w' := by
  have h8z : decide ((8 : Int) < (s.size : Int)) = false := decide_eq_false (by omega)
  have hU : ∀ w, Calls Tryd.prog 59 #[.int .i64 s.size] w fun e w' => e = .returned (.bool false) ∧ w = w' := fun w =>
    (Tryd.strings_shouldUseASCIISet s.size w).mono fun e w' ⟨a, b⟩ => ⟨by rw [a, h8z], b.symm⟩
  go_enter Tryd.func51, Tryd.ntmps51
  go_wp2_with (go_at_call 59; ((with_reducible refine (hU _).mono ?_); rintro e w' ⟨rfl, rfl⟩))
  clear hU h8z
  go_loopg [9, 10] s.size (fun g _ _ wx => ∃ (i : Nat), i ≤ s.size ∧ s.size ≤ i + g ∧ wx.heap[w.heap.size]? = some (.stringIter s i) ∧ Below w.heap.size w wx ∧ Hid (Lib.NoAny s.data.toList [13, 10] i))
  case atStart => exact ⟨0, by omega, by omega, heap_alloc_new w (.stringIter s 0), (Below.refl _ _).alloc (Nat.le_refl _) _, Lib.hid (Lib.NoAny.zero _ _)⟩
  case round =>
    obtain ⟨i, hi, hig, hit, hb, hno⟩ := hrel
    have hitH := Lib.hid hit
    by_cases hlt : i < s.size
    · obtain ⟨g, rfl⟩ : ∃ g, gk = g + 1 := ⟨gk - 1, by omega⟩
      have hxl : Hid (s.data.toList[i]? = some (s[i]'hlt)) := Lib.hid (Lib.data_getElem? s i hlt)
      by_cases ha : (s[i]'hlt).toNat < 128
      · have hnx := fun ty => Lib.run_next_ascii_at (P := Tryd.prog) wr w.heap.size s i ty hit hlt ha
        have hb2 := Lib.hid (Lib.below_iterAt hb (Nat.le_refl _) s (i + 1))
        have hit2 := Lib.hid (Lib.iterAt_heap wr w.heap.size s i (i + 1) hit)
        generalize wr.iterAt w.heap.size s (i + 1) = w2 at hnx hb2 hit2
        clear hit
        generalize s[i]'hlt = x at hxl ha hnx
        cases hin : ([13, 10] : List UInt8).contains x with
        | false =>
          have hv : Hid (Lib.indexByte [13, 10] x = -1) := Lib.hid (by
            have := Lib.contains_iff_indexByte [13, 10] x
            rw [hin] at this
            have h1 := of_decide_eq_false this.symm
            have h2 := Lib.indexByte_ge [13, 10] x
            omega)
          have hnoH := Lib.hid (hno.out.succ hxl.out hin)
          go_wp2_with (go_at_call 58; ((with_reducible refine (rune_ascii x _ (-1) ha hv).mono ?_); rintro e w' ⟨rfl, rfl⟩))
          go_roundg g
          case measure => omega
          case rel => exact ⟨i + 1, by omega, by omega, hit2.out, hb2.out, hnoH⟩
        | true =>
          have hh := Lib.hid (Lib.indexAny_hit hno.out hxl.out hin)
          obtain ⟨v, hv, hv0⟩ : ∃ v, Hid (Lib.indexByte [13, 10] x = v) ∧ 0 ≤ v := ⟨_, Lib.hid rfl, by
            have := Lib.contains_iff_indexByte [13, 10] x
            rw [hin] at this
            exact of_decide_eq_true this.symm⟩
          go_wp2_with (go_at_call 58; ((with_reducible refine (rune_ascii x _ v ha hv).mono ?_); rintro e w' ⟨rfl, rfl⟩))
          go_ret
          exact ⟨ret_int hh.out.symm, hb2.out⟩
      · have ha' : 128 ≤ (s[i]'hlt).toNat := by omega
        have hnx := fun ty => Lib.run_next_any_at (P := Tryd.prog) wr w.heap.size s i ty hit hlt
        have hst := Lib.hid (decode_step hlt ha' hno.out)
        have hr0 := (decode_high s i hlt ha').1
        have hr1 := decode_le s i
        have hb2 := Lib.hid (Lib.below_iterAt hb (Nat.le_refl _) s (i + (Utf8.decode s i).2))
        have hit2 := Lib.hid (Lib.iterAt_heap wr w.heap.size s i (i + (Utf8.decode s i).2) hit)
        generalize wr.iterAt w.heap.size s (i + (Utf8.decode s i).2) = w2 at hnx hb2 hit2
        generalize (Utf8.decode s i).1 = r at hnx hr0 hr1
        clear hit ha ha'
        go_wp2_with (go_at_call 58; ((with_reducible refine (rune_no (r : Int) _ (by omega) (by omega)).mono ?_); rintro e w3 ⟨rfl, hb3⟩))
        go_roundg g
        case measure => omega
        case rel =>
          obtain ⟨s1, s2, s3⟩ := hst.out
          have hlt2 : w.heap.size < w2.heap.size := (Array.getElem?_eq_some_iff.1 hit2.out).1
          exact ⟨i + (Utf8.decode s i).2, s2, by omega, by rw [hb3.block _ hlt2]; exact hit2.out, hb2.out.trans (hb3.mono hb2.out.size), Lib.hid s1⟩
    · have hh := Lib.hid (Lib.indexAny_none (s := s.data.toList) (chars := [13, 10]) (by
        have := hno.out
        rw [show s.data.toList.length = i by simp; omega]; exact this))
      have hnx := fun ty => Lib.run_next_end_at (P := Tryd.prog) wr w.heap.size s i ty hit hlt
      clear hit
      go_wp2_with fail
      go_ret
      exact ⟨ret_int hh.out.symm, hb⟩

theorem two_box' {w : World} {cs ds : Array Value} {t : TypeId} : Below w.heap.size w ((w.alloc (.cells cs t)).alloc (.cells ds t)) := ((Below.refl _ _).alloc (Nat.le_refl _) _).alloc (by simp) _
theorem set_zero : ∀ w, (zeroValue 88).run Tryd.prog w = .ok (.agg (Array.replicate 256 (.bool false))) w := fun w => by kernel_rfl
theorem index_any (s : ByteArray) (w : World) (hs : s.size < 4294967281) :
    Calls Tryd.prog 51 #[.string s, .string ⟨#[13, 10]⟩] w fun e w' => e = .returned (.int .i64 (Lib.indexAny s.data.toList [13, 10])) ∧ Below w.heap.size w w' := by
  by_cases h8 : s.size ≤ 8
  · exact index_short s w h8
  · refine (Tryd.strings_IndexAny_long set_zero s ⟨#[13, 10]⟩ w (by decide) (by omega) hs (by decide) ?_).mono fun e w' ⟨a, b⟩ => ⟨a, ?_⟩
    · intro j b hb
      match j, hb with
      | 0, hb => simp at hb; subst hb; decide
      | 1, hb => simp at hb; subst hb; decide
    · subst b
      exact two_box'

end Go.Proofs.YtogbjhpkbdmllaaDoor
