/-
  A burst, bit by bit, in a row of bytes. Mathematics; no program, no condition.
-/
import Derived.Test.YtbbhjhnfjkfklaaDoorD
namespace Go.Proofs.YtbbhjhnfjkfklaaDoor

/-- The bit j of a row of bytes. -/
def bitAt (l : List Nat) (j : Nat) : Nat := l.getD (j / 8) 0 / 2 ^ (j % 8) % 2
theorem bits_at : ∀ (k b j : Nat), j < k → (bitsN k b)[j]? = some (b / 2 ^ j % 2)
  | k + 1, b, 0, _ => by simp [bitsN]
  | k + 1, b, j + 1, h => by
    rw [bitsN, List.getElem?_cons_succ, bits_at k (b / 2) j (by omega), Nat.div_div_eq_div_mul, Nat.pow_succ, Nat.mul_comm 2]
theorem strm_at : ∀ (l : List Nat) (j : Nat), j < 8 * l.length → (strm l)[j]? = some (bitAt l j)
  | [], j, h => by simp at h
  | b :: l, j, h => by
    rw [strm_cons]
    by_cases hj : j < 8
    · rw [List.getElem?_append_left (by rw [bitsN_len]; exact hj), bits_at 8 b j hj]
      unfold bitAt
      rw [show j / 8 = 0 by omega, show j % 8 = j by omega]
      rfl
    · rw [List.getElem?_append_right (by rw [bitsN_len]; omega), bitsN_len, strm_at l (j - 8) (by simp at h; omega)]
      unfold bitAt
      rw [show (j - 8) % 8 = j % 8 by omega]
      have e : j / 8 = (j - 8) / 8 + 1 := by omega
      rw [e]
      rfl
theorem bit_test (x n : Nat) : x / 2 ^ n % 2 = if x.testBit n then 1 else 0 := by
  rw [Nat.testBit_eq_decide_div_mod_eq]
  by_cases h : x / 2 ^ n % 2 = 1
  · simp [h]
  · have h2 : x / 2 ^ n % 2 = 0 := by omega
    simp [h2]
/-- A bit of a byte is turned. -/
theorem xor_bit (x m n : Nat) : (x ^^^ 2 ^ m) / 2 ^ n % 2 = if n = m then (x / 2 ^ n % 2) ^^^ 1 else x / 2 ^ n % 2 := by
  rw [bit_test, bit_test, Nat.testBit_xor, Nat.testBit_two_pow]
  by_cases e : n = m
  · subst e
    rw [if_pos rfl]
    cases x.testBit n <;> simp
  · rw [if_neg e, decide_eq_false (fun e' => e e'.symm)]
    simp
theorem bit_set (l : List Nat) (k : Nat) (hk : k / 8 < l.length) (j : Nat) : bitAt (l.set (k / 8) (l.getD (k / 8) 0 ^^^ 2 ^ (k % 8))) j = if j = k then bitAt l j ^^^ 1 else bitAt l j := by
  unfold bitAt
  by_cases e : j / 8 = k / 8
  · have hg : (l.set (k / 8) (l.getD (k / 8) 0 ^^^ 2 ^ (k % 8))).getD (j / 8) 0 = l.getD (k / 8) 0 ^^^ 2 ^ (k % 8) := by
      rw [e]
      simp [List.getD, List.getElem?_set_self hk]
    rw [hg, xor_bit, e]
    by_cases e2 : j = k
    · subst e2
      rw [if_pos rfl, if_pos rfl]
    · rw [if_neg e2, if_neg (by omega)]
  · have hg : (l.set (k / 8) (l.getD (k / 8) 0 ^^^ 2 ^ (k % 8))).getD (j / 8) 0 = l.getD (j / 8) 0 := by
      simp only [List.getD]
      rw [List.getElem?_set_ne (fun h => e h.symm)]
    rw [hg, if_neg (by rintro rfl; exact e rfl)]
/-- What the first i bits of a burst turn. -/
def pat (a mask i j : Nat) : Nat := if a ≤ j ∧ j < a + i then mask / 2 ^ (j - a) % 2 else 0
theorem pat_zero (a mask j : Nat) : pat a mask 0 j = 0 := by unfold pat; rw [if_neg (by omega)]
theorem pat_succ (a mask i j : Nat) : pat a mask (i + 1) j = if j = a + i then mask / 2 ^ i % 2 else pat a mask i j := by
  unfold pat
  by_cases e : j = a + i
  · subst e
    rw [if_pos rfl, if_pos (by omega), show a + i - a = i by omega]
  · rw [if_neg e]
    by_cases h : a ≤ j ∧ j < a + i
    · rw [if_pos h, if_pos (by omega)]
    · rw [if_neg h, if_neg (by omega)]
theorem pat_at (a mask i : Nat) : pat a mask i (a + i) = 0 := by unfold pat; rw [if_neg (by omega)]
/-- Some of a burst's bits are turned. -/
def Spoilt (l r : List Nat) (a mask i : Nat) : Prop := r.length = l.length ∧ (∀ x ∈ r, x < 256) ∧ ∀ j, j < 8 * l.length → bitAt r j = bitAt l j ^^^ pat a mask i j
theorem spoilt_start {l : List Nat} (h : ∀ x ∈ l, x < 256) (a mask : Nat) : Spoilt l l a mask 0 := ⟨rfl, h, fun j _ => by rw [pat_zero, Nat.xor_zero]⟩
theorem spoilt_none {l r : List Nat} {a mask i : Nat} (h : Spoilt l r a mask i) (hb : mask / 2 ^ i % 2 = 0) : Spoilt l r a mask (i + 1) := by
  refine ⟨h.1, h.2.1, fun j hj => ?_⟩
  rw [h.2.2 j hj, pat_succ]
  by_cases e : j = a + i
  · subst e
    rw [if_pos rfl, pat_at, hb]
  · rw [if_neg e]
theorem getD_lt {l : List Nat} (h : ∀ x ∈ l, x < 256) (k : Nat) : l.getD k 0 < 256 := by
  rw [List.getD_eq_getElem?_getD]
  cases hk : l[k]? with
  | none => simp
  | some x => exact h x (List.mem_of_getElem? hk)
theorem spoilt_one {l r : List Nat} {a mask i : Nat} (h : Spoilt l r a mask i) (hb : mask / 2 ^ i % 2 = 1) (hk : (a + i) / 8 < l.length) : Spoilt l (r.set ((a + i) / 8) (r.getD ((a + i) / 8) 0 ^^^ 2 ^ ((a + i) % 8))) a mask (i + 1) := by
  refine ⟨by rw [List.length_set]; exact h.1, fun x hx => ?_, fun j hj => ?_⟩
  · rcases List.mem_or_eq_of_mem_set hx with e | e
    · exact h.2.1 x e
    · rw [e]
      exact Nat.xor_lt_two_pow (n := 8) (getD_lt h.2.1 _) (Nat.pow_lt_pow_right (a := 2) (by omega) (by omega))
  · rw [bit_set r (a + i) (by rw [h.1]; exact hk), h.2.2 j hj, pat_succ]
    by_cases e : j = a + i
    · subst e
      rw [if_pos rfl, if_pos rfl, pat_at, hb, Nat.xor_zero]
    · rw [if_neg e, if_neg e]
theorem zx_at : ∀ (l m : List Nat) (j : Nat), l.length = m.length → (zx l m)[j]? = match l[j]?, m[j]? with | some x, some y => some (x ^^^ y) | _, _ => none
  | [], [], j, _ => by simp [zx]
  | a :: l, b :: m, 0, _ => by simp [zx]
  | a :: l, b :: m, j + 1, h => by
    rw [zx, List.getElem?_cons_succ, List.getElem?_cons_succ, List.getElem?_cons_succ]
    exact zx_at l m j (by simpa using h)
  | [], _ :: _, _, h => by simp at h
  | _ :: _, [], _, h => by simp at h
theorem spoilt_strm {l r : List Nat} {a mask b : Nat} (h : Spoilt l r a mask 32) (hab : a + 32 + b = 8 * l.length) : strm r = zx (strm l) (List.replicate a 0 ++ (bitsN 32 mask ++ List.replicate b 0)) := by
  have hlen : (strm l).length = (List.replicate a 0 ++ (bitsN 32 mask ++ List.replicate b 0)).length := by
    rw [strm_len, List.length_append, List.length_append, List.length_replicate, List.length_replicate, bitsN_len]
    omega
  have hzl : ∀ (l m : List Nat), l.length = m.length → (zx l m).length = l.length := fun l => by
    induction l with
    | nil => intro m hm; cases m <;> simp [zx]
    | cons x l ih =>
      intro m hm
      cases m with
      | nil => simp at hm
      | cons y m => simp only [zx, List.length_cons]; rw [ih m (by simpa using hm)]
  apply List.ext_getElem?
  intro j
  by_cases hj : j < 8 * l.length
  · rw [strm_at r j (by rw [h.1]; exact hj), zx_at _ _ _ hlen, strm_at l j hj, h.2.2 j hj]
    have hp : (List.replicate a 0 ++ (bitsN 32 mask ++ List.replicate b 0))[j]? = some (pat a mask 32 j) := by
      unfold pat
      by_cases h1 : j < a
      · rw [List.getElem?_append_left (by simpa using h1), if_neg (by omega)]
        simp [h1]
      · rw [List.getElem?_append_right (by simp; omega), List.length_replicate]
        by_cases h2 : j - a < 32
        · rw [List.getElem?_append_left (by rw [bitsN_len]; exact h2), bits_at 32 mask _ h2, if_pos (by omega)]
        · rw [List.getElem?_append_right (by rw [bitsN_len]; omega), bitsN_len, if_neg (by omega), List.getElem?_replicate, if_pos (by omega)]
    rw [hp]
  · rw [List.getElem?_eq_none (by rw [strm_len, h.1]; omega), List.getElem?_eq_none (by rw [hzl _ _ hlen, strm_len]; omega)]
/-- What was sealed, and is spoilt by a burst, does not fit. -/
theorem spoilt_fits {s t : ByteArray} {a mask : Nat} (h : Spoilt (bt (sealB s)) (bt t) a mask 32) (h0 : mask ≠ 0) (hm : mask < 4294967296) (ha : a + 32 ≤ 8 * (bt (sealB s)).length) : fitsB t = false := by
  cases hf : fitsB t with
  | false => rfl
  | true =>
    exfalso
    obtain ⟨q, rfl⟩ := fits_some hf
    have hx := spoilt_strm (b := 8 * (bt (sealB s)).length - (a + 32)) h (by omega)
    rw [bt_seal, bt_seal] at hx
    refine burst_fits (p := bt s) (q := bt q) (bt_lt s) (bt_lt q) h0 hm ?_ hx
    rw [← bt_seal]
    omega
end Go.Proofs.YtbbhjhnfjkfklaaDoor
