/-
  Sums of 32 bits, bit by bit: what a bit, a byte, bytes make of a number; 32 bits one behind the other that are turned are found. Mathematics; no program, no condition.
-/
import Derived.Test.YtbbhjhnfjkfklaaDoorChecked
import Derived.WalkKit
import Derived.Lib.Strings
namespace Go.Proofs.YtbbhjhnfjkfklaaDoor

/-- The document's number. -/
def poly : Nat := 3988292384
/-- Shifted down by one; turned, if the bit that went was 1. -/
def sh (n : Nat) : Nat := if n % 2 = 1 then (n / 2) ^^^ poly else n / 2
def shs : Nat → Nat → Nat
  | 0, n => n
  | k + 1, n => shs k (sh n)
/-- What a byte makes of a number. -/
def byteN (n b : Nat) : Nat := shs 8 (n ^^^ b)
def moreN (n : Nat) (l : List Nat) : Nat := l.foldl byteN n
theorem moreN_snoc (n : Nat) (l : List Nat) (b : Nat) : moreN n (l ++ [b]) = byteN (moreN n l) b := by unfold moreN; rw [List.foldl_append]; rfl
theorem moreN_app (n : Nat) (l m : List Nat) : moreN n (l ++ m) = moreN (moreN n l) m := by unfold moreN; rw [List.foldl_append]
def full : Nat := 4294967295
/-- The sum of bytes. -/
def ofN (l : List Nat) : Nat := moreN full l ^^^ full
theorem xor_two (a b : Nat) : (a ^^^ b) / 2 = (a / 2) ^^^ (b / 2) := by
  apply Nat.eq_of_testBit_eq
  intro i
  rw [Nat.testBit_div_two, Nat.testBit_xor, Nat.testBit_xor, Nat.testBit_div_two, Nat.testBit_div_two]
theorem xor_odd (a b : Nat) : (a ^^^ b) % 2 = 1 ↔ (a % 2 = 1) ≠ (b % 2 = 1) := by
  have h := Nat.testBit_xor a b 0
  simp only [Nat.testBit_zero] at h
  by_cases h1 : a % 2 = 1 <;> by_cases h2 : b % 2 = 1 <;> simp_all
theorem sh_xor (a b : Nat) : sh (a ^^^ b) = sh a ^^^ sh b := by
  unfold sh
  rw [xor_two]
  by_cases h1 : a % 2 = 1 <;> by_cases h2 : b % 2 = 1
  · rw [if_neg (fun h => ((xor_odd a b).1 h) (by simp [h1, h2])), if_pos h1, if_pos h2]
    rw [Nat.xor_assoc, Nat.xor_comm poly, Nat.xor_assoc, Nat.xor_self, Nat.xor_zero]
  · rw [if_pos ((xor_odd a b).2 (by simp [h1, h2])), if_pos h1, if_neg h2]
    rw [Nat.xor_assoc, Nat.xor_assoc, Nat.xor_comm (b / 2)]
  · rw [if_pos ((xor_odd a b).2 (by simp [h1, h2])), if_neg h1, if_pos h2]
    rw [Nat.xor_assoc]
  · rw [if_neg (fun h => ((xor_odd a b).1 h) (by simp [h1, h2])), if_neg h1, if_neg h2]
theorem sh_two (c : Nat) : sh (2 * c) = c := by
  unfold sh
  rw [if_neg (by omega)]
  omega
theorem sh_zero : sh 0 = 0 := rfl
/-- A number is its lowest bit and the others. -/
theorem xor_split (b : Nat) : b = (b % 2) ^^^ (2 * (b / 2)) := by
  apply Nat.eq_of_testBit_eq
  intro i
  rw [Nat.testBit_xor]
  cases i with
  | zero =>
    simp only [Nat.testBit_zero]
    have h1 : 2 * (b / 2) % 2 = 0 := by omega
    have h2 : b % 2 % 2 = b % 2 := by omega
    rw [h1, h2]
    simp
  | succ i =>
    rw [Nat.testBit_succ, Nat.testBit_succ, Nat.testBit_succ]
    have h1 : b % 2 / 2 = 0 := by omega
    have h2 : 2 * (b / 2) / 2 = b / 2 := by omega
    rw [h1, h2]
    simp
theorem sh_bit (n b : Nat) : sh (n ^^^ b) = sh (n ^^^ (b % 2)) ^^^ (b / 2) := by
  rw [sh_xor n b, sh_xor n (b % 2), Nat.xor_assoc]
  congr 1
  conv => lhs; rw [xor_split b]
  rw [sh_xor, sh_two]
/-- Bits, the lowest first; what they make of a number; the number that they are. -/
def bitsN : Nat → Nat → List Nat
  | 0, _ => []
  | k + 1, b => (b % 2) :: bitsN k (b / 2)
def feed (n : Nat) : List Nat → Nat
  | [] => n
  | m :: ms => feed (sh (n ^^^ m)) ms
def valN : List Nat → Nat
  | [] => 0
  | m :: ms => 2 * valN ms + m
theorem bitsN_len : ∀ k b, (bitsN k b).length = k
  | 0, _ => rfl
  | k + 1, b => by simp [bitsN, bitsN_len k]
theorem bitsN_one : ∀ k b, ∀ m ∈ bitsN k b, m ≤ 1
  | 0, b, m, h => by simp [bitsN] at h
  | k + 1, b, m, h => by
    rw [bitsN, List.mem_cons] at h
    rcases h with rfl | h
    · omega
    · exact bitsN_one k _ m h
theorem valN_bits : ∀ k b, b < 2 ^ k → valN (bitsN k b) = b
  | 0, b, h => by
    have : b = 0 := by simpa using h
    rw [this]; rfl
  | k + 1, b, h => by
    rw [bitsN, valN, valN_bits k (b / 2) (by rw [Nat.pow_succ] at h; omega)]
    omega
theorem valN_lt : ∀ ms : List Nat, (∀ m ∈ ms, m ≤ 1) → valN ms < 2 ^ ms.length
  | [], _ => by simp [valN]
  | m :: ms, h => by
    have h1 := valN_lt ms (fun x hx => h x (List.mem_cons_of_mem _ hx))
    have h2 := h m (by simp)
    rw [valN, List.length_cons, Nat.pow_succ]
    omega
theorem feed_app (n : Nat) : ∀ (l m : List Nat), feed n (l ++ m) = feed (feed n l) m
  | l, m => by
    induction l generalizing n with
    | nil => rfl
    | cons a l ih => exact ih _
theorem shs_feed : ∀ (k n b : Nat), b < 2 ^ k → shs k (n ^^^ b) = feed n (bitsN k b)
  | 0, n, b, h => by
    have : b = 0 := by simpa using h
    rw [this, Nat.xor_zero]; rfl
  | k + 1, n, b, h => by
    rw [shs, sh_bit, bitsN, feed]
    exact shs_feed k _ _ (by rw [Nat.pow_succ] at h; omega)
/-- The bits of bytes. -/
def strm (l : List Nat) : List Nat := l.flatMap (bitsN 8)
theorem strm_cons (b : Nat) (l : List Nat) : strm (b :: l) = bitsN 8 b ++ strm l := rfl
theorem strm_app (l m : List Nat) : strm (l ++ m) = strm l ++ strm m := by unfold strm; rw [List.flatMap_append]
theorem strm_len : ∀ l : List Nat, (strm l).length = 8 * l.length
  | [] => rfl
  | b :: l => by rw [strm_cons, List.length_append, bitsN_len, strm_len l, List.length_cons]; omega
theorem moreN_feed (l : List Nat) (h : ∀ b ∈ l, b < 256) (n : Nat) : moreN n l = feed n (strm l) := by
  induction l generalizing n with
  | nil => rfl
  | cons b l ih =>
    rw [strm_cons, feed_app, ← shs_feed 8 n b (h b (by simp))]
    exact ih (fun x hx => h x (List.mem_cons_of_mem _ hx)) _
/-- What is turned, bit by bit. -/
def zx : List Nat → List Nat → List Nat
  | a :: l, b :: m => (a ^^^ b) :: zx l m
  | _, _ => []
theorem zx_app : ∀ (l m l' m' : List Nat), l.length = m.length → zx (l ++ l') (m ++ m') = zx l m ++ zx l' m'
  | [], [], _, _, _ => rfl
  | a :: l, b :: m, l', m', h => by
    simp only [List.cons_append, zx]
    rw [zx_app l m l' m' (by simpa using h)]
  | [], _ :: _, _, _, h => by simp at h
  | _ :: _, [], _, _, h => by simp at h
theorem feed_xor (a b : Nat) : ∀ (l m : List Nat), l.length = m.length → feed (a ^^^ b) (zx l m) = feed a l ^^^ feed b m
  | l, m, h => by
    induction l generalizing a b m with
    | nil =>
      cases m with
      | nil => rfl
      | cons y m => simp at h
    | cons x l ih =>
      cases m with
      | nil => simp at h
      | cons y m =>
        simp only [zx, feed]
        rw [show a ^^^ b ^^^ (x ^^^ y) = (a ^^^ x) ^^^ (b ^^^ y) by
          rw [Nat.xor_assoc, Nat.xor_assoc]
          congr 1
          rw [← Nat.xor_assoc, Nat.xor_comm b x, Nat.xor_assoc], sh_xor]
        exact ih _ _ m (by simpa using h)
theorem zx_zeros : ∀ l : List Nat, zx l (List.replicate l.length 0) = l
  | [] => rfl
  | a :: l => by
    rw [List.length_cons, List.replicate_succ, zx, Nat.xor_zero, zx_zeros l]
theorem lt_xor {a b : Nat} (ha : a < 4294967296) (hb : b < 4294967296) : a ^^^ b < 4294967296 := Nat.xor_lt_two_pow (n := 32) ha hb
theorem sh_lt {n : Nat} (h : n < 4294967296) : sh n < 4294967296 := by
  unfold sh
  split
  · exact lt_xor (by omega) (by unfold poly; omega)
  · omega
theorem shs_lt : ∀ (k : Nat) {n : Nat}, n < 4294967296 → shs k n < 4294967296
  | 0, _, h => h
  | k + 1, _, h => shs_lt k (sh_lt h)
theorem byteN_lt {n b : Nat} (hn : n < 4294967296) (hb : b < 4294967296) : byteN n b < 4294967296 := shs_lt 8 (lt_xor hn hb)
theorem moreN_lt {l : List Nat} (h : ∀ b ∈ l, b < 256) {n : Nat} (hn : n < 4294967296) : moreN n l < 4294967296 := by
  induction l generalizing n with
  | nil => exact hn
  | cons b l ih =>
    have := h b (by simp)
    exact ih (fun x hx => h x (List.mem_cons_of_mem _ hx)) (byteN_lt hn (by omega))
theorem ofN_lt {l : List Nat} (h : ∀ b ∈ l, b < 256) : ofN l < 4294967296 := lt_xor (moreN_lt h (by unfold full; omega)) (by unfold full; omega)
/-- The bit that stands on top tells whether the number was turned. -/
theorem sh_low {n v : Nat} (hn : n < 4294967296) (hv : v < 2147483648) (h : sh n = v) : n = 2 * v := by
  unfold sh at h
  split at h
  · exfalso
    have h1 : Nat.testBit (n / 2 ^^^ poly) 31 = true := by
      rw [Nat.testBit_xor]
      have h2 : Nat.testBit (n / 2) 31 = false := Nat.testBit_lt_two_pow (by omega)
      have h3 : Nat.testBit poly 31 = true := by decide
      rw [h2, h3]
      rfl
    rw [h, Nat.testBit_lt_two_pow (by omega)] at h1
    cases h1
  · omega
theorem feed_val : ∀ (ms : List Nat), (∀ m ∈ ms, m ≤ 1) → ms.length ≤ 32 → ∀ n, n < 4294967296 → feed n ms = 0 → n = valN ms
  | [], _, _, n, _, h => h
  | m :: ms, h1, h2, n, hn, h => by
    have hm := h1 m (by simp)
    have h1' : ∀ x ∈ ms, x ≤ 1 := fun x hx => h1 x (List.mem_cons_of_mem _ hx)
    rw [List.length_cons] at h2
    have hx : n ^^^ m < 4294967296 := lt_xor hn (by omega)
    have e := feed_val ms h1' (by omega) (sh (n ^^^ m)) (sh_lt hx) h
    have hlt := valN_lt ms h1'
    have h31 : valN ms < 2147483648 := Nat.lt_of_lt_of_le hlt (Nat.pow_le_pow_right (n := 2) (by omega) (by omega : ms.length ≤ 31))
    have e2 := sh_low hx h31 e
    have e3 : n = 2 * valN ms ^^^ m := by rw [← e2, Nat.xor_assoc, Nat.xor_self, Nat.xor_zero]
    rw [e3, valN]
    have e4 := xor_split (2 * valN ms + m)
    rw [show (2 * valN ms + m) % 2 = m by omega, show (2 * valN ms + m) / 2 = valN ms by omega] at e4
    rw [Nat.xor_comm]
    exact e4.symm
theorem val_feed : ∀ (ms : List Nat), (∀ m ∈ ms, m ≤ 1) → feed (valN ms) ms = 0
  | [], _ => rfl
  | m :: ms, h1 => by
    have hm := h1 m (by simp)
    rw [feed, valN]
    have e4 := xor_split (2 * valN ms + m)
    rw [show (2 * valN ms + m) % 2 = m by omega, show (2 * valN ms + m) / 2 = valN ms by omega] at e4
    rw [e4, Nat.xor_comm m, Nat.xor_assoc, Nat.xor_self, Nat.xor_zero, sh_two]
    exact val_feed ms (fun x hx => h1 x (List.mem_cons_of_mem _ hx))
theorem feed_zeros_zero : ∀ k, feed 0 (List.replicate k 0) = 0
  | 0 => rfl
  | k + 1 => by
    rw [List.replicate_succ, feed]
    exact feed_zeros_zero k
theorem feed_zeros_ne : ∀ (k : Nat) {n : Nat}, n < 4294967296 → n ≠ 0 → feed n (List.replicate k 0) ≠ 0
  | 0, _, _, h => h
  | k + 1, n, hn, h => by
    rw [List.replicate_succ, feed, Nat.xor_zero]
    refine feed_zeros_ne k (sh_lt hn) (fun e => h ?_)
    have := sh_low hn (by omega) e
    omega
theorem feed_lt : ∀ (ms : List Nat) {n : Nat}, (∀ m ∈ ms, m ≤ 1) → n < 4294967296 → feed n ms < 4294967296
  | [], _, _, hn => hn
  | m :: ms, n, h, hn => feed_lt ms (fun x hx => h x (List.mem_cons_of_mem _ hx)) (sh_lt (lt_xor hn (by have := h m (by simp); omega)))
/-- A burst is found. -/
theorem burst_ne {mask : Nat} (h0 : mask ≠ 0) (hm : mask < 4294967296) (a b : Nat) : feed 0 (List.replicate a 0 ++ (bitsN 32 mask ++ List.replicate b 0)) ≠ 0 := by
  rw [feed_app, feed_app, feed_zeros_zero]
  refine feed_zeros_ne b (feed_lt _ (bitsN_one 32 mask) (by omega)) (fun e => h0 ?_)
  have := feed_val _ (bitsN_one 32 mask) (by rw [bitsN_len]; omega) 0 (by omega) e
  rw [valN_bits 32 mask hm] at this
  exact this.symm
/-- A number's four bytes, the lowest first. -/
def le4 (v : Nat) : List Nat := [v % 256, v / 256 % 256, v / 65536 % 256, v / 16777216 % 256]
theorem bits_app : ∀ (j k b : Nat), bitsN (j + k) b = bitsN j b ++ bitsN k (b / 2 ^ j)
  | 0, k, b => by simp [bitsN]
  | j + 1, k, b => by
    rw [show j + 1 + k = (j + k) + 1 by omega, bitsN, bits_app j k (b / 2), bitsN, List.cons_append, Nat.div_div_eq_div_mul, Nat.pow_succ, Nat.mul_comm 2]
theorem bits_mod : ∀ (k b : Nat), bitsN k (b % 2 ^ k) = bitsN k b
  | 0, _ => rfl
  | k + 1, b => by
    rw [bitsN, bitsN, Nat.pow_succ]
    have h1 : b % (2 ^ k * 2) % 2 = b % 2 := Nat.mod_mul_left_mod b (2 ^ k) 2
    have h2 : b % (2 ^ k * 2) / 2 = b / 2 % 2 ^ k := by
      rw [Nat.mul_comm]
      exact Nat.mod_mul_right_div_self b 2 (2 ^ k)
    rw [h1, h2, bits_mod k]
theorem strm_le4 (v : Nat) : strm (le4 v) = bitsN 32 v := by
  have h1 := bits_app 8 24 v
  have h2 := bits_app 8 16 (v / 2 ^ 8)
  have h3 := bits_app 8 8 (v / 2 ^ 8 / 2 ^ 8)
  rw [show 8 + 24 = 32 from rfl] at h1
  rw [show 8 + 16 = 24 from rfl] at h2
  rw [show 8 + 8 = 16 from rfl] at h3
  rw [h1, h2, h3]
  unfold le4
  rw [strm_cons, strm_cons, strm_cons, strm_cons]
  have e1 : bitsN 8 (v % 256) = bitsN 8 v := bits_mod 8 v
  have e2 : bitsN 8 (v / 256 % 256) = bitsN 8 (v / 256) := bits_mod 8 _
  have e3 : bitsN 8 (v / 65536 % 256) = bitsN 8 (v / 65536) := bits_mod 8 _
  have e4 : bitsN 8 (v / 16777216 % 256) = bitsN 8 (v / 16777216) := bits_mod 8 _
  rw [e1, e2, e3, e4]
  have d1 : v / 2 ^ 8 = v / 256 := rfl
  have d2 : v / 256 / 2 ^ 8 = v / 65536 := by rw [show (2 : Nat) ^ 8 = 256 from rfl, Nat.div_div_eq_div_mul]
  have d3 : v / 65536 / 2 ^ 8 = v / 16777216 := by rw [show (2 : Nat) ^ 8 = 256 from rfl, Nat.div_div_eq_div_mul]
  rw [d1, d2, d3]
  simp [strm]
/-- What is sealed. -/
def sealN (l : List Nat) : List Nat := l ++ le4 (ofN l)
def fitN (l : List Nat) : Prop := ∃ p, l = sealN p
/-- What is sealed makes one and the same number. -/
theorem fit_feed {p : List Nat} (h : ∀ b ∈ p, b < 256) : feed full (strm (sealN p)) = feed full (List.replicate 32 0) := by
  unfold sealN
  rw [strm_app, feed_app, strm_le4, ← moreN_feed p h]
  have hlt := ofN_lt h
  have e : moreN full p = ofN p ^^^ full := by unfold ofN; rw [Nat.xor_assoc, Nat.xor_self, Nat.xor_zero]
  rw [e]
  have hz := zx_zeros (bitsN 32 (ofN p))
  rw [bitsN_len] at hz
  have h2 := feed_xor (ofN p) full (bitsN 32 (ofN p)) (List.replicate 32 0) (by rw [bitsN_len, List.length_replicate])
  rw [hz] at h2
  rw [h2]
  have h3 := val_feed (bitsN 32 (ofN p)) (bitsN_one 32 _)
  rw [valN_bits 32 _ hlt] at h3
  rw [h3, Nat.zero_xor]
/-- What is sealed, and spoilt by a burst, does not fit. -/
theorem burst_fits {p q : List Nat} (hp : ∀ b ∈ p, b < 256) (hq : ∀ b ∈ q, b < 256) {mask a b : Nat} (h0 : mask ≠ 0) (hm : mask < 4294967296) (hab : a + 32 + b = 8 * (sealN p).length)
    (hx : strm (sealN q) = zx (strm (sealN p)) (List.replicate a 0 ++ (bitsN 32 mask ++ List.replicate b 0))) : False := by
  have h1 := fit_feed hp
  have h2 := fit_feed hq
  rw [hx] at h2
  have h3 := feed_xor full 0 (strm (sealN p)) (List.replicate a 0 ++ (bitsN 32 mask ++ List.replicate b 0)) (by
    rw [strm_len, List.length_append, List.length_append, List.length_replicate, List.length_replicate, bitsN_len]
    omega)
  rw [Nat.xor_zero, h2, h1] at h3
  have h4 : feed 0 (List.replicate a 0 ++ (bitsN 32 mask ++ List.replicate b 0)) = 0 := by
    have := congrArg (fun x => feed full (List.replicate 32 0) ^^^ x) h3
    rw [Nat.xor_self, ← Nat.xor_assoc, Nat.xor_self, Nat.zero_xor] at this
    exact this.symm
  exact burst_ne h0 hm a b h4
end Go.Proofs.YtbbhjhnfjkfklaaDoor
