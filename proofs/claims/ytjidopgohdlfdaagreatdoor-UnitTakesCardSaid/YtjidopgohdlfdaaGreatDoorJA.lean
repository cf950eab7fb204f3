/-
  Sums of 32 bits, bit by bit: what a bit, a byte, bytes make of a number; 32 bits one behind the other that are turned are found. Mathematics; no program, no condition.
-/
import Derived.Test.YtjidopgohdlfdaaGreatDoorChecked
import Derived.WalkKit
import Derived.Lib.Strings
import Derived.WalkSpells
import Derived.WalkLawsBesides
import Derived.Deep.QuietTactic
import Derived.BigQuiet
import Derived.Lib.Hide
import Derived.Lib.SmallJoins
import Derived.Outline
import Derived.OwnWalk
import Derived.Laws.Bits64
import Derived.Laws.BytesString
import Derived.Lib.BufferRead
import Derived.Deep.CutBlock
import Derived.BigRegion
import Derived.Deep.RegionHeld3
import Derived.Lib.ConvBytes
import Derived.Lib.AtoiErrMem

namespace Go.Proofs.YtjidopgohdlfdaaGreatDoor.C14

/-- The document's number. -/
def poly : Nat := 3988292384
/-- Shifted down by one; turned, if the bit that went was 1. -/
def sh (n : Nat) : Nat := if n % 2 = 1 then (n / 2) ^^^ poly else n / 2
def shs : Nat → Nat → Nat
  | 0, n => n
  | k + 1, n => shs k (sh n)
/-- What a byte makes of a number. -/
def byteN (n b : Nat) : Nat := shs 8 (n ^^^ b)
def moreN (n : Nat) (l : List Nat) : Nat := l.foldl byteN n
theorem moreN_snoc (n : Nat) (l : List Nat) (b : Nat) : moreN n (l ++ [b]) = byteN (moreN n l) b := by unfold moreN; rw [List.foldl_append]; rfl
theorem moreN_app (n : Nat) (l m : List Nat) : moreN n (l ++ m) = moreN (moreN n l) m := by unfold moreN; rw [List.foldl_append]
def full : Nat := 4294967295
/-- The sum of bytes. -/
def ofN (l : List Nat) : Nat := moreN full l ^^^ full
theorem xor_two (a b : Nat) : (a ^^^ b) / 2 = (a / 2) ^^^ (b / 2) := by
  apply Nat.eq_of_testBit_eq
  intro i
  rw [Nat.testBit_div_two, Nat.testBit_xor, Nat.testBit_xor, Nat.testBit_div_two, Nat.testBit_div_two]
theorem xor_odd (a b : Nat) : (a ^^^ b) % 2 = 1 ↔ (a % 2 = 1) ≠ (b % 2 = 1) := by
  have h := Nat.testBit_xor a b 0
  simp only [Nat.testBit_zero] at h
  by_cases h1 : a % 2 = 1 <;> by_cases h2 : b % 2 = 1 <;> simp_all
theorem sh_xor (a b : Nat) : sh (a ^^^ b) = sh a ^^^ sh b := by
  unfold sh
  rw [xor_two]
  by_cases h1 : a % 2 = 1 <;> by_cases h2 : b % 2 = 1
  · rw [if_neg (fun h => ((xor_odd a b).1 h) (by simp [h1, h2])), if_pos h1, if_pos h2]
    rw [Nat.xor_assoc, Nat.xor_comm poly, Nat.xor_assoc, Nat.xor_self, Nat.xor_zero]
  · rw [if_pos ((xor_odd a b).2 (by simp [h1, h2])), if_pos h1, if_neg h2]
    rw [Nat.xor_assoc, Nat.xor_assoc, Nat.xor_comm (b / 2)]
  · rw [if_pos ((xor_odd a b).2 (by simp [h1, h2])), if_neg h1, if_pos h2]
    rw [Nat.xor_assoc]
  · rw [if_neg (fun h => ((xor_odd a b).1 h) (by simp [h1, h2])), if_neg h1, if_neg h2]
theorem sh_two (c : Nat) : sh (2 * c) = c := by
  unfold sh
  rw [if_neg (by omega)]
  omega
theorem sh_zero : sh 0 = 0 := rfl
/-- A number is its lowest bit and the others. -/
theorem xor_split (b : Nat) : b = (b % 2) ^^^ (2 * (b / 2)) := by
  apply Nat.eq_of_testBit_eq
  intro i
  rw [Nat.testBit_xor]
  cases i with
  | zero =>
    simp only [Nat.testBit_zero]
    have h1 : 2 * (b / 2) % 2 = 0 := by omega
    have h2 : b % 2 % 2 = b % 2 := by omega
    rw [h1, h2]
    simp
  | succ i =>
    rw [Nat.testBit_succ, Nat.testBit_succ, Nat.testBit_succ]
    have h1 : b % 2 / 2 = 0 := by omega
    have h2 : 2 * (b / 2) / 2 = b / 2 := by omega
    rw [h1, h2]
    simp
theorem sh_bit (n b : Nat) : sh (n ^^^ b) = sh (n ^^^ (b % 2)) ^^^ (b / 2) := by
  rw [sh_xor n b, sh_xor n (b % 2), Nat.xor_assoc]
  congr 1
  conv => lhs; rw [xor_split b]
  rw [sh_xor, sh_two]
/-- Bits, the lowest first; what they make of a number; the number that they are. -/
def bitsN : Nat → Nat → List Nat
  | 0, _ => []
  | k + 1, b => (b % 2) :: bitsN k (b / 2)
def feed (n : Nat) : List Nat → Nat
  | [] => n
  | m :: ms => feed (sh (n ^^^ m)) ms
def valN : List Nat → Nat
  | [] => 0
  | m :: ms => 2 * valN ms + m
theorem bitsN_len : ∀ k b, (bitsN k b).length = k
  | 0, _ => rfl
  | k + 1, b => by simp [bitsN, bitsN_len k]
theorem bitsN_one : ∀ k b, ∀ m ∈ bitsN k b, m ≤ 1
  | 0, b, m, h => by simp [bitsN] at h
  | k + 1, b, m, h => by
    rw [bitsN, List.mem_cons] at h
    rcases h with rfl | h
    · omega
    · exact bitsN_one k _ m h
theorem valN_bits : ∀ k b, b < 2 ^ k → valN (bitsN k b) = b
  | 0, b, h => by
    have : b = 0 := by simpa using h
    rw [this]; rfl
  | k + 1, b, h => by
    rw [bitsN, valN, valN_bits k (b / 2) (by rw [Nat.pow_succ] at h; omega)]
    omega
theorem valN_lt : ∀ ms : List Nat, (∀ m ∈ ms, m ≤ 1) → valN ms < 2 ^ ms.length
  | [], _ => by simp [valN]
  | m :: ms, h => by
    have h1 := valN_lt ms (fun x hx => h x (List.mem_cons_of_mem _ hx))
    have h2 := h m (by simp)
    rw [valN, List.length_cons, Nat.pow_succ]
    omega
theorem feed_app (n : Nat) : ∀ (l m : List Nat), feed n (l ++ m) = feed (feed n l) m
  | l, m => by
    induction l generalizing n with
    | nil => rfl
    | cons a l ih => exact ih _
theorem shs_feed : ∀ (k n b : Nat), b < 2 ^ k → shs k (n ^^^ b) = feed n (bitsN k b)
  | 0, n, b, h => by
    have : b = 0 := by simpa using h
    rw [this, Nat.xor_zero]; rfl
  | k + 1, n, b, h => by
    rw [shs, sh_bit, bitsN, feed]
    exact shs_feed k _ _ (by rw [Nat.pow_succ] at h; omega)
/-- The bits of bytes. -/
def strm (l : List Nat) : List Nat := l.flatMap (bitsN 8)
theorem strm_cons (b : Nat) (l : List Nat) : strm (b :: l) = bitsN 8 b ++ strm l := rfl
theorem strm_app (l m : List Nat) : strm (l ++ m) = strm l ++ strm m := by unfold strm; rw [List.flatMap_append]
theorem strm_len : ∀ l : List Nat, (strm l).length = 8 * l.length
  | [] => rfl
  | b :: l => by rw [strm_cons, List.length_append, bitsN_len, strm_len l, List.length_cons]; omega
theorem moreN_feed (l : List Nat) (h : ∀ b ∈ l, b < 256) (n : Nat) : moreN n l = feed n (strm l) := by
  induction l generalizing n with
  | nil => rfl
  | cons b l ih =>
    rw [strm_cons, feed_app, ← shs_feed 8 n b (h b (by simp))]
    exact ih (fun x hx => h x (List.mem_cons_of_mem _ hx)) _
/-- What is turned, bit by bit. -/
def zx : List Nat → List Nat → List Nat
  | a :: l, b :: m => (a ^^^ b) :: zx l m
  | _, _ => []
theorem zx_app : ∀ (l m l' m' : List Nat), l.length = m.length → zx (l ++ l') (m ++ m') = zx l m ++ zx l' m'
  | [], [], _, _, _ => rfl
  | a :: l, b :: m, l', m', h => by
    simp only [List.cons_append, zx]
    rw [zx_app l m l' m' (by simpa using h)]
  | [], _ :: _, _, _, h => by simp at h
  | _ :: _, [], _, _, h => by simp at h
theorem feed_xor (a b : Nat) : ∀ (l m : List Nat), l.length = m.length → feed (a ^^^ b) (zx l m) = feed a l ^^^ feed b m
  | l, m, h => by
    induction l generalizing a b m with
    | nil =>
      cases m with
      | nil => rfl
      | cons y m => simp at h
    | cons x l ih =>
      cases m with
      | nil => simp at h
      | cons y m =>
        simp only [zx, feed]
        rw [show a ^^^ b ^^^ (x ^^^ y) = (a ^^^ x) ^^^ (b ^^^ y) by
          rw [Nat.xor_assoc, Nat.xor_assoc]
          congr 1
          rw [← Nat.xor_assoc, Nat.xor_comm b x, Nat.xor_assoc], sh_xor]
        exact ih _ _ m (by simpa using h)
theorem zx_zeros : ∀ l : List Nat, zx l (List.replicate l.length 0) = l
  | [] => rfl
  | a :: l => by
    rw [List.length_cons, List.replicate_succ, zx, Nat.xor_zero, zx_zeros l]
theorem lt_xor {a b : Nat} (ha : a < 4294967296) (hb : b < 4294967296) : a ^^^ b < 4294967296 := Nat.xor_lt_two_pow (n := 32) ha hb
theorem sh_lt {n : Nat} (h : n < 4294967296) : sh n < 4294967296 := by
  unfold sh
  split
  · exact lt_xor (by omega) (by unfold poly; omega)
  · omega
theorem shs_lt : ∀ (k : Nat) {n : Nat}, n < 4294967296 → shs k n < 4294967296
  | 0, _, h => h
  | k + 1, _, h => shs_lt k (sh_lt h)
theorem byteN_lt {n b : Nat} (hn : n < 4294967296) (hb : b < 4294967296) : byteN n b < 4294967296 := shs_lt 8 (lt_xor hn hb)
theorem moreN_lt {l : List Nat} (h : ∀ b ∈ l, b < 256) {n : Nat} (hn : n < 4294967296) : moreN n l < 4294967296 := by
  induction l generalizing n with
  | nil => exact hn
  | cons b l ih =>
    have := h b (by simp)
    exact ih (fun x hx => h x (List.mem_cons_of_mem _ hx)) (byteN_lt hn (by omega))
theorem ofN_lt {l : List Nat} (h : ∀ b ∈ l, b < 256) : ofN l < 4294967296 := lt_xor (moreN_lt h (by unfold full; omega)) (by unfold full; omega)
/-- The bit that stands on top tells whether the number was turned. -/
theorem sh_low {n v : Nat} (hn : n < 4294967296) (hv : v < 2147483648) (h : sh n = v) : n = 2 * v := by
  unfold sh at h
  split at h
  · exfalso
    have h1 : Nat.testBit (n / 2 ^^^ poly) 31 = true := by
      rw [Nat.testBit_xor]
      have h2 : Nat.testBit (n / 2) 31 = false := Nat.testBit_lt_two_pow (by omega)
      have h3 : Nat.testBit poly 31 = true := by decide
      rw [h2, h3]
      rfl
    rw [h, Nat.testBit_lt_two_pow (by omega)] at h1
    cases h1
  · omega
theorem feed_val : ∀ (ms : List Nat), (∀ m ∈ ms, m ≤ 1) → ms.length ≤ 32 → ∀ n, n < 4294967296 → feed n ms = 0 → n = valN ms
  | [], _, _, n, _, h => h
  | m :: ms, h1, h2, n, hn, h => by
    have hm := h1 m (by simp)
    have h1' : ∀ x ∈ ms, x ≤ 1 := fun x hx => h1 x (List.mem_cons_of_mem _ hx)
    rw [List.length_cons] at h2
    have hx : n ^^^ m < 4294967296 := lt_xor hn (by omega)
    have e := feed_val ms h1' (by omega) (sh (n ^^^ m)) (sh_lt hx) h
    have hlt := valN_lt ms h1'
    have h31 : valN ms < 2147483648 := Nat.lt_of_lt_of_le hlt (Nat.pow_le_pow_right (n := 2) (by omega) (by omega : ms.length ≤ 31))
    have e2 := sh_low hx h31 e
    have e3 : n = 2 * valN ms ^^^ m := by rw [← e2, Nat.xor_assoc, Nat.xor_self, Nat.xor_zero]
    rw [e3, valN]
    have e4 := xor_split (2 * valN ms + m)
    rw [show (2 * valN ms + m) % 2 = m by omega, show (2 * valN ms + m) / 2 = valN ms by omega] at e4
    rw [Nat.xor_comm]
    exact e4.symm
theorem val_feed : ∀ (ms : List Nat), (∀ m ∈ ms, m ≤ 1) → feed (valN ms) ms = 0
  | [], _ => rfl
  | m :: ms, h1 => by
    have hm := h1 m (by simp)
    rw [feed, valN]
    have e4 := xor_split (2 * valN ms + m)
    rw [show (2 * valN ms + m) % 2 = m by omega, show (2 * valN ms + m) / 2 = valN ms by omega] at e4
    rw [e4, Nat.xor_comm m, Nat.xor_assoc, Nat.xor_self, Nat.xor_zero, sh_two]
    exact val_feed ms (fun x hx => h1 x (List.mem_cons_of_mem _ hx))
theorem feed_zeros_zero : ∀ k, feed 0 (List.replicate k 0) = 0
  | 0 => rfl
  | k + 1 => by
    rw [List.replicate_succ, feed]
    exact feed_zeros_zero k
theorem feed_zeros_ne : ∀ (k : Nat) {n : Nat}, n < 4294967296 → n ≠ 0 → feed n (List.replicate k 0) ≠ 0
  | 0, _, _, h => h
  | k + 1, n, hn, h => by
    rw [List.replicate_succ, feed, Nat.xor_zero]
    refine feed_zeros_ne k (sh_lt hn) (fun e => h ?_)
    have := sh_low hn (by omega) e
    omega
theorem feed_lt : ∀ (ms : List Nat) {n : Nat}, (∀ m ∈ ms, m ≤ 1) → n < 4294967296 → feed n ms < 4294967296
  | [], _, _, hn => hn
  | m :: ms, n, h, hn => feed_lt ms (fun x hx => h x (List.mem_cons_of_mem _ hx)) (sh_lt (lt_xor hn (by have := h m (by simp); omega)))
/-- A burst is found. -/
theorem burst_ne {mask : Nat} (h0 : mask ≠ 0) (hm : mask < 4294967296) (a b : Nat) : feed 0 (List.replicate a 0 ++ (bitsN 32 mask ++ List.replicate b 0)) ≠ 0 := by
  rw [feed_app, feed_app, feed_zeros_zero]
  refine feed_zeros_ne b (feed_lt _ (bitsN_one 32 mask) (by omega)) (fun e => h0 ?_)
  have := feed_val _ (bitsN_one 32 mask) (by rw [bitsN_len]; omega) 0 (by omega) e
  rw [valN_bits 32 mask hm] at this
  exact this.symm
/-- A number's four bytes, the lowest first. -/
def le4 (v : Nat) : List Nat := [v % 256, v / 256 % 256, v / 65536 % 256, v / 16777216 % 256]
theorem bits_app : ∀ (j k b : Nat), bitsN (j + k) b = bitsN j b ++ bitsN k (b / 2 ^ j)
  | 0, k, b => by simp [bitsN]
  | j + 1, k, b => by
    rw [show j + 1 + k = (j + k) + 1 by omega, bitsN, bits_app j k (b / 2), bitsN, List.cons_append, Nat.div_div_eq_div_mul, Nat.pow_succ, Nat.mul_comm 2]
theorem bits_mod : ∀ (k b : Nat), bitsN k (b % 2 ^ k) = bitsN k b
  | 0, _ => rfl
  | k + 1, b => by
    rw [bitsN, bitsN, Nat.pow_succ]
    have h1 : b % (2 ^ k * 2) % 2 = b % 2 := Nat.mod_mul_left_mod b (2 ^ k) 2
    have h2 : b % (2 ^ k * 2) / 2 = b / 2 % 2 ^ k := by
      rw [Nat.mul_comm]
      exact Nat.mod_mul_right_div_self b 2 (2 ^ k)
    rw [h1, h2, bits_mod k]
theorem strm_le4 (v : Nat) : strm (le4 v) = bitsN 32 v := by
  have h1 := bits_app 8 24 v
  have h2 := bits_app 8 16 (v / 2 ^ 8)
  have h3 := bits_app 8 8 (v / 2 ^ 8 / 2 ^ 8)
  rw [show 8 + 24 = 32 from rfl] at h1
  rw [show 8 + 16 = 24 from rfl] at h2
  rw [show 8 + 8 = 16 from rfl] at h3
  rw [h1, h2, h3]
  unfold le4
  rw [strm_cons, strm_cons, strm_cons, strm_cons]
  have e1 : bitsN 8 (v % 256) = bitsN 8 v := bits_mod 8 v
  have e2 : bitsN 8 (v / 256 % 256) = bitsN 8 (v / 256) := bits_mod 8 _
  have e3 : bitsN 8 (v / 65536 % 256) = bitsN 8 (v / 65536) := bits_mod 8 _
  have e4 : bitsN 8 (v / 16777216 % 256) = bitsN 8 (v / 16777216) := bits_mod 8 _
  rw [e1, e2, e3, e4]
  have d1 : v / 2 ^ 8 = v / 256 := rfl
  have d2 : v / 256 / 2 ^ 8 = v / 65536 := by rw [show (2 : Nat) ^ 8 = 256 from rfl, Nat.div_div_eq_div_mul]
  have d3 : v / 65536 / 2 ^ 8 = v / 16777216 := by rw [show (2 : Nat) ^ 8 = 256 from rfl, Nat.div_div_eq_div_mul]
  rw [d1, d2, d3]
  simp [strm]
/-- What is sealed. -/
def sealN (l : List Nat) : List Nat := l ++ le4 (ofN l)
def fitN (l : List Nat) : Prop := ∃ p, l = sealN p
/-- What is sealed makes one and the same number. -/
theorem fit_feed {p : List Nat} (h : ∀ b ∈ p, b < 256) : feed full (strm (sealN p)) = feed full (List.replicate 32 0) := by
  unfold sealN
  rw [strm_app, feed_app, strm_le4, ← moreN_feed p h]
  have hlt := ofN_lt h
  have e : moreN full p = ofN p ^^^ full := by unfold ofN; rw [Nat.xor_assoc, Nat.xor_self, Nat.xor_zero]
  rw [e]
  have hz := zx_zeros (bitsN 32 (ofN p))
  rw [bitsN_len] at hz
  have h2 := feed_xor (ofN p) full (bitsN 32 (ofN p)) (List.replicate 32 0) (by rw [bitsN_len, List.length_replicate])
  rw [hz] at h2
  rw [h2]
  have h3 := val_feed (bitsN 32 (ofN p)) (bitsN_one 32 _)
  rw [valN_bits 32 _ hlt] at h3
  rw [h3, Nat.zero_xor]
/-- What is sealed, and spoilt by a burst, does not fit. -/
theorem burst_fits {p q : List Nat} (hp : ∀ b ∈ p, b < 256) (hq : ∀ b ∈ q, b < 256) {mask a b : Nat} (h0 : mask ≠ 0) (hm : mask < 4294967296) (hab : a + 32 + b = 8 * (sealN p).length)
    (hx : strm (sealN q) = zx (strm (sealN p)) (List.replicate a 0 ++ (bitsN 32 mask ++ List.replicate b 0))) : False := by
  have h1 := fit_feed hp
  have h2 := fit_feed hq
  rw [hx] at h2
  have h3 := feed_xor full 0 (strm (sealN p)) (List.replicate a 0 ++ (bitsN 32 mask ++ List.replicate b 0)) (by
    rw [strm_len, List.length_append, List.length_append, List.length_replicate, List.length_replicate, bitsN_len]
    omega)
  rw [Nat.xor_zero, h2, h1] at h3
  have h4 : feed 0 (List.replicate a 0 ++ (bitsN 32 mask ++ List.replicate b 0)) = 0 := by
    have := congrArg (fun x => feed full (List.replicate 32 0) ^^^ x) h3
    rw [Nat.xor_self, ← Nat.xor_assoc, Nat.xor_self, Nat.zero_xor] at this
    exact this.symm
  exact burst_ne h0 hm a b h4
end Go.Proofs.YtjidopgohdlfdaaGreatDoor.C14

/-
  What is written and what stays. No condition.
-/
namespace Go.Proofs.YtjidopgohdlfdaaGreatDoor.C14
open Go.RowKit

/-- Nothing is written but the blocks of a list, and new ones. -/
def Only (O : List Nat) (w w' : World) : Prop := Below 0 w w' ∧ ∀ k, k < w.heap.size → k ∉ O → w'.heap[k]? = w.heap[k]?
theorem Only.refl (O : List Nat) (w : World) : Only O w w := ⟨Below.refl _ _, fun _ _ _ => rfl⟩
theorem Only.size {O : List Nat} {w w' : World} (h : Only O w w') : w.heap.size ≤ w'.heap.size := h.1.size
theorem Only.trans {O O' : List Nat} {a b c : World} (h : Only O a b) (k : Only O' b c) (hO : ∀ x ∈ O', x ∈ O ∨ a.heap.size ≤ x) : Only O a c := by
  refine ⟨h.1.trans k.1, fun x hx hn => ?_⟩
  have := h.size
  rw [k.2 x (by omega) (fun hm => (hO x hm).elim hn (fun h1 => by omega)), h.2 x hx hn]
theorem Only.set {O : List Nat} {a w : World} (h : Only O a w) {p : Addr} (hp : p.block ∈ O ∨ a.heap.size ≤ p.block) (v : Value) : Only O a (w.setCell p v) := by
  refine ⟨h.1.setCell (Nat.zero_le _) v, fun x hx hn => ?_⟩
  rw [Below.heap_setCell _ _ _ _ (fun e => by subst e; exact hp.elim hn (fun h1 => by omega)), h.2 x hx hn]
theorem Only.row {O : List Nat} {a w : World} (h : Only O a w) {g : Nat} (hp : g ∈ O ∨ a.heap.size ≤ g) (cs : Array Value) : Only O a (w.setRow g cs) := by
  refine ⟨h.1.trans ⟨rfl, rfl, rfl, by simp, fun k hk => absurd hk (Nat.not_lt_zero k)⟩, fun x hx hn => ?_⟩
  rw [setRow_other w g x cs (fun e => by subst e; exact hp.elim hn (fun h1 => by omega)), h.2 x hx hn]
theorem Only.alloc {O : List Nat} {a w : World} (h : Only O a w) (o : Obj) : Only O a (w.alloc o) := by
  have := h.size
  exact ⟨h.1.alloc (Nat.zero_le _) o, fun x hx hn => by rw [Below.heap_alloc _ _ _ (by omega), h.2 x hx hn]⟩
theorem below_drewN {B : Nat} {a w : World} (h : Below B a w) (n : Nat) : Below B a (w.drewN n) := ⟨h.os, h.tape, h.output, h.size, h.block⟩
theorem Only.drewN {O : List Nat} {a w : World} (h : Only O a w) (n : Nat) : Only O a (w.drewN n) := ⟨below_drewN h.1 n, fun x hx hn => h.2 x hx hn⟩
theorem Only.drew {O : List Nat} {a w : World} (h : Only O a w) : Only O a w.drew := ⟨h.1.drew, fun x hx hn => h.2 x hx hn⟩
theorem Only.below {O : List Nat} {w w' : World} {B : Nat} (h : Only O w w') (hB : B ≤ w.heap.size) (hO : ∀ k ∈ O, B ≤ k) : Below B w w' :=
  ⟨h.1.os, h.1.tape, h.1.output, h.1.size, fun k hk => h.2 k (by omega) (fun hm => by have := hO k hm; omega)⟩
theorem some_lt {w : World} {k : Nat} {o : Obj} (hk : w.heap[k]? = some o) : k < w.heap.size := by
  rcases Nat.lt_or_ge k w.heap.size with h1 | h1
  · exact h1
  · rw [Array.getElem?_eq_none h1] at hk; cases hk
theorem Only.keep {O : List Nat} {w w' : World} (h : Only O w w') {k : Nat} {o : Obj} (hk : w.heap[k]? = some o) (hn : k ∉ O) : w'.heap[k]? = some o := by
  rw [h.2 k (some_lt hk) hn, hk]
theorem Only.mono {O O' : List Nat} {w w' : World} (h : Only O w w') (hO : ∀ x ∈ O, x ∈ O') : Only O' w w' := ⟨h.1, fun k hk hn => h.2 k hk (fun hm => hn (hO k hm))⟩

theorem wrap_small {x : Int} (h : -9223372036854775808 ≤ x ∧ x ≤ 9223372036854775807) : IntKind.i64.wrap x = x := IntWalk.i64_in _ h
theorem ret_int {x y : Int} (h : x = y) : Ending.returned (.int .i64 x) = .returned (.int .i64 y) := by rw [h]
theorem ret_bool {x y : Bool} (h : x = y) : Ending.returned (.bool x) = .returned (.bool y) := by rw [h]

theorem cell_lt {w : World} {p : Addr} {v : Value} (h : w.cell? p = some v) : p.block < w.heap.size := by
  rcases Nat.lt_or_ge p.block w.heap.size with h1 | h1
  · exact h1
  · simp [World.cell?, Array.getElem?_eq_none h1] at h
theorem cell_past {w : World} {p : Addr} {v : Value} (h : w.cell? p = some v) (o : Obj) : (w.alloc o).cell? p = some v := by
  rw [World.cell?_of_block (w := w) (Below.heap_alloc w o p.block (cell_lt h))]
  exact h
theorem ret_u {k : IntKind} {a b : Int} (h : a = b) : Ending.returned (.int k a) = .returned (.int k b) := by rw [h]
theorem set_other {w : World} {b i b' i' : Nat} (v : Value) (h : b' ≠ b ∨ i' ≠ i) : (w.setCell ⟨b, i, none⟩ v).cell? ⟨b', i', none⟩ = w.cell? ⟨b', i', none⟩ := by
  refine World.cell?_setCell_other _ _ _ _ (fun e => ?_)
  cases e
  omega
theorem set_frozen {w : World} {b i b' i' : Nat} {C : Array Value} {t : TypeId} (v : Value) (h : w.heap[b']? = some (.cells C t (0, 0))) : (w.setCell ⟨b, i, none⟩ v).frozen? ⟨b', i', none⟩ = false := by
  by_cases e : b' = b
  · subst e
    simp [World.frozen?, Joins.block_setCell h v]
  · simp [World.frozen?, Below.heap_setCell w ⟨b, i, none⟩ v b' e, h]
theorem cell_keep {a b : World} (h : Only [] a b) {p : Addr} {v : Value} (hc : a.cell? p = some v) : b.cell? p = some v := by
  rw [World.cell?_of_block (w := a) (h.2 _ (cell_lt hc) List.not_mem_nil)]
  exact hc
/-- What is written in a new block alone. -/
theorem Only.none_of_new {g : Nat} {w w1 w2 : World} (h1 : Only [] w w1) (h2 : Only [g] w1 w2) (hg : w.heap.size ≤ g) : Only [] w w2 :=
  h1.trans h2 (fun x hx => by obtain rfl := List.mem_singleton.1 hx; exact Or.inr hg)
theorem ba_eq {a b : ByteArray} (h : a.toList = b.toList) : a = b := by
  rw [Lib.toList_data, Lib.toList_data] at h
  cases a; cases b
  simp only at h
  congr 1
  exact Array.toList_inj.1 h
theorem key_ne {a b : ByteArray} (h : a ≠ b) : (a.toList == b.toList) = false := by
  cases hq : (a.toList == b.toList) with
  | false => rfl
  | true => exact absurd (ba_eq (by simpa using hq)) h
theorem add_block {p : Addr} {j : Nat} : (p.add j).block = p.block := by unfold Addr.add; split <;> rfl
theorem add_zero (g j : Nat) : (⟨g, 0, none⟩ : Addr).add j = ⟨g, j, none⟩ := by unfold Addr.add; split <;> simp_all
theorem info_partsS {P : Program} {t : TypeId} {z : Value} {s b : Nat} (h : (P.info? t).map (fun i => (i.zero, i.size, i.bytes)) = some (some z, s, b)) : ∃ i, P.info? t = some i ∧ i.zero = some z ∧ i.size = s ∧ i.bytes = b := by
  cases hq : P.info? t with
  | none => rw [hq] at h; cases h
  | some i =>
    rw [hq] at h
    simp at h
    exact ⟨i, rfl, h.1, h.2.1, h.2.2⟩
theorem grown_only {w w' : World} {row : Option Nat} (hg : w.grownBy w' row) : Only row.toList w w' :=
  ⟨⟨hg.os, hg.tape, hg.output, hg.size, fun k hk => absurd hk (Nat.not_lt_zero k)⟩, fun k hk hn => hg.block k hk (fun e => hn (by rw [← e]; simp))⟩
theorem own_newS {w w' : World} {v : Value} (ho : Only (v.ownBlock.toList) w w') {w0 : World} (h0 : Only [] w0 w) (hv : ∀ k, v.ownBlock = some k → w0.heap.size ≤ k) : Only [] w0 w' := by
  refine h0.trans ho (fun x hx => Or.inr (hv x ?_))
  simpa using hx
end Go.Proofs.YtjidopgohdlfdaaGreatDoor.C14

/-
  The document's sum: Byte, More, Of. No condition but the lengths that Go's own strings have.
-/
namespace Go.Proofs.YtjidopgohdlfdaaGreatDoor.C14
open Go.RowKit

theorem wrap_u32 (n : Int) : IntKind.u32.wrap n = n % 4294967296 := by simp [IntKind.wrap, IntKind.bits, IntKind.signed]
theorem wrap_u8 (n : Int) : IntKind.u8.wrap n = n % 256 := by simp [IntKind.wrap, IntKind.bits, IntKind.signed]
theorem w32_small {n : Nat} (h : n < 4294967296) : IntKind.u32.wrap (n : Int) = (n : Int) := by rw [wrap_u32]; omega
theorem xor_u32 {a b : Nat} (ha : a < 4294967296) (hb : b < 4294967296) : bits .xor .u32 (a : Int) (b : Int) = ((a ^^^ b : Nat) : Int) := by
  have hx : a ^^^ b < 4294967296 := lt_xor ha hb
  have h1 : (BitVec.ofInt 32 (a : Int)).toNat = a := by
    rw [BitVec.ofInt_natCast, BitVec.toNat_ofNat]; exact Nat.mod_eq_of_lt (by omega)
  have h2 : (BitVec.ofInt 32 (b : Int)).toNat = b := by
    rw [BitVec.ofInt_natCast, BitVec.toNat_ofNat]; exact Nat.mod_eq_of_lt (by omega)
  show IntKind.u32.wrap ((BitVec.ofInt 32 (a : Int) ^^^ BitVec.ofInt 32 (b : Int)).toNat : Int) = _
  rw [BitVec.toNat_xor, h1, h2, w32_small hx]
theorem and_one {x : Nat} (h : x < 4294967296) : bits .and .u32 (x : Int) 1 = ((x % 2 : Nat) : Int) := by
  have h1 : (BitVec.ofInt 32 (x : Int)).toNat = x := by
    rw [BitVec.ofInt_natCast, BitVec.toNat_ofNat]; exact Nat.mod_eq_of_lt (by omega)
  have h2 : (BitVec.ofInt 32 (1 : Int)).toNat = 1 := by decide
  show IntKind.u32.wrap ((BitVec.ofInt 32 (x : Int) &&& BitVec.ofInt 32 (1 : Int)).toNat : Int) = _
  rw [BitVec.toNat_and, h1, h2, Nat.and_one_is_mod, w32_small (by omega)]
theorem shs_last : ∀ (k n : Nat), shs (k + 1) n = sh (shs k n)
  | 0, _ => rfl
  | k + 1, n => by rw [shs, shs_last k (sh n), shs]
theorem rbyte_any {n b : Nat} (hn : n < 4294967296) (hb : b < 256) (w : World) : Calls Tryz.prog 71 #[.int .u32 (n : Int), .int .u8 (b : Int)] w fun e w' => e = .returned (.int .u32 (byteN n b : Nat)) ∧ w = w' := by
  have hx0 := xor_u32 hn (b := b) (by omega)
  have hwb := w32_small (n := b) (by omega)
  have hlt : ∀ i, shs i (n ^^^ b) < 4294967296 := fun i => shs_lt i (lt_xor hn (by omega))
  have hst : ∀ i, shs (i + 1) (n ^^^ b) = sh (shs i (n ^^^ b)) := fun i => shs_last i _
  have h8 : byteN n b = shs 8 (n ^^^ b) := rfl
  rw [h8]
  have h0 : shs 0 (n ^^^ b) = n ^^^ b := rfl
  obtain ⟨m, hm⟩ : ∃ m, m = n ^^^ b := ⟨_, rfl⟩
  rw [← hm] at hx0 hlt hst h0 ⊢
  have hltH := Lib.hid hlt
  have hstH := Lib.hid hst
  clear hlt hst hn hb h8 hm
  go_enter Tryz.func71, Tryz.ntmps71
  go_wp2_with fail
  go_loopw [0, 5] (fun s0 s5 wr => ∃ i : Nat, i ≤ 8 ∧ s5 = .int .i64 i ∧ s0 = .int .u32 (shs i m : Nat) ∧ w = wr) (fun _ s5 _ => 8 - (intOf s5).toNat)
  case atStart => exact ⟨0, by omega, rfl, by rw [h0], rfl⟩
  case round =>
    obtain ⟨i, hi, rfl, rfl, rfl⟩ := hrel
    have hl := hltH.out i
    have hs := hstH.out i
    obtain ⟨q, hqe⟩ : ∃ q, q = shs i m := ⟨_, rfl⟩
    rw [← hqe] at hl hs ⊢
    have hqeH := Lib.hid hqe
    clear hqe
    by_cases hil : i < 8
    · have hd : decide ((i : Int) < 8) = true := decide_eq_true (by omega)
      have hwk := wrap_small (x := (i : Int) + 1) (by omega)
      clear hx0 hd
      have hilH := Lib.hid hil
      by_cases h1 : q % 2 = 1
      · have hq : ((q : Int) % 2 == 1) = true := by rw [beq_iff_eq]; omega
        have hd : decide ((i : Int) < 8) = true := decide_eq_true (by omega)
        have hdv : ((q : Int) / 2) = ((q / 2 : Nat) : Int) := by omega
        have hxx : bits .xor .u32 (((q / 2 : Nat) : Int)) 3988292384 = ((sh q : Nat) : Int) := by
          unfold sh
          rw [if_pos h1]
          exact xor_u32 (by omega) (by decide)
        rw [← hs] at hxx
        have hxxH := Lib.hid hxx
        have hdvH := Lib.hid hdv
        clear h1 hs hil hxx hdv
        go_wp2_with fail
        refine ⟨⟨i + 1, by have := hilH.out; omega, by go_num, by rw [hdvH.out, hxxH.out], trivial⟩, by have := hilH.out; simp [intOf]; omega⟩
      · have hq : ((q : Int) % 2 == 1) = false := by rw [beq_eq_false_iff_ne]; omega
        have hd : decide ((i : Int) < 8) = true := decide_eq_true (by omega)
        have hdv : ((q : Int) / 2) = ((sh q : Nat) : Int) := by
          unfold sh
          rw [if_neg h1]
          omega
        rw [← hs] at hdv
        have hdvH := Lib.hid hdv
        clear h1 hs hil hdv
        go_wp2_with fail
        refine ⟨⟨i + 1, by have := hilH.out; omega, by go_num, by rw [hdvH.out], trivial⟩, by have := hilH.out; simp [intOf]; omega⟩
    · have hi8 : i = 8 := by omega
      subst hi8
      rw [hqeH.out]
      go_wp2_with fail
      go_ret
      exact ⟨rfl, rfl⟩
/-- A text's bytes. -/
def bt (s : ByteArray) : List Nat := s.data.toList.map UInt8.toNat
theorem bt_len (s : ByteArray) : (bt s).length = s.size := by unfold bt; rw [List.length_map, Array.length_toList]; rfl
theorem bt_lt (s : ByteArray) : ∀ b ∈ bt s, b < 256 := fun b hb => by
  obtain ⟨x, _, rfl⟩ := List.mem_map.1 hb
  exact x.toNat_lt
theorem bt_at {s : ByteArray} {k : Nat} (h : k < s.size) : (bt s)[k]? = some s[k].toNat := by
  unfold bt
  rw [List.getElem?_map, List.getElem?_eq_getElem (by rw [Array.length_toList]; exact h)]
  rfl
theorem bt_app (s t : ByteArray) : bt (s ++ t) = bt s ++ bt t := by unfold bt; simp
theorem rmore_any {n : Nat} (hn : n < 4294967296) (s : ByteArray) (hs : s.size ≤ maxLen) (w : World) : Calls Tryz.prog 55 #[.int .u32 (n : Int), .string s] w fun e w' => e = .returned (.int .u32 (moreN n (bt s) : Nat)) ∧ w = w' := by
  unfold maxLen at hs
  have hlt := Lib.hid (fun i => moreN_lt (l := (bt s).take i) (fun b hb => bt_lt s b (List.mem_of_mem_take hb)) hn)
  have hst : Hid (∀ i (h : i < s.size), moreN n ((bt s).take (i + 1)) = byteN (moreN n ((bt s).take i)) s[i].toNat) := Lib.hid (fun i h => by
    rw [List.take_add_one, bt_at h]
    exact moreN_snoc _ _ _)
  have hfin : Hid (moreN n ((bt s).take s.size) = moreN n (bt s)) := Lib.hid (by rw [← bt_len, List.take_length])
  obtain ⟨G, hG⟩ : ∃ G, G = moreN n (bt s) := ⟨_, rfl⟩
  rw [← hG] at hfin ⊢
  clear hG
  go_enter Tryz.func55, Tryz.ntmps55
  go_wp2_with fail
  go_loopw [0, 5] (fun s0 s5 wr => ∃ i : Nat, i ≤ s.size ∧ s5 = .int .i64 i ∧ s0 = .int .u32 (moreN n ((bt s).take i) : Nat) ∧ w = wr) (fun _ s5 _ => s.size - (intOf s5).toNat)
  case atStart => exact ⟨0, by omega, rfl, rfl, rfl⟩
  case round =>
    obtain ⟨i, hi, rfl, rfl, rfl⟩ := hrel
    obtain ⟨q, hq⟩ : ∃ q, q = moreN n ((bt s).take i) := ⟨_, rfl⟩
    have hl := hlt.out i
    by_cases hil : i < s.size
    · have hs2 := hst.out i hil
      rw [← hq] at hl hs2 ⊢
      have hB := Lib.hid (rbyte_any hl (b := s[i].toNat) s[i].toNat_lt w)
      have hs2H := Lib.hid hs2
      have hwk := wrap_small (x := (i : Int) + 1) (by omega)
      clear hs2 hq
      go_wp2_with (go_at_call 71; (with_reducible refine (hB.out).mono ?_); rintro e w1 ⟨rfl, rfl⟩)
      go_roundw
      case rel => exact ⟨i + 1, by omega, by go_num, by rw [hs2H.out], trivial⟩
      case measure => simp [intOf]; omega
    · have hin : i = s.size := by omega
      subst hin
      rw [hfin.out]
      clear hq
      go_wp2_with fail
      go_ret
      exact ⟨rfl, rfl⟩
theorem rof_any (s : ByteArray) (hs : s.size ≤ maxLen) (w : World) : Calls Tryz.prog 42 #[.string s] w fun e w' => e = .returned (.int .u32 (ofN (bt s) : Nat)) ∧ w = w' := by
  have hM : Hid (Calls Tryz.prog 55 #[.int .u32 4294967295, .string s] w fun e w' => e = .returned (.int .u32 (moreN full (bt s) : Nat)) ∧ w = w') := Lib.hid (rmore_any (n := full) (by decide) s hs w)
  have hx : bits .xor .u32 (moreN full (bt s) : Nat) 4294967295 = ((ofN (bt s) : Nat) : Int) := xor_u32 (moreN_lt (bt_lt s) (by decide)) (b := full) (by decide)
  clear hs
  generalize ofN (bt s) = q at *
  generalize moreN full (bt s) = m at *
  go_enter Tryz.func42, Tryz.ntmps42
  go_wp2_with (go_at_call 55; (with_reducible refine (hM.out).mono ?_); rintro e w1 ⟨rfl, rfl⟩)
  go_ret
  exact ⟨rfl, rfl⟩
end Go.Proofs.YtjidopgohdlfdaaGreatDoor.C14

/-
  The document's Seal. No condition but the lengths that Go's own strings have.
-/
namespace Go.Proofs.YtjidopgohdlfdaaGreatDoor.C14
open Go.RowKit

def sumB (v : Nat) : ByteArray := ⟨#[UInt8.ofNat v, UInt8.ofNat (v / 256), UInt8.ofNat (v / 65536), UInt8.ofNat (v / 16777216)]⟩
def sealB (s : ByteArray) : ByteArray := s ++ sumB (ofN (bt s))
theorem conv4 (w : World) (x0 x1 x2 x3 : Int) (h0 : 0 ≤ x0 ∧ x0 < 256) (h1 : 0 ≤ x1 ∧ x1 < 256) (h2 : 0 ≤ x2 ∧ x2 < 256) (h3 : 0 ≤ x3 ∧ x3 < 256) : (convert 45 9 (.slice (some ⟨w.heap.size, 0, none⟩) 4 4)).run Tryz.prog (w.alloc (.cells #[.int .u8 x0, .int .u8 x1, .int .u8 x2, .int .u8 x3] 5)) =
    .ok (.string ⟨#[UInt8.ofNat x0.toNat, UInt8.ofNat x1.toNat, UInt8.ofNat x2.toNat, UInt8.ofNat x3.toNat]⟩) (w.alloc (.cells #[.int .u8 x0, .int .u8 x1, .int .u8 x2, .int .u8 x3] 5)) := by
  refine run_convert_bytes_back _ 45 9 5 ⟨w.heap.size, 0, none⟩ 4 [UInt8.ofNat x0.toNat, UInt8.ofNat x1.toNat, UInt8.ofNat x2.toNat, UInt8.ofNat x3.toNat] Tryz.underlying45 Tryz.underlying5 Tryz.underlying9 (Lib.bytes_of_row (heap_alloc_new w _) ?_)
  have e : ∀ x : Int, 0 ≤ x ∧ x < 256 → ((UInt8.ofNat x.toNat).toNat : Int) = x := fun x hx => by simp; omega
  simp only [Lib.byteCells, List.map_cons, List.map_nil, e x0 h0, e x1 h1, e x2 h2, e x3 h3]
  rfl
theorem sumB_eq {v : Nat} {x0 x1 x2 x3 : Int} (h0 : x0 = (v : Int) % 256) (h1 : x1 = (v : Int) / 256 % 256) (h2 : x2 = (v : Int) / 65536 % 256) (h3 : x3 = (v : Int) / 16777216 % 256) : (⟨#[UInt8.ofNat x0.toNat, UInt8.ofNat x1.toNat, UInt8.ofNat x2.toNat, UInt8.ofNat x3.toNat]⟩ : ByteArray) = sumB v := by
  have e : ∀ (m : Nat), UInt8.ofNat ((m : Int) % 256).toNat = UInt8.ofNat m := fun m => by
    apply UInt8.toNat_inj.1
    simp
    omega
  subst h0 h1 h2 h3
  unfold sumB
  rw [e v, show ((v : Int) / 256) = ((v / 256 : Nat) : Int) by omega, show ((v : Int) / 65536) = ((v / 65536 : Nat) : Int) by omega, show ((v : Int) / 16777216) = ((v / 16777216 : Nat) : Int) by omega, e, e, e]
set_option maxHeartbeats 4000000 in
theorem rseal_any (s : ByteArray) (hs : s.size ≤ 1099511627776) (w : World) : Calls Tryz.prog 25 #[.string s] w fun e w' => e = .returned (.string (sealB s)) ∧ Only [] w w' := by
  have hO := Lib.hid (rof_any s (by unfold maxLen; omega) w)
  unfold sealB

  generalize ofN (bt s) = v at *
  have hc := conv4 w ((v : Int) % 256) ((v : Int) / 256 % 256) ((v : Int) / 65536 % 256) ((v : Int) / 16777216 % 256) (by omega) (by omega) (by omega) (by omega)
  rw [sumB_eq (v := v) rfl rfl rfl rfl] at hc
  have hz : (sumB v).size = 4 := rfl
  have hb : s.size + 4 ≤ 9223372036854775807 := by omega

  go_enter Tryz.func25, Tryz.ntmps25
  go_wp2_with (go_at_call 42; (with_reducible refine (hO.out).mono ?_); rintro e w1 ⟨rfl, rfl⟩)
  go_ret
  exact ⟨rfl, (Only.refl [] _).alloc _⟩
end Go.Proofs.YtjidopgohdlfdaaGreatDoor.C14

/-
  Rows of texts as they are handed over; the law's own far; what fits. No condition but the lengths that Go's own strings have.
-/
namespace Go.Proofs.YtjidopgohdlfdaaGreatDoor.C14
open Go.RowKit

def KeysAt (w : World) (B : Nat) (A : Option Addr) (K : List ByteArray) : Prop := ∀ i x, K[i]? = some x → ∃ a, A = some a ∧ a.block < B ∧ w.cell? (a.add i) = some (.string x)
theorem KeysAt.on {w w' : World} {A : Option Addr} {K : List ByteArray} {B : Nat} (h : KeysAt w B A K) (hb : Below B w w') : KeysAt w' B A K := by
  intro i x hx
  obtain ⟨a, rfl, h1, h2⟩ := h i x hx
  exact ⟨a, rfl, h1, (hb.cell (by rw [add_block]; exact h1)).trans h2⟩
theorem keys_none (w : World) (B : Nat) (A : Option Addr) : KeysAt w B A [] := fun i x h => by simp at h
theorem keys_one (w : World) (x : ByteArray) : KeysAt (w.alloc (.cells #[.string x] 9)) (w.heap.size + 1) (some ⟨w.heap.size, 0, none⟩) [x] := fun i y h => by
  cases i with
  | zero =>
    simp at h
    subst h
    exact ⟨_, rfl, by simp, Lib.cell_of_heap (heap_alloc_new w _) 0⟩
  | succ i => simp at h
theorem run_ixK (a : Addr) (k n c : Nat) (hk : k < n) (w : World) : Sem.run Tryz.prog (Instr.indexAt 49 (.slice (some a) n c) (.int .i64 (k : Int))) w = .ok (.pointer (some (a.add k))) w := by
  go_simp
def longS (x : ByteArray) : Bool := decide (2000 < x.size)
def farS (K : List ByteArray) : Bool := K.any longS || decide (20 < K.length)
theorem farS_no {K : List ByteArray} (h : farS K = false) : (∀ k ∈ K, k.size ≤ 2000) ∧ K.length ≤ 20 := by
  unfold farS at h
  rw [Bool.or_eq_false_iff] at h
  refine ⟨fun k hk => ?_, by have := of_decide_eq_false h.2; omega⟩
  have := (List.any_eq_false.1 h.1) k hk
  unfold longS at this
  have := of_decide_eq_false (Bool.eq_false_iff.2 this)
  omega
/-- Whether a text has its sum behind. -/
def fitsB (s : ByteArray) : Bool := decide (4 ≤ s.size) && ((sealB (s.extract 0 (s.size - 4))).toList == s.toList)
theorem bt_inj {s t : ByteArray} (h : bt s = bt t) : s = t := by
  have e : s.data.toList = t.data.toList := by
    unfold bt at h
    exact (List.map_inj_right (fun a b hab => UInt8.toNat_inj.1 hab)).1 h
  cases s; cases t
  simp only at e
  congr 1
  exact Array.toList_inj.1 e
theorem bt_sum (v : Nat) : bt (sumB v) = le4 v := by
  unfold bt sumB le4
  simp [UInt8.toNat_ofNat']
theorem bt_seal (s : ByteArray) : bt (sealB s) = sealN (bt s) := by
  unfold sealB sealN
  rw [bt_app, bt_sum]
theorem seal_size (s : ByteArray) : (sealB s).size = s.size + 4 := by
  unfold sealB
  rw [ByteArray.size_append]
  rfl
theorem fits_some {s : ByteArray} (h : fitsB s = true) : ∃ p, s = sealB p := by
  unfold fitsB at h
  rw [Bool.and_eq_true] at h
  exact ⟨_, (ba_eq (by simpa using h.2)).symm⟩
theorem fits_seal (s : ByteArray) : fitsB (sealB s) = true := by
  unfold fitsB
  rw [seal_size, decide_eq_true (by omega)]
  have e : (sealB s).extract 0 (s.size + 4 - 4) = s := by
    unfold sealB
    rw [show s.size + 4 - 4 = s.size by omega]
    apply ByteArray.ext
    simp
  rw [e]
  simp
end Go.Proofs.YtjidopgohdlfdaaGreatDoor.C14

/-
  A burst, bit by bit, in a row of bytes. Mathematics; no program, no condition.
-/
namespace Go.Proofs.YtjidopgohdlfdaaGreatDoor.C14

/-- The bit j of a row of bytes. -/
def bitAt (l : List Nat) (j : Nat) : Nat := l.getD (j / 8) 0 / 2 ^ (j % 8) % 2
theorem bits_at : ∀ (k b j : Nat), j < k → (bitsN k b)[j]? = some (b / 2 ^ j % 2)
  | k + 1, b, 0, _ => by simp [bitsN]
  | k + 1, b, j + 1, h => by
    rw [bitsN, List.getElem?_cons_succ, bits_at k (b / 2) j (by omega), Nat.div_div_eq_div_mul, Nat.pow_succ, Nat.mul_comm 2]
theorem strm_at : ∀ (l : List Nat) (j : Nat), j < 8 * l.length → (strm l)[j]? = some (bitAt l j)
  | [], j, h => by simp at h
  | b :: l, j, h => by
    rw [strm_cons]
    by_cases hj : j < 8
    · rw [List.getElem?_append_left (by rw [bitsN_len]; exact hj), bits_at 8 b j hj]
      unfold bitAt
      rw [show j / 8 = 0 by omega, show j % 8 = j by omega]
      rfl
    · rw [List.getElem?_append_right (by rw [bitsN_len]; omega), bitsN_len, strm_at l (j - 8) (by simp at h; omega)]
      unfold bitAt
      rw [show (j - 8) % 8 = j % 8 by omega]
      have e : j / 8 = (j - 8) / 8 + 1 := by omega
      rw [e]
      rfl
theorem bit_test (x n : Nat) : x / 2 ^ n % 2 = if x.testBit n then 1 else 0 := by
  rw [Nat.testBit_eq_decide_div_mod_eq]
  by_cases h : x / 2 ^ n % 2 = 1
  · simp [h]
  · have h2 : x / 2 ^ n % 2 = 0 := by omega
    simp [h2]
/-- A bit of a byte is turned. -/
theorem xor_bit (x m n : Nat) : (x ^^^ 2 ^ m) / 2 ^ n % 2 = if n = m then (x / 2 ^ n % 2) ^^^ 1 else x / 2 ^ n % 2 := by
  rw [bit_test, bit_test, Nat.testBit_xor, Nat.testBit_two_pow]
  by_cases e : n = m
  · subst e
    rw [if_pos rfl]
    cases x.testBit n <;> simp
  · rw [if_neg e, decide_eq_false (fun e' => e e'.symm)]
    simp
theorem bit_set (l : List Nat) (k : Nat) (hk : k / 8 < l.length) (j : Nat) : bitAt (l.set (k / 8) (l.getD (k / 8) 0 ^^^ 2 ^ (k % 8))) j = if j = k then bitAt l j ^^^ 1 else bitAt l j := by
  unfold bitAt
  by_cases e : j / 8 = k / 8
  · have hg : (l.set (k / 8) (l.getD (k / 8) 0 ^^^ 2 ^ (k % 8))).getD (j / 8) 0 = l.getD (k / 8) 0 ^^^ 2 ^ (k % 8) := by
      rw [e]
      simp [List.getD, List.getElem?_set_self hk]
    rw [hg, xor_bit, e]
    by_cases e2 : j = k
    · subst e2
      rw [if_pos rfl, if_pos rfl]
    · rw [if_neg e2, if_neg (by omega)]
  · have hg : (l.set (k / 8) (l.getD (k / 8) 0 ^^^ 2 ^ (k % 8))).getD (j / 8) 0 = l.getD (j / 8) 0 := by
      simp only [List.getD]
      rw [List.getElem?_set_ne (fun h => e h.symm)]
    rw [hg, if_neg (by rintro rfl; exact e rfl)]
/-- What the first i bits of a burst turn. -/
def pat (a mask i j : Nat) : Nat := if a ≤ j ∧ j < a + i then mask / 2 ^ (j - a) % 2 else 0
theorem pat_zero (a mask j : Nat) : pat a mask 0 j = 0 := by unfold pat; rw [if_neg (by omega)]
theorem pat_succ (a mask i j : Nat) : pat a mask (i + 1) j = if j = a + i then mask / 2 ^ i % 2 else pat a mask i j := by
  unfold pat
  by_cases e : j = a + i
  · subst e
    rw [if_pos rfl, if_pos (by omega), show a + i - a = i by omega]
  · rw [if_neg e]
    by_cases h : a ≤ j ∧ j < a + i
    · rw [if_pos h, if_pos (by omega)]
    · rw [if_neg h, if_neg (by omega)]
theorem pat_at (a mask i : Nat) : pat a mask i (a + i) = 0 := by unfold pat; rw [if_neg (by omega)]
/-- Some of a burst's bits are turned. -/
def Spoilt (l r : List Nat) (a mask i : Nat) : Prop := r.length = l.length ∧ (∀ x ∈ r, x < 256) ∧ ∀ j, j < 8 * l.length → bitAt r j = bitAt l j ^^^ pat a mask i j
theorem spoilt_start {l : List Nat} (h : ∀ x ∈ l, x < 256) (a mask : Nat) : Spoilt l l a mask 0 := ⟨rfl, h, fun j _ => by rw [pat_zero, Nat.xor_zero]⟩
theorem spoilt_none {l r : List Nat} {a mask i : Nat} (h : Spoilt l r a mask i) (hb : mask / 2 ^ i % 2 = 0) : Spoilt l r a mask (i + 1) := by
  refine ⟨h.1, h.2.1, fun j hj => ?_⟩
  rw [h.2.2 j hj, pat_succ]
  by_cases e : j = a + i
  · subst e
    rw [if_pos rfl, pat_at, hb]
  · rw [if_neg e]
theorem getD_lt {l : List Nat} (h : ∀ x ∈ l, x < 256) (k : Nat) : l.getD k 0 < 256 := by
  rw [List.getD_eq_getElem?_getD]
  cases hk : l[k]? with
  | none => simp
  | some x => exact h x (List.mem_of_getElem? hk)
theorem spoilt_one {l r : List Nat} {a mask i : Nat} (h : Spoilt l r a mask i) (hb : mask / 2 ^ i % 2 = 1) (hk : (a + i) / 8 < l.length) : Spoilt l (r.set ((a + i) / 8) (r.getD ((a + i) / 8) 0 ^^^ 2 ^ ((a + i) % 8))) a mask (i + 1) := by
  refine ⟨by rw [List.length_set]; exact h.1, fun x hx => ?_, fun j hj => ?_⟩
  · rcases List.mem_or_eq_of_mem_set hx with e | e
    · exact h.2.1 x e
    · rw [e]
      exact Nat.xor_lt_two_pow (n := 8) (getD_lt h.2.1 _) (Nat.pow_lt_pow_right (a := 2) (by omega) (by omega))
  · rw [bit_set r (a + i) (by rw [h.1]; exact hk), h.2.2 j hj, pat_succ]
    by_cases e : j = a + i
    · subst e
      rw [if_pos rfl, if_pos rfl, pat_at, hb, Nat.xor_zero]
    · rw [if_neg e, if_neg e]
theorem zx_at : ∀ (l m : List Nat) (j : Nat), l.length = m.length → (zx l m)[j]? = match l[j]?, m[j]? with | some x, some y => some (x ^^^ y) | _, _ => none
  | [], [], j, _ => by simp [zx]
  | a :: l, b :: m, 0, _ => by simp [zx]
  | a :: l, b :: m, j + 1, h => by
    rw [zx, List.getElem?_cons_succ, List.getElem?_cons_succ, List.getElem?_cons_succ]
    exact zx_at l m j (by simpa using h)
  | [], _ :: _, _, h => by simp at h
  | _ :: _, [], _, h => by simp at h
theorem spoilt_strm {l r : List Nat} {a mask b : Nat} (h : Spoilt l r a mask 32) (hab : a + 32 + b = 8 * l.length) : strm r = zx (strm l) (List.replicate a 0 ++ (bitsN 32 mask ++ List.replicate b 0)) := by
  have hlen : (strm l).length = (List.replicate a 0 ++ (bitsN 32 mask ++ List.replicate b 0)).length := by
    rw [strm_len, List.length_append, List.length_append, List.length_replicate, List.length_replicate, bitsN_len]
    omega
  have hzl : ∀ (l m : List Nat), l.length = m.length → (zx l m).length = l.length := fun l => by
    induction l with
    | nil => intro m hm; cases m <;> simp [zx]
    | cons x l ih =>
      intro m hm
      cases m with
      | nil => simp at hm
      | cons y m => simp only [zx, List.length_cons]; rw [ih m (by simpa using hm)]
  apply List.ext_getElem?
  intro j
  by_cases hj : j < 8 * l.length
  · rw [strm_at r j (by rw [h.1]; exact hj), zx_at _ _ _ hlen, strm_at l j hj, h.2.2 j hj]
    have hp : (List.replicate a 0 ++ (bitsN 32 mask ++ List.replicate b 0))[j]? = some (pat a mask 32 j) := by
      unfold pat
      by_cases h1 : j < a
      · rw [List.getElem?_append_left (by simpa using h1), if_neg (by omega)]
        simp [h1]
      · rw [List.getElem?_append_right (by simp; omega), List.length_replicate]
        by_cases h2 : j - a < 32
        · rw [List.getElem?_append_left (by rw [bitsN_len]; exact h2), bits_at 32 mask _ h2, if_pos (by omega)]
        · rw [List.getElem?_append_right (by rw [bitsN_len]; omega), bitsN_len, if_neg (by omega), List.getElem?_replicate, if_pos (by omega)]
    rw [hp]
  · rw [List.getElem?_eq_none (by rw [strm_len, h.1]; omega), List.getElem?_eq_none (by rw [hzl _ _ hlen, strm_len]; omega)]
/-- What was sealed, and is spoilt by a burst, does not fit. -/
theorem spoilt_fits {s t : ByteArray} {a mask : Nat} (h : Spoilt (bt (sealB s)) (bt t) a mask 32) (h0 : mask ≠ 0) (hm : mask < 4294967296) (ha : a + 32 ≤ 8 * (bt (sealB s)).length) : fitsB t = false := by
  cases hf : fitsB t with
  | false => rfl
  | true =>
    exfalso
    obtain ⟨q, rfl⟩ := fits_some hf
    have hx := spoilt_strm (b := 8 * (bt (sealB s)).length - (a + 32)) h (by omega)
    rw [bt_seal, bt_seal] at hx
    refine burst_fits (p := bt s) (q := bt q) (bt_lt s) (bt_lt q) h0 hm ?_ hx
    rw [← bt_seal]
    omega
end Go.Proofs.YtjidopgohdlfdaaGreatDoor.C14

/-
  What four shifts make of a number, by a table of sixteen. Mathematics; no program, no condition.
-/
namespace Go.Proofs.YtjidopgohdlfdaaGreatDoor.C14

theorem shs_xor : ∀ (k a b : Nat), shs k (a ^^^ b) = shs k a ^^^ shs k b
  | 0, _, _ => rfl
  | k + 1, a, b => by rw [shs, sh_xor, shs_xor k]; rfl
theorem shs_up : ∀ (k c : Nat), shs k (2 ^ k * c) = c
  | 0, c => by simp [shs]
  | k + 1, c => by
    rw [shs, show 2 ^ (k + 1) * c = 2 * (2 ^ k * c) by rw [Nat.pow_succ, Nat.mul_comm (2 ^ k) 2, Nat.mul_assoc], sh_two, shs_up k c]
theorem split_16 (m : Nat) : m = (m % 16) ^^^ (2 ^ 4 * (m / 16)) := by
  apply Nat.eq_of_testBit_eq
  intro i
  rw [Nat.testBit_xor, show (16 : Nat) = 2 ^ 4 from rfl, Nat.testBit_mod_two_pow, Nat.testBit_two_pow_mul, Nat.testBit_div_two_pow]
  by_cases h : i < 4
  · rw [decide_eq_true h, decide_eq_false (by omega)]
    simp
  · rw [decide_eq_false h, decide_eq_true (by omega), show i - 4 + 4 = i by omega]
    simp
/-- What four shifts make of a number: what is left of it, turned by what they make of the four bits that go. -/
theorem fold_row (m : Nat) : shs 4 m = (m / 16) ^^^ shs 4 (m % 16) := by
  conv => lhs; rw [split_16 m]
  rw [shs_xor, shs_up, Nat.xor_comm]
theorem byte_folds (n b : Nat) : byteN n b = shs 4 (shs 4 (n ^^^ b)) := rfl
def folds : List Int := [0, 498536548, 997073096, 651767980, 1994146192, 1802195444, 1303535960, 1342533948, 3988292384, 4027552580, 3604390888, 3412177804, 2607071920, 2262029012, 2685067896, 3183342108]
theorem folds_are : ∀ i : Nat, i < 16 → folds.getD i 0 = ((shs 4 i : Nat) : Int) := by decide +kernel
end Go.Proofs.YtjidopgohdlfdaaGreatDoor.C14

/-
  The program's sum: folded, Byte, More, Of, tail, Seal, Fits. The table of folds holds what the program's text lays; no other condition but the lengths that Go's own strings have.
-/
namespace Go.Proofs.YtjidopgohdlfdaaGreatDoor.C14
open Go.RowKit

/-- The table as it lies. -/
def Tab (w : World) : Prop := ∀ i : Nat, i < 16 → w.cell? ⟨0, i, none⟩ = some (.int .u32 (shs 4 i : Nat))
theorem Tab.keep {w w' : World} (h : Tab w) (ho : Only [] w w') : Tab w' := fun i hi => cell_keep ho (h i hi)
theorem quiet {w : World} {e : Ending} {v : Value} {w' : World} (h : e = .returned v ∧ w = w') : e = .returned v ∧ Only [] w w' := ⟨h.1, h.2 ▸ Only.refl [] w⟩
theorem folded_any {n : Nat} (hn : n < 4294967296) (w : World) (hT : Tab w) : Calls Tryz.prog 91 #[.int .u32 (n : Int)] w fun e w' => e = .returned (.int .u32 (shs 4 n : Nat)) ∧ w = w' := by
  have hc := hT (n % 16) (by omega)
  have hsl : shs 4 (n % 16) < 4294967296 := shs_lt 4 (by omega)
  have hxx : bits .xor .u32 ((n / 16 : Nat) : Int) ((shs 4 (n % 16) : Nat) : Int) = ((shs 4 n : Nat) : Int) := by
    rw [xor_u32 (by omega) hsl, fold_row n]
  have hxxH := Lib.hid hxx
  obtain ⟨f, hf⟩ : ∃ f, f = shs 4 (n % 16) := ⟨_, rfl⟩
  obtain ⟨G, hG⟩ : ∃ G, G = shs 4 n := ⟨_, rfl⟩
  rw [← hf] at hc hxxH
  rw [← hG] at hxxH ⊢
  obtain ⟨q, hq⟩ : ∃ q, q = n % 16 := ⟨_, rfl⟩
  obtain ⟨u, hu⟩ : ∃ u, u = n / 16 := ⟨_, rfl⟩
  rw [← hq] at hc
  rw [← hu] at hxxH
  have h1 : (n : Int) / 16 = (u : Int) := by omega
  have h2 : (n : Int) % 16 = (q : Int) := by omega
  have h3 : (n : Int).tmod 16 = (q : Int) := by rw [Int.tmod_eq_emod_of_nonneg (by omega)]; omega
  have h4 := w32_small (n := q) (by omega)
  have h5 : q < 16 := by omega
  clear hq hu
  clear hxx hf hG hsl hT
  go_enter Tryz.func91, Tryz.ntmps91
  go_wp2_with fail
  go_ret
  exact ⟨ret_u (by rw [← hxxH.out]), rfl⟩
theorem byte_any {n b : Nat} (hn : n < 4294967296) (hb : b < 256) (w : World) (hT : Tab w) : Calls Tryz.prog 82 #[.int .u32 (n : Int), .int .u8 (b : Int)] w fun e w' => e = .returned (.int .u32 (byteN n b : Nat)) ∧ Only [] w w' := by
  refine Calls.mono (R := fun e w' => e = .returned (.int .u32 (byteN n b : Nat)) ∧ w = w') ?_ (fun e w' h => quiet h)
  have hx0 := xor_u32 hn (b := b) (by omega)
  have hwb := w32_small (n := b) (by omega)
  have hm : n ^^^ b < 4294967296 := lt_xor hn (by omega)
  have hF := Lib.hid (folded_any hm w hT)
  have hF2 := Lib.hid (folded_any (shs_lt 4 hm) w hT)
  rw [byte_folds]
  generalize n ^^^ b = m at *
  generalize hq : shs 4 m = q at *
  clear hn hb hm hT hq
  go_enter Tryz.func82, Tryz.ntmps82
  go_wp2_with (first
    | (go_at_call 91; (with_reducible refine (hF.out).mono ?_); rintro e w1 ⟨rfl, rfl⟩)
    | (go_at_call 91; (with_reducible refine (hF2.out).mono ?_); rintro e w1 ⟨rfl, rfl⟩))
  go_ret
  exact ⟨rfl, rfl⟩
theorem more_any {n : Nat} (hn : n < 4294967296) (s : ByteArray) (hs : s.size ≤ 1099511627776) (w : World) (hT : Tab w) : Calls Tryz.prog 69 #[.int .u32 (n : Int), .string s] w fun e w' => e = .returned (.int .u32 (moreN n (bt s) : Nat)) ∧ Only [] w w' := by
  have hlt := Lib.hid (fun i => moreN_lt (l := (bt s).take i) (fun b hb => bt_lt s b (List.mem_of_mem_take hb)) hn)
  have hst : Hid (∀ i (h : i < s.size), moreN n ((bt s).take (i + 1)) = byteN (moreN n ((bt s).take i)) s[i].toNat) := Lib.hid (fun i h => by
    rw [List.take_add_one, bt_at h]
    exact moreN_snoc _ _ _)
  have hfin : Hid (moreN n ((bt s).take s.size) = moreN n (bt s)) := Lib.hid (by rw [← bt_len, List.take_length])
  have hTH := Lib.hid hT
  clear hT
  obtain ⟨G, hG⟩ : ∃ G, G = moreN n (bt s) := ⟨_, rfl⟩
  rw [← hG] at hfin ⊢
  clear hG
  go_enter Tryz.func69, Tryz.ntmps69
  go_wp2_with fail
  go_loopw [0, 8] (fun s0 s8 wr => ∃ i : Nat, i ≤ s.size ∧ s8 = .int .i64 i ∧ s0 = .int .u32 (moreN n ((bt s).take i) : Nat) ∧ Hid (Only [] w wr)) (fun _ s8 _ => s.size - (intOf s8).toNat)
  case atStart => exact ⟨0, by omega, rfl, rfl, Lib.hid (Only.refl _ _)⟩
  case round =>
    obtain ⟨i, hi, rfl, rfl, hon⟩ := hrel
    obtain ⟨q, hq⟩ : ∃ q, q = moreN n ((bt s).take i) := ⟨_, rfl⟩
    have hl := hlt.out i
    by_cases hil : i < s.size
    · have hs2 := hst.out i hil
      rw [← hq] at hl hs2 ⊢
      have hB := Lib.hid (byte_any hl (b := s[i].toNat) s[i].toNat_lt wr (hTH.out.keep hon.out))
      have hs2H := Lib.hid hs2
      have hwk := wrap_small (x := (i : Int) + 1) (by omega)
      clear hs2 hq
      go_wp2_with (go_at_call 82; (with_reducible refine (hB.out).mono ?_); rintro e w1 ⟨rfl, o1⟩; have o1H := Lib.hid (hon.out.trans o1 (by simp)); clear o1)
      go_roundw
      case rel => exact ⟨i + 1, by omega, by go_num, by rw [hs2H.out], o1H⟩
      case measure => simp [intOf]; omega
    · have hin : i = s.size := by omega
      subst hin
      rw [hfin.out]
      clear hq
      go_wp2_with fail
      go_ret
      exact ⟨rfl, hon.out⟩
theorem moreN_flat (n : Nat) (K : List ByteArray) (s : ByteArray) : moreN n ((K ++ [s]).flatMap bt) = moreN (moreN n (K.flatMap bt)) (bt s) := by
  rw [List.flatMap_append, moreN_app]
  simp
theorem flat_lt (K : List ByteArray) : ∀ b ∈ K.flatMap bt, b < 256 := fun b hb => by
  obtain ⟨s, _, h⟩ := List.mem_flatMap.1 hb
  exact bt_lt s b h
theorem of_any {w : World} {B : Nat} {A : Option Addr} {c : Nat} {K : List ByteArray} (h : KeysAt w B A K) (hB : B ≤ w.heap.size) (hl : K.length ≤ 1000000) (hs : ∀ k ∈ K, k.size ≤ 1099511627776) (hT : Tab w) :
    Calls Tryz.prog 53 #[.slice A K.length c] w fun e w' => e = .returned (.int .u32 (ofN (K.flatMap bt) : Nat)) ∧ Only [] w w' := by
  have hlt := Lib.hid (fun i => moreN_lt (l := (K.take i).flatMap bt) (flat_lt _) (n := full) (by decide))
  have hst : Hid (∀ i y, K[i]? = some y → moreN full ((K.take (i + 1)).flatMap bt) = moreN (moreN full ((K.take i).flatMap bt)) (bt y)) := Lib.hid (fun i y hy => by
    rw [List.take_add_one, hy]
    exact moreN_flat _ _ _)
  have hfin : Hid (bits .xor .u32 4294967295 (moreN full ((K.take K.length).flatMap bt) : Nat) = ((ofN (K.flatMap bt) : Nat) : Int)) := Lib.hid (by
    rw [List.take_length]
    have := xor_u32 (a := full) (by decide) (moreN_lt (flat_lt K) (n := full) (by decide))
    rw [Nat.xor_comm] at this
    exact this)
  have hget : Hid (∀ i, i < K.length → ∃ y, K[i]? = some y) := Lib.hid (fun i hi => ⟨_, List.getElem?_eq_getElem hi⟩)
  have hTH := Lib.hid hT
  have hKH := Lib.hid h
  have hBH := Lib.hid hB
  have hsH := Lib.hid hs
  obtain ⟨G, hG⟩ : ∃ G, G = ofN (K.flatMap bt) := ⟨_, rfl⟩
  rw [← hG] at hfin ⊢
  clear h hB hs hG hT
  generalize K.length = n at *
  go_enter Tryz.func53, Tryz.ntmps53
  go_wp2_with fail
  go_loopw [3, 8] (fun s3 s8 wr => ∃ i : Nat, i ≤ n ∧ s8 = .int .i64 i ∧ s3 = .int .u32 (moreN full ((K.take i).flatMap bt) : Nat) ∧ Hid (Only [] w wr)) (fun _ s8 _ => n - (intOf s8).toNat)
  case atStart => exact ⟨0, by omega, rfl, rfl, Lib.hid (Only.refl _ _)⟩
  case round =>
    obtain ⟨i, hi, rfl, rfl, hon⟩ := hrel
    obtain ⟨q, hq⟩ : ∃ q, q = moreN full ((K.take i).flatMap bt) := ⟨_, rfl⟩
    have hq2 := hlt.out i
    by_cases hil : i < n
    · obtain ⟨y, hy⟩ := hget.out i hil
      obtain ⟨a, rfl, ha, d0⟩ := hKH.out.on (hon.out.below hBH.out (by simp)) i y hy
      have hix := run_ixK a i n c hil
      have hs2 := hst.out i y hy
      rw [← hq] at hq2 hs2 ⊢
      have hM := Lib.hid (more_any hq2 y (hsH.out y (List.mem_of_getElem? hy)) wr (hTH.out.keep hon.out))
      have hs2H := Lib.hid hs2
      have hilH := Lib.hid hil
      have hlt1 : decide ((i : Int) < (n : Int)) = true := decide_eq_true (by omega)
      have hltn : decide (i < n) = true := decide_eq_true hil
      have hwk := wrap_small (x := (i : Int) + 1) (by omega)
      clear hs2 hq hy hil
      go_wp2_with (go_at_call 69; (with_reducible refine (hM.out).mono ?_); rintro e w1 ⟨rfl, o1⟩; have o1H := Lib.hid (hon.out.trans o1 (by simp)); clear o1)
      go_roundw
      case rel => exact ⟨i + 1, by have := hilH.out; omega, by go_num, by rw [hs2H.out], o1H⟩
      case measure => have := hilH.out; simp [intOf]; omega
    · have hin : i = n := by omega
      subst hin
      have hf := hfin.out
      rw [← hq] at hf hq2 ⊢
      clear hq hil
      have hfH := Lib.hid hf
      clear hf
      go_wp2_with fail
      go_ret
      refine ⟨?_, hon.out⟩
      show Ending.returned (.int .u32 (bits .xor .u32 IntKind.u32.max (q : Int))) = _
      rw [show IntKind.u32.max = 4294967295 from by decide, hfH.out]
theorem of_any1 (w : World) (s : ByteArray) (hs : s.size ≤ 1099511627776) (hT : Tab w) : Calls Tryz.prog 53 #[.slice (some ⟨w.heap.size, 0, none⟩) 1 1] (w.alloc (.cells #[.string s] 9)) fun e w' => e = .returned (.int .u32 (ofN (bt s) : Nat)) ∧ Only [] w w' := by
  refine (of_any (c := 1) (keys_one w s) (by simp) (by simp) (fun k hk => by rw [List.mem_singleton.1 hk]; exact hs) (hT.keep ((Only.refl [] w).alloc _))).mono ?_
  rintro e w' ⟨rfl, ho⟩
  exact ⟨by simp, ((Only.refl [] w).alloc _).trans ho (by simp)⟩

def by4 (v : Nat) : Nat → Value
  | 0 => .int .u8 ((v % 256 : Nat) : Int)
  | 1 => .int .u8 ((v / 256 % 256 : Nat) : Int)
  | 2 => .int .u8 ((v / 65536 % 256 : Nat) : Int)
  | _ => .int .u8 ((v / 16777216 % 256 : Nat) : Int)
def sh8 (v : Nat) : Nat → Nat
  | 0 => v
  | 1 => v / 256
  | 2 => v / 65536
  | 3 => v / 16777216
  | _ => 0
def row4 (v i : Nat) : Array Value := #[if 0 < i then by4 v 0 else .int .u8 0, if 1 < i then by4 v 1 else .int .u8 0, if 2 < i then by4 v 2 else .int .u8 0, if 3 < i then by4 v 3 else .int .u8 0]
theorem row4_at (v i : Nat) : (row4 v i)[i]? = if i < 4 then some (.int .u8 0) else none := by
  match i with
  | 0 => rfl
  | 1 => rfl
  | 2 => rfl
  | 3 => rfl
  | i + 4 => rw [if_neg (by omega)]; exact Array.getElem?_eq_none (by simp [row4])
theorem row4_set {v i : Nat} (h : i < 4) : (row4 v i).setIfInBounds i (by4 v i) = row4 v (i + 1) := by
  match i, h with
  | 0, _ => rfl
  | 1, _ => rfl
  | 2, _ => rfl
  | 3, _ => rfl
theorem row4_conv {w : World} {g v : Nat} (h : w.heap[g]? = some (.cells (row4 v 4) 95)) : (convert 45 9 (.slice (some ⟨g, 0, none⟩) 4 4)).run Tryz.prog w = .ok (.string (sumB v)) w := by
  refine run_convert_bytes_back _ 45 9 5 ⟨g, 0, none⟩ 4 [UInt8.ofNat v, UInt8.ofNat (v / 256), UInt8.ofNat (v / 65536), UInt8.ofNat (v / 16777216)] Tryz.underlying45 Tryz.underlying5 Tryz.underlying9 (Lib.bytes_of_row h ?_)
  simp [Lib.byteCells, row4, by4]
theorem sh8_step {v i : Nat} (hv : v < 4294967296) (h : i < 4) : ((sh8 v i : Nat) : Int) / 256 = ((sh8 v (i + 1) : Nat) : Int) ∧ Value.int .u8 (((sh8 v i : Nat) : Int) % 256) = by4 v i := by
  match i, h with
  | 0, _ => exact ⟨by simp only [sh8]; omega, by simp only [sh8, by4]; rfl⟩
  | 1, _ => exact ⟨by simp only [sh8]; omega, by simp only [sh8, by4]; rfl⟩
  | 2, _ => exact ⟨by simp only [sh8]; omega, by simp only [sh8, by4]; rfl⟩
  | 3, _ => exact ⟨by simp only [sh8]; omega, by simp only [sh8, by4]; rfl⟩
set_option maxHeartbeats 4000000 in
theorem tail_any (s : ByteArray) (hs : s.size ≤ 1099511627776) (w : World) (hT : Tab w) : Calls Tryz.prog 40 #[.string s] w fun e w' => e = .returned (.string (sumB (ofN (bt s)))) ∧ Only [] w w' := by
  have o0 : Only [] w (w.alloc (.cells #[.int .u8 0, .int .u8 0, .int .u8 0, .int .u8 0] 95)) := (Only.refl [] w).alloc _
  have hO := of_any1 (w.alloc (.cells #[.int .u8 0, .int .u8 0, .int .u8 0, .int .u8 0] 95)) s hs (hT.keep o0)
  rw [show (w.alloc (.cells #[.int .u8 0, .int .u8 0, .int .u8 0, .int .u8 0] 95)).heap.size = w.heap.size + 1 by simp] at hO
  have hOH := Lib.hid hO
  have hv := Lib.hid (ofN_lt (bt_lt s))
  have hnew := Lib.hid (heap_alloc_new w (.cells #[.int .u8 0, .int .u8 0, .int .u8 0, .int .u8 0] 95))
  have o0H := Lib.hid o0
  clear hO o0
  generalize ofN (bt s) = v at *
  clear hT hs
  go_enter Tryz.func40, Tryz.ntmps40
  go_wp2_with (go_at_call 53; (with_reducible refine (hOH.out).mono ?_); rintro e w1 ⟨rfl, o1⟩; have hblk : Hid (w1.heap[w.heap.size]? = some (.cells (row4 v 0) 95)) := Lib.hid (o1.keep hnew.out (by simp)); have o1H := Lib.hid (o0H.out.trans o1 (by simp)); clear o1 hOH)
  go_loopw [4, 9] (fun s4 s9 wr => ∃ i : Nat, i ≤ 4 ∧ s9 = .int .i64 i ∧ s4 = .int .u32 (sh8 v i : Nat) ∧ Hid (wr.heap[w.heap.size]? = some (.cells (row4 v i) 95)) ∧ Hid (Only [] w wr)) (fun _ s9 _ => 4 - (intOf s9).toNat)
  case atStart => exact ⟨0, by omega, rfl, rfl, hblk, o1H⟩
  case round =>
    obtain ⟨i, hi, rfl, rfl, hb, hon⟩ := hrel
    by_cases hil : i < 4
    · have hce : wr.cell? ⟨w.heap.size, i, none⟩ = some (.int .u8 0) := by
        rw [Lib.cell_of_heap hb.out i, row4_at, if_pos hil]
      have hfz : wr.frozen? ⟨w.heap.size, i, none⟩ = false := by simp [World.frozen?, hb.out]
      obtain ⟨hs1, hs2⟩ := sh8_step hv.out hil
      have hs2H := Lib.hid hs2
      have hs1H := Lib.hid hs1
      have hwk := wrap_small (x := (i : Int) + 1) (by omega)
      have hilH := Lib.hid hil
      have hlt : decide ((i : Int) < 4) = true := decide_eq_true (by omega)
      clear hs1 hs2
      go_wp2_with fail
      rw [hs1H.out, hs2H.out]
      refine ⟨⟨i + 1, by have := hilH.out; omega, by go_num, rfl, Lib.hid ?_, Lib.hid (hon.out.set (p := ⟨w.heap.size, i, none⟩) (Or.inr (Nat.le_refl _)) _)⟩, by have := hilH.out; simp [intOf]; omega⟩
      rw [Joins.block_setCell hb.out, row4_set hilH.out]
    · have hi4 : i = 4 := by omega
      subst hi4
      have hcv := row4_conv hb.out
      clear hil
      go_wp2_with fail
      go_ret
      exact ⟨rfl, hon.out⟩
theorem seal_any (s : ByteArray) (hs : s.size ≤ 1099511627776) (w : World) (hT : Tab w) : Calls Tryz.prog 21 #[.string s] w fun e w' => e = .returned (.string (sealB s)) ∧ Only [] w w' := by
  have hO := Lib.hid (tail_any s hs w hT)
  unfold sealB
  have hz : Hid (∀ v, (sumB v).size = 4) := Lib.hid (fun _ => rfl)
  generalize ofN (bt s) = v at *
  have hz4 := hz.out v
  generalize sumB v = t at *
  have hb : s.size + t.size ≤ 9223372036854775807 := by omega
  clear hz hz4
  go_enter Tryz.func21, Tryz.ntmps21
  go_wp2_with (go_at_call 40; (with_reducible refine (hO.out).mono ?_); rintro e w1 ⟨rfl, o1⟩; have o1H := Lib.hid o1; clear o1)
  go_ret
  exact ⟨rfl, o1H.out⟩
theorem fits_tail {s : ByteArray} (h4 : 4 ≤ s.size) : fitsB s = ((s.extract (s.size - 4) s.size).toList == (sumB (ofN (bt (s.extract 0 (s.size - 4))))).toList) := by
  have hsplit : s = s.extract 0 (s.size - 4) ++ s.extract (s.size - 4) s.size := by
    rw [ByteArray.extract_append_extract]
    simp
  unfold fitsB sealB
  rw [decide_eq_true h4, Bool.true_and]
  obtain ⟨p, hp⟩ : ∃ p, p = s.extract 0 (s.size - 4) := ⟨_, rfl⟩
  obtain ⟨q, hq⟩ : ∃ q, q = s.extract (s.size - 4) s.size := ⟨_, rfl⟩
  rw [← hp, ← hq] at hsplit ⊢
  rw [hsplit, Lib.toList_data, Lib.toList_data, Lib.toList_data, Lib.toList_data]
  rw [Bool.eq_iff_iff]
  simp only [beq_iff_eq, ByteArray.data_append, Array.toList_append, List.append_cancel_left_eq]
  exact eq_comm
set_option maxHeartbeats 4000000 in
theorem fits_any (s : ByteArray) (hs : s.size ≤ 1099511627776) (w : World) (hT : Tab w) : Calls Tryz.prog 30 #[.string s] w fun e w' => e = .returned (.bool (fitsB s)) ∧ Only [] w w' := by
  by_cases h4 : 4 ≤ s.size
  · have hw4 := wrap_small (x := (s.size : Int) - 4) (by omega)
    have hfb := fits_tail h4
    obtain ⟨k, hk⟩ : ∃ k, k = s.size - 4 := ⟨_, rfl⟩
    rw [← hk] at hfb
    rw [hfb]
    have hki : (s.size : Int) - 4 = (k : Int) := by omega
    have hS := Lib.hid (fun W (hW : Hid (Only [] w W)) => tail_any (s.extract 0 k) (by simp; omega) W (hT.keep hW.out))
    have h0 : Hid (Only [] w w.drew) := Lib.hid ((Only.refl [] w).drew)
    have hJ : Hid (∀ a b, Hid (Only [] w a) → Only [] a b → Hid (Only [] w b)) := Lib.hid (fun a b x y => Lib.hid (x.out.trans y (by simp)))
    have hks : k ≤ s.size := by omega
    have hksi : (k : Int) ≤ (s.size : Int) := by omega
    clear hfb hT hk
    go_enter Tryz.func30, Tryz.ntmps30
    go_upto_region 2 with fail
    have hd : decide ((0 : Int) ≤ (k : Int)) = true := decide_eq_true (by omega)
    have hd2 : (0 : Int) ≤ (k : Int) := by omega
    clear hki hw4 h4 hs
    go_region_held3 (fun w' => Hid (Only [] w w')) (first | exact h0 | assumption | exact hJ.out _ _ (by assumption) (by assumption))
      (first
      | (go_at_call 40; (with_reducible refine (hS.out _ (by assumption)).mono ?_); rintro e w1 ⟨rfl, o1⟩))
    all_goals go_wp2_with fail
    all_goals go_ret
    all_goals exact ⟨rfl, (h0.out.trans o1 (by simp))⟩
  · obtain ⟨z, hz⟩ : ∃ z, z = (s.size : Int) - 4 := ⟨_, rfl⟩
    have hd : decide ((0 : Int) ≤ z) = false := decide_eq_false (by omega)
    have hfb : fitsB s = false := by unfold fitsB; rw [decide_eq_false h4]; rfl
    have hw4 := wrap_small (x := (s.size : Int) - 4) (by omega)
    rw [← hz] at hw4
    have hki : (s.size : Int) - 4 = z := hz.symm
    rw [hfb]
    clear hfb hT hz
    go_enter Tryz.func30, Tryz.ntmps30
    go_upto_region 2 with fail
    clear hki hw4 h4 hs
    go_quiet (fail)
    go_wp2_with fail
    go_ret
    exact ⟨rfl, (Only.refl _ _).drewN _⟩
end Go.Proofs.YtjidopgohdlfdaaGreatDoor.C14

/-
  The law Bursts: what is sealed, and spoilt by a burst of 32 bits, does not fit. No condition but the lengths that Go's own strings have.
-/
namespace Go.Proofs.YtjidopgohdlfdaaGreatDoor.C14
open Go.RowKit

/-- A row of bytes in memory, with room behind. -/
def RowB (w : World) (g m : Nat) (r : List Nat) : Prop := ∃ C : Array Value, w.heap[g]? = some (.cells C 5 (m, m + 1)) ∧ C.size = m ∧ r.length ≤ m ∧ ∀ (j x : Nat), r[j]? = some x → C[j]? = some (.int .u8 (x : Int))
theorem RowB.cell {w : World} {g m : Nat} {r : List Nat} (h : RowB w g m r) {j : Nat} (hj : j < r.length) : w.cell? ⟨g, j, none⟩ = some (.int .u8 (r.getD j 0 : Nat)) ∧ w.frozen? ⟨g, j, none⟩ = false := by
  obtain ⟨C, h1, h2, h3, h4⟩ := h
  refine ⟨(Lib.cell_of_heap h1 j).trans ?_, ?_⟩
  · rw [h4 j r[j] (List.getElem?_eq_getElem hj), List.getD_eq_getElem?_getD, List.getElem?_eq_getElem hj]
    rfl
  · simp [World.frozen?, h1]
    omega
theorem RowB.set {w : World} {g m : Nat} {r : List Nat} (h : RowB w g m r) (j x : Nat) : RowB (w.setCell ⟨g, j, none⟩ (.int .u8 (x : Int))) g m (r.set j x) := by
  obtain ⟨C, h1, h2, h3, h4⟩ := h
  refine ⟨C.setIfInBounds j (.int .u8 (x : Int)), Joins.block_setCell h1 _, by rw [Array.size_setIfInBounds]; exact h2, by rw [List.length_set]; exact h3, fun i y hy => ?_⟩
  rw [Array.getElem?_setIfInBounds]
  by_cases e : j = i
  · subst e
    have hj : j < r.length := by
      have := (List.getElem?_eq_some_iff.1 hy).1
      rwa [List.length_set] at this
    rw [List.getElem?_set_self hj] at hy
    cases hy
    rw [if_pos rfl, if_pos (by omega)]
  · rw [List.getElem?_set_ne e] at hy
    rw [if_neg e]
    exact h4 i y hy
theorem shr_nat (x i : Nat) : ((x : Int) / 2 ^ i) = ((x / 2 ^ i : Nat) : Int) := by
  rw [Int.natCast_ediv, Int.natCast_pow]
  rfl
theorem bit_and {x i : Nat} (h : x < 4294967296) : bits .and .u32 ((x : Int) / 2 ^ i) 1 = ((x / 2 ^ i % 2 : Nat) : Int) := by
  rw [shr_nat]
  exact and_one (Nat.lt_of_le_of_lt (Nat.div_le_self _ _) h)
theorem xor_u8 {a b : Nat} (ha : a < 256) (hb : b < 256) : bits .xor .u8 (a : Int) (b : Int) = ((a ^^^ b : Nat) : Int) := by
  have hx : a ^^^ b < 256 := Nat.xor_lt_two_pow (n := 8) ha hb
  have h1 : (BitVec.ofInt 8 (a : Int)).toNat = a := by
    rw [BitVec.ofInt_natCast, BitVec.toNat_ofNat]; exact Nat.mod_eq_of_lt (by omega)
  have h2 : (BitVec.ofInt 8 (b : Int)).toNat = b := by
    rw [BitVec.ofInt_natCast, BitVec.toNat_ofNat]; exact Nat.mod_eq_of_lt (by omega)
  show IntKind.u8.wrap ((BitVec.ofInt 8 (a : Int) ^^^ BitVec.ofInt 8 (b : Int)).toNat : Int) = _
  rw [BitVec.toNat_xor, h1, h2, wrap_u8]
  omega
theorem run_ixB (g k n cap : Nat) (hk : k < n) (w : World) : Sem.run Tryz.prog (Instr.indexAt 45 (.slice (some ⟨g, 0, none⟩) n cap) (.int .i64 (k : Int))) w = .ok (.pointer (some ⟨g, k, none⟩)) w := by
  go_simp
theorem RowB.text {w : World} {g m : Nat} {r : List Nat} (h : RowB w g m r) (hr : ∀ x ∈ r, x < 256) (cap : Nat) : ∃ t : ByteArray, bt t = r ∧ (convert 45 9 (.slice (some ⟨g, 0, none⟩) r.length cap)).run Tryz.prog w = .ok (.string t) w := by
  obtain ⟨C, h1, h2, h3, h4⟩ := h
  have hb : ∀ x ∈ r, (UInt8.ofNat x).toNat = x := fun x hx => by
    have := hr x hx
    simp
    omega
  refine ⟨⟨(r.map UInt8.ofNat).toArray⟩, ?_, ?_⟩
  · unfold bt
    simp only [List.map_map]
    conv => rhs; rw [← List.map_id r]
    exact List.map_congr_left (fun x hx => hb x hx)
  · have hl : (r.map UInt8.ofNat).length = r.length := List.length_map ..
    have := run_convert_bytes_back (P := Tryz.prog) w 45 9 5 ⟨g, 0, none⟩ cap (r.map UInt8.ofNat) Tryz.underlying45 Tryz.underlying5 Tryz.underlying9 (Lib.bytes_of_row h1 (by
      rw [hl]
      unfold Lib.byteCells
      rw [List.map_map]
      apply List.ext_getElem?
      intro j
      rw [List.getElem?_take, List.getElem?_map]
      by_cases hj : j < r.length
      · rw [if_pos hj, List.getElem?_eq_getElem hj, Array.getElem?_toList, h4 j r[j] (List.getElem?_eq_getElem hj)]
        simp only [Option.map_some, Function.comp]
        rw [hb _ (List.getElem_mem hj)]
      · rw [if_neg hj, List.getElem?_eq_none (by omega)]
        rfl))
    rwa [hl] at this
end Go.Proofs.YtjidopgohdlfdaaGreatDoor.C14
