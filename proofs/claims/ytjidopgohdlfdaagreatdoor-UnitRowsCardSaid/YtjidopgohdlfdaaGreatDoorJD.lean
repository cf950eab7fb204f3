/-
  Plain mathematics of units, no program in it: a unit's bytes ('putU'), the unit with which bytes begin ('takeU'), units one behind the other ('allU'): what is put is taken, whatever stands behind; cut off it is none; spoilt by a burst behind its length it is none; what is taken is put so. No condition.
-/
import Derived.Test.YtjidopgohdlfdaaGreatDoorPMathC
import Derived.Test.YtjidopgohdlfdaaGreatDoorJA
import Derived.Test.YtjidopgohdlfdaaGreatDoorJB
import Derived.StillTailTactics
import Derived.BigRegion
import Derived.Deep.CutBlock
import Derived.Test.YtjidopgohdlfdaaGreatDoorJC
import Derived.Deep.RegionHeld3
import Derived.Test.YtjidopgohdlfdaaGreatDoorJJ

namespace Go.Proofs.YtjidopgohdlfdaaGreatDoor.Un
open Go.Lib Dec Pq C14

/-- A unit: its commands, each one its arguments' bytes. -/
abbrev U := List (List (List UInt8))
def loadU (u : U) : List UInt8 := u.flatMap putF
def mayU (u : U) : Bool := decide (1 ≤ u.length ∧ u.length ≤ 4096) && u.all (fun c => decide (1 ≤ c.length ∧ c.length ≤ 65536) && c.all (fun a => decide (a.length ≤ 1048576)))
def sumL (l : List UInt8) : List UInt8 := (sumB (ofN (l.map UInt8.toNat))).data.toList
def sealL (l : List UInt8) : List UInt8 := l ++ sumL l
def lenL (n : Nat) : List UInt8 := [85, UInt8.ofNat n, UInt8.ofNat (n / 256), UInt8.ofNat (n / 65536), 0]
def bytesU (u : U) : List UInt8 := sealL (lenL (loadU u).length ++ loadU u)
def putU (u : U) : Sum Int (List UInt8) := if mayU u = false then .inl 1 else if 4194304 < (loadU u).length then .inl 6 else .inr (bytesU u)
def len4 : List UInt8 → Nat
  | _ :: a :: b :: c :: d :: _ => a.toNat + 256 * (b.toNat + 256 * (c.toNat + 256 * d.toNat))
  | _ => 0
def reqsU (b : List UInt8) : U := (feedF 65536 1048576 1 (Inp.none b)).2.map (·.1)
def bodyAt (s : List UInt8) : List UInt8 := (s.take (len4 s + 5)).drop 5
def takeU (s : List UInt8) : Sum Int (U × Nat) :=
  if s = [] then .inl 4 else if s.head? ≠ some 85 then .inl 5 else if s.length < 5 then .inl 4 else if 4194304 < len4 s then .inl 6
  else if s.length < len4 s + 9 then .inl 4 else if sealL (s.take (len4 s + 5)) ≠ s.take (len4 s + 9) then .inl 14
  else if mayU (reqsU (bodyAt s)) = true ∧ loadU (reqsU (bodyAt s)) = bodyAt s then .inr (reqsU (bodyAt s), len4 s + 9) else .inl 5
def allG : Nat → List UInt8 → List U × Nat
  | 0, _ => ([], 0)
  | f + 1, s => match takeU s with
    | .inl _ => ([], 0)
    | .inr (u, n) => (u :: (allG f (s.drop n)).1, n + (allG f (s.drop n)).2)
def allU (s : List UInt8) : List U × Nat := allG (s.length + 1) s

theorem sumL_len (l : List UInt8) : (sumL l).length = 4 := rfl
theorem sealL_len (l : List UInt8) : (sealL l).length = l.length + 4 := by unfold sealL; rw [List.length_append, sumL_len]
theorem lenL_len (n : Nat) : (lenL n).length = 5 := rfl
theorem bytesU_len (u : U) : (bytesU u).length = (loadU u).length + 9 := by unfold bytesU; rw [sealL_len, List.length_append, lenL_len]; omega
theorem may_parts {u : U} (h : mayU u = true) : 1 ≤ u.length ∧ u.length ≤ 4096 ∧ ∀ c ∈ u, c ≠ [] ∧ c.length ≤ 65536 ∧ ∀ a ∈ c, a.length ≤ 1048576 := by
  unfold mayU at h
  rw [Bool.and_eq_true, decide_eq_true_eq, List.all_eq_true] at h
  refine ⟨h.1.1, h.1.2, fun c hc => ?_⟩
  have h2 := h.2 c hc
  rw [Bool.and_eq_true, decide_eq_true_eq, List.all_eq_true] at h2
  exact ⟨fun e => by subst e; simp at h2, h2.1.2, fun a ha => of_decide_eq_true (h2.2 a ha)⟩
theorem load_cons (c : List (List UInt8)) (u : U) : loadU (c :: u) = putF c ++ loadU u := by unfold loadU; rw [List.flatMap_cons]
/-- What is put, is fed back. -/
theorem reqs_load : ∀ (u : U), (∀ c ∈ u, c ≠ [] ∧ c.length ≤ 65536 ∧ ∀ a ∈ c, a.length ≤ 1048576) → reqsU (loadU u) = u
  | [], _ => by
    unfold reqsU
    rw [show loadU [] = [] from rfl, feed_stop (show stepF 65536 1048576 1 (Inp.none []) = .inl (-1) from rfl)]
    rfl
  | c :: u, h => by
    have ih := reqs_load u (fun x hx => h x (List.mem_cons_of_mem _ hx))
    obtain ⟨h0, h1, h2⟩ := h c List.mem_cons_self
    unfold reqsU at ih ⊢
    rw [load_cons, put_ok c (loadU u) h0 h1 (by omega) (fun a ha => ⟨h2 a ha, by have := h2 a ha; omega⟩)]
    simp only [List.map_cons]
    rw [ih]
theorem len4_lenL {n : Nat} (h : n < 16777216) (t : List UInt8) : len4 (lenL n ++ t) = n := by
  unfold lenL len4
  simp only [List.cons_append]
  simp only [UInt8.toNat_ofNat']
  show n % 2 ^ 8 + 256 * (n / 256 % 2 ^ 8 + 256 * (n / 65536 % 2 ^ 8 + 256 * 0)) = n
  omega
/-- The length of what is long enough hangs on its first five bytes alone. -/
theorem len4_take {s : List UInt8} {k : Nat} (hk : 5 ≤ k) : len4 (s.take k) = len4 s := by
  obtain ⟨j, rfl⟩ : ∃ j, k = j + 5 := ⟨k - 5, by omega⟩
  match s with
  | [] => simp
  | [_] => simp [len4]
  | [_, _] => simp [len4]
  | [_, _, _] => simp [len4]
  | [_, _, _, _] => simp [len4]
  | a :: b :: c :: d :: e :: t => simp [len4, List.take_succ_cons]
/-- What begins so, and has a length that is not too long, is that length's bytes and what is behind. -/
theorem lenL_at {s : List UInt8} (h0 : s.head? = some 85) (h5 : 5 ≤ s.length) (hn : len4 s ≤ 4194304) : s.take 5 = lenL (len4 s) := by
  match s with
  | [] => simp at h5
  | [_] => simp at h5
  | [_, _] => simp at h5
  | [_, _, _] => simp at h5
  | [_, _, _, _] => simp at h5
  | a :: b :: c :: d :: e :: t =>
    have ha : a = 85 := by simpa using h0
    have l1 := b.toNat_lt; have l2 := c.toNat_lt; have l3 := d.toNat_lt; have l4 := e.toNat_lt
    have hn : b.toNat + 256 * (c.toNat + 256 * (d.toNat + 256 * e.toNat)) ≤ 4194304 := hn
    have he : e.toNat = 0 := by omega
    unfold len4 lenL
    simp only [List.take_succ_cons, List.take_zero]
    rw [ha]
    have e1 : b = UInt8.ofNat (b.toNat + 256 * (c.toNat + 256 * (d.toNat + 256 * e.toNat))) := UInt8.toNat_inj.1 (by rw [UInt8.toNat_ofNat']; omega)
    have e2 : c = UInt8.ofNat ((b.toNat + 256 * (c.toNat + 256 * (d.toNat + 256 * e.toNat))) / 256) := UInt8.toNat_inj.1 (by rw [UInt8.toNat_ofNat']; omega)
    have e3 : d = UInt8.ofNat ((b.toNat + 256 * (c.toNat + 256 * (d.toNat + 256 * e.toNat))) / 65536) := UInt8.toNat_inj.1 (by rw [UInt8.toNat_ofNat']; omega)
    have e4 : e = 0 := UInt8.toNat_inj.1 (by rw [he]; rfl)
    rw [← e1, ← e2, ← e3, e4]
theorem put_some {u : U} {s : List UInt8} (h : putU u = .inr s) : mayU u = true ∧ (loadU u).length ≤ 4194304 ∧ s = bytesU u := by
  unfold putU at h
  split at h
  · cases h
  · rename_i h1
    split at h
    · cases h
    · rename_i h2
      exact ⟨by simpa using h1, by omega, (Sum.inr.inj h).symm⟩
theorem put_yes {u : U} (h1 : mayU u = true) (h2 : (loadU u).length ≤ 4194304) : putU u = .inr (bytesU u) := by
  unfold putU
  rw [if_neg (by rw [h1]; decide), if_neg (by omega)]
/-- What is put is taken, whatever stands behind. -/
theorem take_put {u : U} {s : List UInt8} (h : putU u = .inr s) (t : List UInt8) : takeU (s ++ t) = .inr (u, s.length) := by
  obtain ⟨h1, h2, rfl⟩ := put_some h
  obtain ⟨_, _, h3⟩ := may_parts h1
  have hl := bytesU_len u
  have es : bytesU u ++ t = lenL (loadU u).length ++ (loadU u ++ (sumL (lenL (loadU u).length ++ loadU u) ++ t)) := by unfold bytesU sealL; simp
  have hn : len4 (bytesU u ++ t) = (loadU u).length := by rw [es]; exact len4_lenL (by omega) _
  have hlen : (bytesU u ++ t).length = (loadU u).length + 9 + t.length := by rw [List.length_append, hl]
  have t5 : (bytesU u ++ t).take ((loadU u).length + 5) = lenL (loadU u).length ++ loadU u := by
    rw [es, ← List.append_assoc]
    exact List.take_left' (by rw [List.length_append, lenL_len]; omega)
  have t9 : (bytesU u ++ t).take ((loadU u).length + 9) = bytesU u := List.take_left' hl
  have hb : bodyAt (bytesU u ++ t) = loadU u := by
    unfold bodyAt
    rw [hn, t5]
    rfl
  unfold takeU
  rw [hb, hn, reqs_load u h3, t5, t9]
  rw [if_neg (fun e => by rw [e, List.length_nil] at hlen; omega), if_neg (by rw [es]; exact fun e => e rfl), if_neg (by omega), if_neg (by omega), if_neg (by omega), if_neg (fun e => e rfl), if_pos ⟨h1, rfl⟩, hl]
/-- What is taken is put so. -/
theorem take_ok {s : List UInt8} {u : U} {n : Nat} (h : takeU s = .inr (u, n)) : putU u = .inr (s.take n) ∧ 9 ≤ n ∧ n ≤ s.length := by
  unfold takeU at h
  split at h
  · cases h
  split at h
  · cases h
  rename_i h85
  split at h
  · cases h
  split at h
  · cases h
  split at h
  · cases h
  split at h
  · cases h
  rename_i hs
  split at h
  · rename_i hm
    obtain ⟨rfl, rfl⟩ := Prod.mk.inj (Sum.inr.inj h)
    have h85' : s.head? = some 85 := Classical.not_not.1 h85
    have hs' := Classical.not_not.1 hs
    have hlb : (bodyAt s).length = len4 s := by unfold bodyAt; rw [List.length_drop, List.length_take]; omega
    have et : s.take (len4 s + 5) = lenL (len4 s) ++ bodyAt s := by
      unfold bodyAt
      rw [← lenL_at h85' (by omega) (by omega)]
      have : s.take 5 = (s.take (len4 s + 5)).take 5 := by rw [List.take_take, Nat.min_eq_left (by omega)]
      rw [this, List.take_append_drop]
    refine ⟨?_, by omega, by omega⟩
    rw [put_yes hm.1 (by rw [hm.2, hlb]; omega)]
    congr 1
    unfold bytesU
    rw [hm.2, hlb, ← et, hs']
  · cases h
/-- What is put, cut off, is none. -/
theorem take_cut {u : U} {s : List UInt8} (h : putU u = .inr s) {k : Nat} (hk : k < s.length) : takeU (s.take k) = .inl 4 := by
  obtain ⟨h1, h2, rfl⟩ := put_some h
  have hl := bytesU_len u
  have es : bytesU u = lenL (loadU u).length ++ (loadU u ++ sumL (lenL (loadU u).length ++ loadU u)) := by unfold bytesU sealL; simp
  have hlk : ((bytesU u).take k).length = k := by rw [List.length_take]; omega
  unfold takeU
  by_cases h0 : k = 0
  · subst h0; rw [List.take_zero, if_pos rfl]
  · have hne : (bytesU u).take k ≠ [] := fun e => by rw [e] at hlk; simp at hlk; omega
    have hh : ((bytesU u).take k).head? = some 85 := by
      rw [es]
      obtain ⟨j, rfl⟩ : ∃ j, k = j + 1 := ⟨k - 1, by omega⟩
      rfl
    rw [if_neg hne, if_neg (fun e => e hh)]
    by_cases h5 : k < 5
    · rw [if_pos (by omega)]
    · have hn : len4 ((bytesU u).take k) = (loadU u).length := by rw [len4_take (by omega), es]; exact len4_lenL (by omega) _
      rw [hn, if_neg (by omega), if_neg (by omega), if_pos (by omega)]
theorem sealL_eq (s : ByteArray) : sealL s.data.toList = (sealB s).data.toList := by
  unfold sealL sealB sumL bt
  rw [show (s ++ sumB (ofN (s.data.toList.map UInt8.toNat))).data.toList = s.data.toList ++ (sumB (ofN (s.data.toList.map UInt8.toNat))).data.toList by simp]
theorem toNat_get (l : List UInt8) (i : Nat) : (l.map UInt8.toNat)[i]? = (l[i]?).map UInt8.toNat := List.getElem?_map
/-- A byte is its bits. -/
theorem byte_bits : ∀ (k x y : Nat), x < 2 ^ k → y < 2 ^ k → (∀ j, j < k → x / 2 ^ j % 2 = y / 2 ^ j % 2) → x = y
  | 0, x, y, hx, hy, _ => by simp at hx hy; omega
  | k + 1, x, y, hx, hy, h => by
    have h0 := h 0 (by omega)
    rw [Nat.pow_zero, Nat.div_one, Nat.div_one] at h0
    have := byte_bits k (x / 2) (y / 2) (by rw [Nat.pow_succ] at hx; omega) (by rw [Nat.pow_succ] at hy; omega) (fun j hj => by
      have := h (j + 1) (by omega)
      rw [Nat.pow_succ, Nat.mul_comm, ← Nat.div_div_eq_div_mul, ← Nat.div_div_eq_div_mul] at this
      exact this)
    omega
/-- Bits ahead of a burst are as they were. -/
theorem spoilt_ahead {l r : List Nat} {a mask k : Nat} (h : Spoilt l r a mask 32) (hl : ∀ x ∈ l, x < 256) (hk : 8 * k ≤ a) (hkl : k ≤ l.length) : r.take k = l.take k := by
  refine List.ext_getElem (by rw [List.length_take, List.length_take, h.1]) fun i h1 h2 => ?_
  rw [List.length_take] at h1 h2
  rw [List.getElem_take, List.getElem_take]
  have hi : i < l.length := by omega
  have hi' : i < r.length := by rw [h.1]; exact hi
  refine byte_bits 8 _ _ (h.2.1 _ (List.getElem_mem _)) (hl _ (List.getElem_mem _)) fun j hj => ?_
  have hb := h.2.2 (8 * i + j) (by omega)
  unfold bitAt at hb
  rw [show (8 * i + j) / 8 = i by omega, show (8 * i + j) % 8 = j by omega] at hb
  rw [List.getD_eq_getElem?_getD, List.getD_eq_getElem?_getD, List.getElem?_eq_getElem hi, List.getElem?_eq_getElem hi'] at hb
  simp only [Option.getD_some] at hb
  rw [hb]
  unfold pat
  rw [if_neg (by omega), Nat.xor_zero]
/-- A unit that is spoilt by a burst behind its length is none. -/
theorem take_burst {u : U} {s : List UInt8} (h : putU u = .inr s) {r : List UInt8} {a mask : Nat} (hr : Spoilt (s.map UInt8.toNat) (r.map UInt8.toNat) a mask 32) (h0 : mask ≠ 0) (hm : mask < 4294967296) (ha : 40 ≤ a) (hab : a + 32 ≤ 8 * s.length) : takeU r = .inl 14 := by
  obtain ⟨h1, h2, rfl⟩ := put_some h
  have hl := bytesU_len u
  have es : bytesU u = lenL (loadU u).length ++ (loadU u ++ sumL (lenL (loadU u).length ++ loadU u)) := by unfold bytesU sealL; simp
  have hrl : r.length = (loadU u).length + 9 := by have := hr.1; rw [List.length_map, List.length_map] at this; omega
  have h5 : r.take 5 = (bytesU u).take 5 := by
    have := spoilt_ahead (k := 5) hr (fun x hx => by
      obtain ⟨b, _, rfl⟩ := List.mem_map.1 hx
      exact b.toNat_lt) (by omega) (by rw [List.length_map]; omega)
    rw [← List.map_take, ← List.map_take] at this
    exact (List.map_inj_right (fun a b hab => UInt8.toNat_inj.1 hab)).1 this
  have h5' : r.take 5 = lenL (loadU u).length := by rw [h5, es]; exact List.take_left' rfl
  have hn : len4 r = (loadU u).length := by
    rw [← len4_take (s := r) (Nat.le_refl 5), h5', ← List.append_nil (lenL _)]
    exact len4_lenL (by omega) []
  have hh : r.head? = some 85 := by
    have : (r.take 5).head? = some 85 := by rw [h5']; rfl
    rw [List.head?_take, if_neg (by decide)] at this
    exact this
  have ht : r.take ((loadU u).length + 9) = r := List.take_of_length_le (by omega)
  have hnf : sealL (r.take ((loadU u).length + 5)) ≠ r := by
    intro e
    have hS : bytesU u = (sealB ⟨(lenL (loadU u).length ++ loadU u).toArray⟩).data.toList := by
      rw [← sealL_eq]
      rfl
    have hR : r = (sealB ⟨(r.take ((loadU u).length + 5)).toArray⟩).data.toList := by
      rw [← sealL_eq]
      exact e.symm
    have hf := fits_seal ⟨(r.take ((loadU u).length + 5)).toArray⟩
    have := spoilt_fits (s := ⟨(lenL (loadU u).length ++ loadU u).toArray⟩) (t := sealB ⟨(r.take ((loadU u).length + 5)).toArray⟩) (a := a) (mask := mask) (by
      unfold bt
      rw [← hS, ← hR]
      exact hr) h0 hm (by rw [bt_len, seal_size]; show a + 32 ≤ 8 * ((lenL (loadU u).length ++ loadU u).toArray.size + 4); rw [List.size_toArray, List.length_append, lenL_len]; omega)
    rw [hf] at this
    cases this
  unfold takeU
  rw [hn, ht, if_neg (fun e => by rw [e] at hrl; simp at hrl), if_neg (fun e => e hh), if_neg (by omega), if_neg (by omega), if_neg (by omega), if_pos hnf]
/-! ### Units one behind the other -/
theorem all_fuel : ∀ (f g : Nat) (s : List UInt8), s.length < f → s.length < g → allG f s = allG g s
  | 0, _, _, h, _ => by omega
  | _ + 1, 0, _, _, h => by omega
  | f + 1, g + 1, s, h1, h2 => by
    rw [allG, allG]
    cases ht : takeU s with
    | inl e => rfl
    | inr p =>
      obtain ⟨u, n⟩ := p
      obtain ⟨_, h9, hn⟩ := take_ok ht
      simp only []
      rw [all_fuel f g (s.drop n) (by rw [List.length_drop]; omega) (by rw [List.length_drop]; omega)]
theorem all_none {s : List UInt8} {e : Int} (h : takeU s = .inl e) : allU s = ([], 0) := by
  unfold allU
  rw [allG, h]
theorem all_some {s : List UInt8} {u : U} {n : Nat} (h : takeU s = .inr (u, n)) : allU s = (u :: (allU (s.drop n)).1, n + (allU (s.drop n)).2) := by
  obtain ⟨_, h9, hn⟩ := take_ok h
  unfold allU
  rw [allG, h]
  simp only []
  rw [all_fuel s.length ((s.drop n).length + 1) (s.drop n) (by rw [List.length_drop]; omega) (by omega)]
/-- Whatever is put, one behind the other: all are taken, and what is behind. -/
theorem all_puts : ∀ (us : List U) (ss : List (List UInt8)), us.map putU = ss.map Sum.inr → ∀ t, allU (ss.flatten ++ t) = (us ++ (allU t).1, ss.flatten.length + (allU t).2)
  | [], [], _, t => by simp
  | [], _ :: _, h, _ => by simp at h
  | _ :: _, [], h, _ => by simp at h
  | u :: us, s :: ss, h, t => by
    rw [List.map_cons, List.map_cons] at h
    obtain ⟨h1, h2⟩ := List.cons.inj h
    have ih := all_puts us ss h2 t
    rw [List.flatten_cons, List.append_assoc, all_some (take_put h1 _), List.drop_left, ih]
    simp only [List.cons_append, List.length_append, Nat.add_assoc]
/-- What is taken is put so, byte for byte. -/
theorem all_ok : ∀ (n : Nat) (s : List UInt8), s.length < n → (allU s).2 ≤ s.length ∧ ∃ ss : List (List UInt8), (allU s).1.map putU = ss.map Sum.inr ∧ ss.flatten = s.take (allU s).2
  | 0, _, h => by omega
  | n + 1, s, h => by
    cases ht : takeU s with
    | inl e => rw [all_none ht]; exact ⟨Nat.zero_le _, [], rfl, by simp⟩
    | inr p =>
      obtain ⟨u, m⟩ := p
      obtain ⟨h1, h9, hm⟩ := take_ok ht
      obtain ⟨i1, ss, i2, i3⟩ := all_ok n (s.drop m) (by rw [List.length_drop]; omega)
      rw [all_some ht]
      rw [List.length_drop] at i1
      refine ⟨by simp only []; omega, s.take m :: ss, by rw [List.map_cons, List.map_cons, h1, i2], ?_⟩
      rw [List.flatten_cons, i3]
      exact (List.take_add ..).symm
end Go.Proofs.YtjidopgohdlfdaaGreatDoor.Un

/-
  Units in memory, and the walks of the reference's May and Weight. Premises: the unit lies in memory, and its lengths are Go's own.
-/
namespace Go.Proofs.YtjidopgohdlfdaaGreatDoor
open Go.RowKit Dec Pq S4 Un

/-- A unit as texts; its bytes as the mathematics has them. -/
abbrev UM := List (List ByteArray)
def uu (u : UM) : U := u.map txt
def CmdsAt (W : World) (A : Option Addr) (u : UM) : Prop := ∀ i ss, u[i]? = some ss → ∃ a, A = some a ∧ a.block < W.heap.size ∧ ∃ Ai ci, W.cell? (a.add i) = some (.slice Ai ss.length ci) ∧ SOk W Tr Ai ss
theorem run_ixK (a : Addr) (k n c : Nat) (hk : k < n) (w : World) : Sem.run Tryz.prog (Instr.indexAt 49 (.slice (some a) n c) (.int .i64 (k : Int))) w = .ok (.pointer (some (a.add k))) w := by
  go_simp
theorem CmdsAt.on {W W' : World} {A : Option Addr} {u : UM} (h : CmdsAt W A u) (hb : Below W.heap.size W W') : CmdsAt W' A u := fun i ss hi => by
  obtain ⟨a, h1, h2, Ai, ci, h3, h4⟩ := h i ss hi
  exact ⟨a, h1, Nat.lt_of_lt_of_le h2 hb.size, Ai, ci, (hb.cell (p := a.add i) (by rw [block_of_add]; exact h2)).trans h3, h4.on hb⟩
theorem run_ixC (a : Addr) (k n c : Nat) (hk : k < n) (w : World) : Sem.run Tryz.prog (Instr.indexAt 22 (.slice (some a) n c) (.int .i64 (k : Int))) w = .ok (.pointer (some (a.add k))) w := by
  go_simp
def mayC (ss : List ByteArray) : Bool := decide (1 ≤ ss.length) && decide (ss.length ≤ 65536) && ss.all (fun x => decide (x.size ≤ 1048576))
def mayB (u : UM) : Bool := decide (1 ≤ u.length) && decide (u.length ≤ 4096) && u.all mayC
theorem may_uu (u : UM) : mayU (uu u) = mayB u := by
  unfold mayU mayB uu mayC txt
  rw [List.length_map, List.all_map]
  congr 1
  · simp
  · congr 1
    funext ss
    simp [Function.comp, List.all_map]
    congr 1

theorem one_box {w : World} {cs : Array Value} {t : TypeId} : Below w.heap.size w (w.alloc (.cells cs t)) := (Below.refl _ _).alloc (Nat.le_refl _) _
set_option maxRecDepth 100000 in
set_option maxHeartbeats 4000000 in
theorem rmay_any {w : World} {A : Option Addr} {c : Nat} {u : UM} (h : CmdsAt w A u) (hl : u.length ≤ 140737488355328) (hs : ∀ ss ∈ u, ss.length ≤ 140737488355328) :
    Calls Tryz.prog 23 #[.agg #[.slice A u.length c]] w fun e w' => e = .returned (.bool (mayB u)) ∧ Below w.heap.size w w' := by
  have hH := Lib.hid (h.on (W' := w.alloc (.cells #[.slice A u.length c] 24)) one_box)
  have hsH := Lib.hid hs
  obtain ⟨T, hT⟩ : ∃ T, mayB u = T := ⟨_, rfl⟩
  rw [hT]
  have hTH := Lib.hid hT
  clear h hs hT
  by_cases h1 : u.length < 1
  · have d1 : decide ((u.length : Int) < 1) = true := decide_eq_true (by omega)
    have d2 : decide (u.length < 1) = true := decide_eq_true h1
    have e : Hid (T = false) := Lib.hid (by rw [← hTH.out]; unfold mayB; rw [decide_eq_false (by omega)]; rfl)
    clear h1
    go_enter Tryz.func23, Tryz.ntmps23
    go_wp2_with fail
    go_ret
    exact ⟨ret_bool e.out.symm, one_box⟩
  by_cases h2 : 4096 < u.length
  · have d1 : decide ((u.length : Int) < 1) = false := decide_eq_false (by omega)
    have d2 : decide (u.length < 1) = false := decide_eq_false h1
    have d3 : decide ((4096 : Int) < (u.length : Int)) = true := decide_eq_true (by omega)
    have d4 : decide (4096 < u.length) = true := decide_eq_true h2
    have e : Hid (T = false) := Lib.hid (by rw [← hTH.out]; unfold mayB; rw [decide_eq_false (p := u.length ≤ 4096) (by omega), Bool.and_false]; rfl)
    clear h1 h2
    go_enter Tryz.func23, Tryz.ntmps23
    go_wp2_with fail
    go_ret
    exact ⟨ret_bool e.out.symm, one_box⟩
  have hT : Hid (u.all mayC = T) := Lib.hid (by rw [← hTH.out]; unfold mayB; rw [decide_eq_true (by omega), decide_eq_true (by omega)]; rfl)
  have d1 : decide ((u.length : Int) < 1) = false := decide_eq_false (by omega)
  have d2 : decide (u.length < 1) = false := decide_eq_false h1
  have d3 : decide ((4096 : Int) < (u.length : Int)) = false := decide_eq_false (by omega)
  have d4 : decide (4096 < u.length) = false := decide_eq_false h2
  have hz := Lib.hid (heap_alloc_new w (.cells #[.slice A u.length c] 24))
  have hb0 : Hid (Below w.heap.size w (w.alloc (.cells #[.slice A u.length c] 24))) := Lib.hid one_box
  have hsz : (w.alloc (.cells #[.slice A u.length c] 24)).heap.size = w.heap.size + 1 := by simp
  clear h1 h2 hTH
  go_enter Tryz.func23, Tryz.ntmps23
  go_wp2_with fail
  clear d1 d2 d3 d4
  generalize (w.alloc (.cells #[.slice A u.length c] 24)) = W at hz hb0 hsz hH ⊢
  have hszH := Lib.hid hsz
  clear hsz
  go_loopw [3] (fun i wr => ∃ k : Nat, k ≤ u.length ∧ i = .int .i64 k ∧ Hid ((u.drop k).all mayC = T) ∧ Hid (Below W.heap.size W wr)) (fun i _ => u.length - (intOf i).toNat)
  case atStart => exact ⟨0, by omega, rfl, hT, Lib.hid (Below.refl _ _)⟩
  case round =>
    clear hT
    obtain ⟨k, hk, rfl, hD, hW⟩ := hrel
    have c0 : wr.cell? ⟨w.heap.size, 0, none⟩ = some (.slice A u.length c) := by
      have := hszH.out
      exact Lib.cell_of_heap ((hW.out.block w.heap.size (by omega)).trans hz.out) 0
    by_cases hlt : k < u.length
    · obtain ⟨ss, hx⟩ : ∃ x, u[k]? = some x := ⟨_, List.getElem?_eq_getElem hlt⟩
      obtain ⟨a, rfl, ha, Ai, ci, hc, hS⟩ := hH.out.on hW.out k ss hx
      have hix := run_ixC a k u.length c hlt
      have hsl := hsH.out ss (List.mem_of_getElem? hx)
      have hSH := Lib.hid hS
      have hN : Hid ((mayC ss && (u.drop (k + 1)).all mayC) = T) := Lib.hid (by
        rw [← hD.out, List.drop_eq_getElem_cons hlt, List.all_cons, ← (List.getElem?_eq_some_iff.1 hx).2])
      have hltH := Lib.hid hlt
      have dk : decide ((k : Int) < (u.length : Int)) = true := decide_eq_true (by omega)
      have dk2 : decide (k < u.length) = true := decide_eq_true hlt
      clear hx hD hlt hS
      by_cases h1 : ss.length < 1
      · have d1 : decide ((ss.length : Int) < 1) = true := decide_eq_true (by omega)
        have d2 : decide (ss.length < 1) = true := decide_eq_true h1
        have e : Hid (T = false) := Lib.hid (by rw [← hN.out]; unfold mayC; rw [decide_eq_false (by omega)]; rfl)
        clear h1
        go_wp2_with fail
        go_ret
        exact ⟨ret_bool e.out.symm, hb0.out.trans (hW.out.mono hb0.out.size)⟩
      by_cases h2 : 65536 < ss.length
      · have d1 : decide ((ss.length : Int) < 1) = false := decide_eq_false (by omega)
        have d2 : decide (ss.length < 1) = false := decide_eq_false h1
        have d3 : decide ((65536 : Int) < (ss.length : Int)) = true := decide_eq_true (by omega)
        have d4 : decide (65536 < ss.length) = true := decide_eq_true h2
        have e : Hid (T = false) := Lib.hid (by rw [← hN.out]; unfold mayC; rw [decide_eq_false (p := ss.length ≤ 65536) (by omega), Bool.and_false]; rfl)
        clear h1 h2
        go_wp2_with fail
        go_ret
        exact ⟨ret_bool e.out.symm, hb0.out.trans (hW.out.mono hb0.out.size)⟩
      have hC : Hid (mayC ss = ss.all (fun x => decide (x.size ≤ 1048576))) := Lib.hid (by unfold mayC; rw [decide_eq_true (by omega), decide_eq_true (by omega)]; rfl)
      have d1 : decide ((ss.length : Int) < 1) = false := decide_eq_false (by omega)
      have d2 : decide (ss.length < 1) = false := decide_eq_false h1
      have d3 : decide ((65536 : Int) < (ss.length : Int)) = false := decide_eq_false (by omega)
      have d4 : decide (65536 < ss.length) = false := decide_eq_false h2
      clear h1 h2
      go_wp2_with fail
      clear d1 d2 d3 d4 dk dk2 hix c0
      go_loopw [5] (fun i wq => ∃ j : Nat, j ≤ ss.length ∧ i = .int .i64 j ∧ Hid ((ss.drop j).all (fun x => decide (x.size ≤ 1048576)) = mayC ss) ∧ Hid (Below wr.heap.size wr wq)) (fun i _ => ss.length - (intOf i).toNat)
      case atStart => exact ⟨0, by omega, rfl, Lib.hid hC.out.symm, Lib.hid (Below.refl _ _)⟩
      case round =>
        clear hC
        obtain ⟨j, hj, rfl, hA, hV⟩ := hrel
        by_cases hjt : j < ss.length
        · obtain ⟨x, hx⟩ : ∃ x, ss[j]? = some x := ⟨_, List.getElem?_eq_getElem hjt⟩
          obtain ⟨b, rfl, _, hbl, hcx⟩ := hSH.out.on hV.out j x hx
          have hix := run_ixK b j ss.length ci hjt
          have hN2 : Hid ((decide (x.size ≤ 1048576) && (ss.drop (j + 1)).all (fun x => decide (x.size ≤ 1048576))) = mayC ss) := Lib.hid (by
            rw [← hA.out, List.drop_eq_getElem_cons hjt, List.all_cons, ← (List.getElem?_eq_some_iff.1 hx).2])
          have hjtH := Lib.hid hjt
          have dk : decide ((j : Int) < (ss.length : Int)) = true := decide_eq_true (by omega)
          have dk2 : decide (j < ss.length) = true := decide_eq_true hjt
          clear hx hA hjt
          by_cases h1 : 1048576 < x.size
          · have d1 : decide ((1048576 : Int) < (x.size : Int)) = true := decide_eq_true (by omega)
            have d2 : decide (1048576 < x.size) = true := decide_eq_true h1
            have e : Hid (T = false) := Lib.hid (by rw [← hN.out, ← hN2.out, decide_eq_false (by omega)]; rfl)
            clear h1
            go_wp2_with fail
            go_ret
            exact ⟨ret_bool e.out.symm, hb0.out.trans ((hW.out.mono hb0.out.size).trans (hV.out.mono (Nat.le_trans hb0.out.size hW.out.size)))⟩
          · have d1 : decide ((1048576 : Int) < (x.size : Int)) = false := decide_eq_false (by omega)
            have d2 : decide (1048576 < x.size) = false := decide_eq_false h1
            have e : Hid (((ss.drop (j + 1)).all (fun x => decide (x.size ≤ 1048576))) = mayC ss) := Lib.hid (by rw [← hN2.out, decide_eq_true (by omega), Bool.true_and])
            clear h1
            go_wp2_with fail
            go_roundw
            case rel => exact ⟨j + 1, by have := hjtH.out; omega, by go_num, e, hV⟩
            case measure => have := hjtH.out; simp [intOf]; omega
        · have dk : decide ((j : Int) < (ss.length : Int)) = false := decide_eq_false (by omega)
          have dk2 : decide (j < ss.length) = false := decide_eq_false hjt
          have e : Hid ((u.drop (k + 1)).all mayC = T) := Lib.hid (by
            rw [← hN.out, ← hA.out, List.drop_of_length_le (l := ss) (i := j) (by omega)]; rfl)
          clear hjt
          go_wp2_with fail
          go_roundw
          case rel => exact ⟨k + 1, by have := hltH.out; omega, by go_num, e, Lib.hid (hW.out.trans (hV.out.mono hW.out.size))⟩
          case measure => have := hltH.out; simp [intOf]; omega
    · have hE : Hid (T = true) := Lib.hid (by rw [← hD.out, List.drop_of_length_le (by omega)]; rfl)
      have dk : decide ((k : Int) < (u.length : Int)) = false := decide_eq_false (by omega)
      have dk2 : decide (k < u.length) = false := decide_eq_false hlt
      clear hlt
      go_wp2_with fail
      go_ret
      exact ⟨ret_bool hE.out.symm, hb0.out.trans (hW.out.mono hb0.out.size)⟩
set_option maxRecDepth 100000 in
set_option maxHeartbeats 4000000 in
theorem rweight_any {w : World} {A : Option Addr} {c : Nat} {u : UM} (h : CmdsAt w A u) (hl : u.length ≤ 140737488355328) (hs : ∀ ss ∈ u, ss.length ≤ 140737488355328) :
    Calls Tryz.prog 19 #[.agg #[.slice A u.length c]] w fun e w' => (∃ m : Int, e = .returned (.int .i64 m)) ∧ Below w.heap.size w w' := by
  have hH := Lib.hid (h.on (W' := w.alloc (.cells #[.slice A u.length c] 24)) one_box)
  have hsH := Lib.hid hs
  have hz := Lib.hid (heap_alloc_new w (.cells #[.slice A u.length c] 24))
  have hb0 : Hid (Below w.heap.size w (w.alloc (.cells #[.slice A u.length c] 24))) := Lib.hid one_box
  have hsz : (w.alloc (.cells #[.slice A u.length c] 24)).heap.size = w.heap.size + 1 := by simp
  clear h hs
  go_enter Tryz.func19, Tryz.ntmps19
  go_wp2_with fail
  generalize (w.alloc (.cells #[.slice A u.length c] 24)) = W at hz hb0 hsz hH ⊢
  have hszH := Lib.hid hsz
  clear hsz
  go_loopw [3, 4] (fun n i wr => ∃ (k : Nat) (m : Int), k ≤ u.length ∧ i = .int .i64 k ∧ n = .int .i64 m ∧ Hid (Below W.heap.size W wr)) (fun _ i _ => u.length - (intOf i).toNat)
  case atStart => exact ⟨0, 0, by omega, rfl, rfl, Lib.hid (Below.refl _ _)⟩
  case round =>
    obtain ⟨k, m, hk, rfl, rfl, hW⟩ := hrel
    have c0 : wr.cell? ⟨w.heap.size, 0, none⟩ = some (.slice A u.length c) := by
      have := hszH.out
      exact Lib.cell_of_heap ((hW.out.block w.heap.size (by omega)).trans hz.out) 0
    by_cases hlt : k < u.length
    · have dk : decide ((k : Int) < (u.length : Int)) = true := decide_eq_true (by omega)
      have dk2 : decide (k < u.length) = true := decide_eq_true hlt
      by_cases hbig : m < 100000
      · obtain ⟨ss, hx⟩ : ∃ x, u[k]? = some x := ⟨_, List.getElem?_eq_getElem hlt⟩
        obtain ⟨a, rfl, ha, Ai, ci, hc, hS⟩ := hH.out.on hW.out k ss hx
        have hix := run_ixC a k u.length c hlt
        have hsl := hsH.out ss (List.mem_of_getElem? hx)
        have hSH := Lib.hid hS
        have hcH := Lib.hid hc
        have c0H := Lib.hid c0
        have hltH := Lib.hid hlt
        have dm : decide (m < 100000) = true := decide_eq_true hbig
        clear hx hlt hS hbig
        go_wp2_with fail
        clear dk dk2 dm c0 hc
        go_loopw [3, 5] (fun n i wq => ∃ (j : Nat) (m2 : Int), j ≤ ss.length ∧ i = .int .i64 j ∧ n = .int .i64 m2 ∧ Hid (Below wr.heap.size wr wq)) (fun _ i _ => ss.length - (intOf i).toNat)
        case atStart => exact ⟨0, _, by omega, rfl, rfl, Lib.hid (Below.refl _ _)⟩
        case round =>
          obtain ⟨j, m2, hj, rfl, rfl, hV⟩ := hrel
          have c1 := (hV.out.cell (p := a.add k) (by rw [block_of_add]; exact ha)).trans hcH.out
          have c2 := (hV.out.cell (p := ⟨w.heap.size, 0, none⟩) (by have h1 := hszH.out; have h2 := hW.out.size; show w.heap.size < _; omega)).trans c0H.out
          by_cases hjt : j < ss.length
          · have dj : decide ((j : Int) < (ss.length : Int)) = true := decide_eq_true (by omega)
            have dj2 : decide (j < ss.length) = true := decide_eq_true hjt
            by_cases hm2 : m2 < 100000
            · have dm : decide (m2 < 100000) = true := decide_eq_true hm2
              obtain ⟨x, hx⟩ : ∃ x, ss[j]? = some x := ⟨_, List.getElem?_eq_getElem hjt⟩
              obtain ⟨b, rfl, _, hbl, hcx⟩ := hSH.out.on hV.out j x hx
              have hix2 := run_ixK b j ss.length ci hjt
              have hjtH := Lib.hid hjt
              clear hx hjt hm2
              go_wp2_with fail
              go_roundw
              case rel => exact ⟨j + 1, _, by have := hjtH.out; omega, by go_num, rfl, hV⟩
              case measure => have := hjtH.out; simp [intOf]; omega
            · have dm : decide (m2 < 100000) = false := decide_eq_false hm2
              clear hjt hm2
              go_wp2_with fail
              go_roundw
              case rel => exact ⟨k + 1, _, by have := hltH.out; omega, by go_num, rfl, Lib.hid (hW.out.trans (hV.out.mono hW.out.size))⟩
              case measure => have := hltH.out; simp [intOf]; omega
          · have dj : decide ((j : Int) < (ss.length : Int)) = false := decide_eq_false (by omega)
            have dj2 : decide (j < ss.length) = false := decide_eq_false hjt
            clear hjt
            go_wp2_with fail
            go_roundw
            case rel => exact ⟨k + 1, _, by have := hltH.out; omega, by go_num, rfl, Lib.hid (hW.out.trans (hV.out.mono hW.out.size))⟩
            case measure => have := hltH.out; simp [intOf]; omega
      · have dm : decide (m < 100000) = false := decide_eq_false hbig
        clear hlt hbig
        go_wp2_with fail
        go_ret
        exact ⟨⟨m, rfl⟩, hb0.out.trans (hW.out.mono hb0.out.size)⟩
    · have dk : decide ((k : Int) < (u.length : Int)) = false := decide_eq_false (by omega)
      have dk2 : decide (k < u.length) = false := decide_eq_false hlt
      clear hlt
      go_wp2_with fail
      go_ret
      exact ⟨⟨m, rfl⟩, hb0.out.trans (hW.out.mono hb0.out.size)⟩
end Go.Proofs.YtjidopgohdlfdaaGreatDoor

/-
  The walks of the reference's Same and SameAll. Premises: the units lie in memory, and their lengths are Go's own.
-/
namespace Go.Proofs.YtjidopgohdlfdaaGreatDoor
open Go.RowKit Dec Pq S4 Un

theorem drop_iff {α : Type} {l m : List α} {k : Nat} {x y : α} (hx : l[k]? = some x) (hy : m[k]? = some y) : l.drop k = m.drop k ↔ x = y ∧ l.drop (k + 1) = m.drop (k + 1) := by
  obtain ⟨h1, rfl⟩ := List.getElem?_eq_some_iff.1 hx
  obtain ⟨h2, rfl⟩ := List.getElem?_eq_some_iff.1 hy
  rw [List.drop_eq_getElem_cons h1, List.drop_eq_getElem_cons h2, List.cons.injEq]
theorem two_box {w : World} {cs ds : Array Value} {t : TypeId} : Below w.heap.size w ((w.alloc (.cells cs t)).alloc (.cells ds t)) := ((Below.refl _ _).alloc (Nat.le_refl _) _).alloc (by simp) _
theorem below_drewN {B : Nat} {w W : World} (h : Below B w W) (n : Nat) : Below B w (W.drewN n) := by
  induction n with
  | zero => exact h
  | succ n ih => exact ih.drew
set_option maxRecDepth 100000 in
set_option maxHeartbeats 4000000 in
theorem rsame15_any {w : World} {A A' : Option Addr} {c c' : Nat} {u v : UM} (h : CmdsAt w A u) (h' : CmdsAt w A' v) (hl : u.length ≤ 140737488355328) (_hl' : v.length ≤ 140737488355328) (hs : ∀ ss ∈ u, ss.length ≤ 140737488355328) (hs' : ∀ ss ∈ v, ss.length ≤ 140737488355328) :
    Calls Tryz.prog 13 #[.agg #[.slice A u.length c], .agg #[.slice A' v.length c']] w fun e w' => e = .returned (.bool (decide (u = v))) ∧ Below w.heap.size w w' := by
  obtain ⟨T, hT⟩ : ∃ T, decide (u = v) = T := ⟨_, rfl⟩
  rw [hT]
  have hTH : Hid (T = true ↔ u = v) := Lib.hid (by rw [← hT]; exact decide_eq_true_iff)
  clear hT
  by_cases hk : u.length = v.length
  case neg =>
    have e : Hid (T = false) := Lib.hid (by
      cases T with
      | false => rfl
      | true => exact absurd (congrArg List.length (hTH.out.1 rfl)) hk)
    have k1 : ((u.length : Int) == (v.length : Int)) = false := by simp; omega
    have k2 : ((u.length : Int) != (v.length : Int)) = true := by simp; omega
    have k3 : (u.length == v.length) = false := by simpa using hk
    have k4 : (u.length != v.length) = true := by simpa using hk
    clear hk
    go_enter Tryz.func13, Tryz.ntmps13
    go_wp2_with fail
    go_ret
    exact ⟨ret_bool e.out.symm, two_box⟩
  have hkH := Lib.hid hk
  have hH := Lib.hid (h.on (W' := (w.alloc (.cells #[.slice A u.length c] 24)).alloc (.cells #[.slice A' u.length c'] 24)) two_box)
  have hH' := Lib.hid (h'.on (W' := (w.alloc (.cells #[.slice A u.length c] 24)).alloc (.cells #[.slice A' u.length c'] 24)) two_box)
  have hsH := Lib.hid hs
  have hsH' := Lib.hid hs'
  have hL := Lib.hid (two_box (w := w) (cs := #[.slice A u.length c]) (ds := #[.slice A' u.length c']) (t := 24))
  have hb1 : Hid (((w.alloc (.cells #[.slice A u.length c] 24)).alloc (.cells #[.slice A' u.length c'] 24)).heap[w.heap.size]? = some (.cells #[.slice A u.length c] 24 (0, 0))) := Lib.hid (by
    rw [Below.heap_alloc _ _ _ (by simp)]; exact heap_alloc_new w _)
  have hb2 : Hid (((w.alloc (.cells #[.slice A u.length c] 24)).alloc (.cells #[.slice A' u.length c'] 24)).heap[w.heap.size + 1]? = some (.cells #[.slice A' u.length c'] 24 (0, 0))) := Lib.hid (by
    have := heap_alloc_new (w.alloc (.cells #[.slice A u.length c] 24)) (.cells #[.slice A' u.length c'] 24)
    simpa using this)
  rw [← hk]
  clear hk h h' hs hs'
  go_enter Tryz.func13, Tryz.ntmps13
  go_wp2_with fail
  generalize ((w.alloc (.cells #[.slice A u.length c] 24)).alloc (.cells #[.slice A' u.length c'] 24)) = W at hL hb1 hb2 hH hH' ⊢
  go_loopw [5] (fun i wr => ∃ k : Nat, i = .int .i64 k ∧ k ≤ u.length ∧ Hid (T = true ↔ u.drop k = v.drop k) ∧ Hid (∃ n, wr = W.drewN n)) (fun i _ => u.length - (intOf i).toNat)
  case atStart => exact ⟨0, rfl, by omega, hTH, Lib.hid ⟨0, rfl⟩⟩
  case round =>
    clear hTH
    obtain ⟨k, rfl, hk, hD, hW⟩ := hrel
    obtain ⟨n, hm⟩ := hW.out
    have c0 : wr.cell? ⟨w.heap.size, 0, none⟩ = some (.slice A u.length c) := by rw [hm]; exact Lib.cell_of_heap hb1.out 0
    have c1 : wr.cell? ⟨w.heap.size + 1, 0, none⟩ = some (.slice A' u.length c') := by rw [hm]; exact Lib.cell_of_heap hb2.out 0
    have hLr : Hid (∀ m, Below w.heap.size w (wr.drewN m)) := Lib.hid (fun m => by rw [hm]; exact below_drewN (below_drewN hL.out _) _)
    have hLz : Hid (Below w.heap.size w wr) := Lib.hid (by rw [hm]; exact below_drewN hL.out _)
    by_cases hlt : k < u.length
    · have hlt' : k < v.length := by have := hkH.out; omega
      obtain ⟨ss, hx⟩ : ∃ x, u[k]? = some x := ⟨_, List.getElem?_eq_getElem hlt⟩
      obtain ⟨tt, hy⟩ : ∃ x, v[k]? = some x := ⟨_, List.getElem?_eq_getElem hlt'⟩
      obtain ⟨a, rfl, ha, Ai, ci, hc, hS⟩ := hH.out k ss hx
      obtain ⟨b, rfl, hb, Bi, di, hd, hS'⟩ := hH'.out k tt hy
      have hix := run_ixC a k u.length c hlt
      have hix' := run_ixC b k u.length c' hlt
      have hsl := hsH.out ss (List.mem_of_getElem? hx)
      have hsl' := hsH'.out tt (List.mem_of_getElem? hy)
      have hSH := Lib.hid hS
      have hSH' := Lib.hid hS'
      have hw0 : wr.cell? (a.add k) = some (.slice Ai ss.length ci) := by rw [hm]; exact hc
      have hw1 : wr.cell? (b.add k) = some (.slice Bi tt.length di) := by rw [hm]; exact hd
      have hN : Hid (T = true ↔ ss = tt ∧ u.drop (k + 1) = v.drop (k + 1)) := Lib.hid (hD.out.trans (drop_iff hx hy))
      have hltH := Lib.hid hlt
      have dk : decide ((k : Int) < (u.length : Int)) = true := decide_eq_true (by omega)
      have dk2 : decide (k < u.length) = true := decide_eq_true hlt
      clear hx hy hD hlt hlt' hS hS' hm
      by_cases hq : ss.length = tt.length
      case neg =>
        have e : Hid (T = false) := Lib.hid (by
          cases T with
          | false => rfl
          | true => exact absurd (congrArg List.length (hN.out.1 rfl).1) hq)
        have k1 : ((ss.length : Int) == (tt.length : Int)) = false := by simp; omega
        have k2 : ((ss.length : Int) != (tt.length : Int)) = true := by simp; omega
        have k3 : (ss.length == tt.length) = false := by simpa using hq
        have k4 : (ss.length != tt.length) = true := by simpa using hq
        clear hq hc hd
        go_wp2_with fail
        go_quiet (fail)
        go_wp2_with fail
        go_ret
        exact ⟨ret_bool e.out.symm, hLr.out _⟩
      have hqH := Lib.hid hq
      rw [← hq] at hw1
      have hcH : Hid (W.cell? (a.add k) = some (.slice Ai ss.length ci)) := Lib.hid hc
      have hdH : Hid (W.cell? (b.add k) = some (.slice Bi ss.length di)) := Lib.hid (by rw [hq]; exact hd)
      clear hc hd
      clear hq
      go_wp2_with fail
      go_quiet (fail)
      go_wp2_with fail
      clear dk dk2 hw0 hw1 c0 c1 hix hix'
      go_loopw [6] (fun i wq => ∃ j : Nat, i = .int .i64 j ∧ j ≤ ss.length ∧ Hid (T = true ↔ ss.drop j = tt.drop j ∧ u.drop (k + 1) = v.drop (k + 1)) ∧ Hid (∃ n, wq = W.drewN n)) (fun i _ => ss.length - (intOf i).toNat)
      case atStart => exact ⟨0, rfl, by omega, hN, Lib.hid (drewN_trans hW.out _)⟩
      case round =>
        clear hN hLr hLz hW
        obtain ⟨j, rfl, hj, hE, hV⟩ := hrel
        obtain ⟨n, hm⟩ := hV.out
        have c0 : wr.cell? ⟨w.heap.size, 0, none⟩ = some (.slice (some a) u.length c) := by rw [hm]; exact Lib.cell_of_heap hb1.out 0
        have c1 : wr.cell? ⟨w.heap.size + 1, 0, none⟩ = some (.slice (some b) u.length c') := by rw [hm]; exact Lib.cell_of_heap hb2.out 0
        have hLr : Hid (∀ m, Below w.heap.size w (wr.drewN m)) := Lib.hid (fun m => by rw [hm]; exact below_drewN (below_drewN hL.out _) _)
        have hw0 : wr.cell? (a.add k) = some (.slice Ai ss.length ci) := by rw [hm]; exact hcH.out
        have hw1 : wr.cell? (b.add k) = some (.slice Bi ss.length di) := by rw [hm]; exact hdH.out
        have hix := run_ixC a k u.length c hltH.out
        have hix' := run_ixC b k u.length c' hltH.out
        by_cases hjt : j < ss.length
        · have hjt' : j < tt.length := by have := hqH.out; omega
          obtain ⟨x, hx⟩ : ∃ x, ss[j]? = some x := ⟨_, List.getElem?_eq_getElem hjt⟩
          obtain ⟨y, hy⟩ : ∃ x, tt[j]? = some x := ⟨_, List.getElem?_eq_getElem hjt'⟩
          obtain ⟨a2, rfl, _, _, hcx⟩ := hSH.out j x hx
          obtain ⟨b2, rfl, _, _, hcy⟩ := hSH'.out j y hy
          have hv0 : wr.cell? (a2.add j) = some (.string x) := by rw [hm]; exact hcx
          have hv1 : wr.cell? (b2.add j) = some (.string y) := by rw [hm]; exact hcy
          have hix2 := run_ixK a2 j ss.length ci hjt
          have hix2' := run_ixK b2 j ss.length di hjt
          have hN : Hid (T = true ↔ (x = y ∧ ss.drop (j + 1) = tt.drop (j + 1)) ∧ u.drop (k + 1) = v.drop (k + 1)) := Lib.hid (by rw [hE.out, drop_iff hx hy])
          have hjtH := Lib.hid hjt
          have dj : decide ((j : Int) < (ss.length : Int)) = true := decide_eq_true (by omega)
          have dj2 : decide (j < ss.length) = true := decide_eq_true hjt
          clear hx hy hE hjt hjt' hcx hcy hm
          by_cases hq : x = y
          case neg =>
            have e : Hid (T = false) := Lib.hid (by
              cases T with
              | false => rfl
              | true => exact absurd (hN.out.1 rfl).1.1 hq)
            have hne : x.toList ≠ y.toList := fun e => hq (bytes_eq (by rw [← Lib.toList_data, ← Lib.toList_data, e]))
            have k1 : (x.toList == y.toList) = false := by simpa using hne
            have k2 : (x.toList != y.toList) = true := by simpa using hne
            clear hq hne
            go_wp2_with fail
            go_quiet (fail)
            go_wp2_with fail
            go_ret
            exact ⟨ret_bool e.out.symm, hLr.out _⟩
          subst hq
          go_wp2_with fail
          go_quiet (fail)
          go_wp2_with fail
          go_roundw
          case rel => exact ⟨j + 1, by go_num, by have := hjtH.out; omega, Lib.hid (by rw [hN.out]; simp), Lib.hid (drewN_trans hV.out _)⟩
          case measure => have := hjtH.out; simp [intOf]; omega
        · have e : Hid (T = true ↔ u.drop (k + 1) = v.drop (k + 1)) := Lib.hid (by
            rw [hE.out, List.drop_of_length_le (l := ss) (i := j) (by omega), List.drop_of_length_le (l := tt) (i := j) (by have := hqH.out; omega)]
            simp)
          have dj : decide ((j : Int) < (ss.length : Int)) = false := decide_eq_false (by omega)
          have dj2 : decide (j < ss.length) = false := decide_eq_false hjt
          clear hjt hm
          go_wp2_with fail
          go_roundw
          case rel => exact ⟨k + 1, by go_num, by have := hltH.out; omega, e, hV⟩
          case measure => have := hltH.out; simp [intOf]; omega
    · have e : Hid (T = true) := Lib.hid (hD.out.2 (by rw [List.drop_of_length_le (by omega), List.drop_of_length_le (by have := hkH.out; omega)]))
      have dk : decide ((k : Int) < (u.length : Int)) = false := decide_eq_false (by omega)
      have dk2 : decide (k < u.length) = false := decide_eq_false hlt
      clear hlt hm hW
      go_wp2_with fail
      go_ret
      exact ⟨ret_bool e.out.symm, hLz.out⟩
end Go.Proofs.YtjidopgohdlfdaaGreatDoor

/-
  Rows of units in memory; the walks of the law's Far and the reference's SameAll. Premises: the units lie in memory, and their lengths are Go's own.
-/
namespace Go.Proofs.YtjidopgohdlfdaaGreatDoor
open Go.RowKit Dec Pq S4 Un

def UnitsAt (W : World) (A : Option Addr) (l : List UM) : Prop := ∀ i u, l[i]? = some u → ∃ a, A = some a ∧ a.block < W.heap.size ∧ ∃ Ai ci, W.cell? (a.add i) = some (.slice Ai u.length ci) ∧ CmdsAt W Ai u
theorem UnitsAt.on {W W' : World} {A : Option Addr} {l : List UM} (h : UnitsAt W A l) (hb : Below W.heap.size W W') : UnitsAt W' A l := fun i ss hi => by
  obtain ⟨a, h1, h2, Ai, ci, h3, h4⟩ := h i ss hi
  exact ⟨a, h1, Nat.lt_of_lt_of_le h2 hb.size, Ai, ci, (hb.cell (p := a.add i) (by rw [block_of_add]; exact h2)).trans h3, h4.on hb⟩
theorem run_ixU (a : Addr) (k n c : Nat) (hk : k < n) (w : World) : Sem.run Tryz.prog (Instr.indexAt 37 (.slice (some a) n c) (.int .i64 (k : Int))) w = .ok (.pointer (some (a.add k))) w := by
  go_simp
/-- Lengths that Go's own rows have. -/
def OkL (u : UM) : Prop := u.length ≤ 140737488355328 ∧ ∀ ss ∈ u, ss.length ≤ 140737488355328
set_option maxRecDepth 100000 in
set_option maxHeartbeats 4000000 in
theorem far15_any {w : World} {A : Option Addr} {c : Nat} {l : List UM} (h : UnitsAt w A l) (hl : l.length ≤ 140737488355328) (hs : ∀ u ∈ l, OkL u) :
    Calls Tryz.prog 8 #[.slice A l.length c] w fun e w' => (∃ b, e = .returned (.bool b) ∧ (b = false → l.length ≤ 100)) ∧ Below w.heap.size w w' := by
  have hH := Lib.hid h
  have hsH := Lib.hid hs
  clear h hs
  go_enter Tryz.func8, Tryz.ntmps8
  go_wp2_with fail
  go_loopw [3, 8] (fun n i wr => ∃ (k : Nat) (m : Int), k ≤ l.length ∧ i = .int .i64 k ∧ n = .int .i64 m ∧ Hid (Below w.heap.size w wr)) (fun _ i _ => l.length - (intOf i).toNat)
  case atStart => exact ⟨0, 0, by omega, rfl, rfl, Lib.hid (Below.refl _ _)⟩
  case round =>
    obtain ⟨k, m, hk, rfl, rfl, hW⟩ := hrel
    by_cases hlt : k < l.length
    · have dk : decide ((k : Int) < (l.length : Int)) = true := decide_eq_true (by omega)
      have dk2 : decide (k < l.length) = true := decide_eq_true hlt
      obtain ⟨u, hx⟩ : ∃ x, l[k]? = some x := ⟨_, List.getElem?_eq_getElem hlt⟩
      obtain ⟨a, rfl, ha, Ai, ci, hc, hS⟩ := hH.out.on hW.out k u hx
      have hix := run_ixU a k l.length c hlt
      obtain ⟨o1, o2⟩ := hsH.out u (List.mem_of_getElem? hx)
      have hQ := Lib.hid (rweight_any (c := ci) (hS.on (W' := wr.alloc (.cells #[.slice Ai u.length ci] 24)) one_box) o1 o2)
      have hltH := Lib.hid hlt
      clear hx hlt hS o2
      go_wp2_with (go_at_call 19; ((with_reducible refine hQ.out.mono ?_); rintro e w1 ⟨⟨m2, rfl⟩, hb1⟩))
      case roundEnd =>
        refine ⟨⟨k + 1, _, by have := hltH.out; omega, by go_num, rfl, Lib.hid ((hW.out.alloc (by have := hW.out.size; omega) _).trans (hb1.mono (by have := hW.out.size; simp; omega)))⟩, ?_⟩
        have := hltH.out
        simp [intOf]
        omega
      go_ret
      exact ⟨⟨true, rfl, fun h => by cases h⟩, (hW.out.alloc (by have := hW.out.size; omega) _).trans (hb1.mono (by have := hW.out.size; simp; omega))⟩
    · have dk : decide ((k : Int) < (l.length : Int)) = false := decide_eq_false (by omega)
      have dk2 : decide (k < l.length) = false := decide_eq_false hlt
      clear hlt
      go_wp2_with fail
      go_ret
      exact ⟨⟨_, rfl, fun h => by have := of_decide_eq_false h; omega⟩, hW.out⟩
set_option maxRecDepth 100000 in
set_option maxHeartbeats 4000000 in
theorem rsameall_any {w : World} {A A' : Option Addr} {c c' : Nat} {l m : List UM} (h : UnitsAt w A l) (h' : UnitsAt w A' m) (hl : l.length ≤ 140737488355328) (_hl' : m.length ≤ 140737488355328) (hs : ∀ u ∈ l, OkL u) (hs' : ∀ u ∈ m, OkL u) :
    Calls Tryz.prog 18 #[.slice A l.length c, .slice A' m.length c'] w fun e w' => e = .returned (.bool (decide (l = m))) ∧ Below w.heap.size w w' := by
  obtain ⟨T, hT⟩ : ∃ T, decide (l = m) = T := ⟨_, rfl⟩
  rw [hT]
  have hTH : Hid (T = true ↔ l = m) := Lib.hid (by rw [← hT]; exact decide_eq_true_iff)
  clear hT
  by_cases hk : l.length = m.length
  case neg =>
    have e : Hid (T = false) := Lib.hid (by
      cases T with
      | false => rfl
      | true => exact absurd (congrArg List.length (hTH.out.1 rfl)) hk)
    have k1 : ((l.length : Int) == (m.length : Int)) = false := by simp; omega
    have k2 : ((l.length : Int) != (m.length : Int)) = true := by simp; omega
    have k3 : (l.length == m.length) = false := by simpa using hk
    have k4 : (l.length != m.length) = true := by simpa using hk
    clear hk
    go_enter Tryz.func18, Tryz.ntmps18
    go_wp2_with fail
    go_ret
    exact ⟨ret_bool e.out.symm, Below.refl _ _⟩
  have hkH := Lib.hid hk
  have hH := Lib.hid h
  have hH' := Lib.hid h'
  have hsH := Lib.hid hs
  have hsH' := Lib.hid hs'
  rw [← hk]
  clear hk h h' hs hs'
  go_enter Tryz.func18, Tryz.ntmps18
  go_wp2_with fail
  go_loopw [5] (fun i wr => ∃ k : Nat, i = .int .i64 k ∧ k ≤ l.length ∧ Hid (T = true ↔ l.drop k = m.drop k) ∧ Hid (Below w.heap.size w wr)) (fun i _ => l.length - (intOf i).toNat)
  case atStart => exact ⟨0, rfl, by omega, hTH, Lib.hid (Below.refl _ _)⟩
  case round =>
    clear hTH
    obtain ⟨k, rfl, hk, hD, hW⟩ := hrel
    by_cases hlt : k < l.length
    · have hlt' : k < m.length := by have := hkH.out; omega
      obtain ⟨u, hx⟩ : ∃ x, l[k]? = some x := ⟨_, List.getElem?_eq_getElem hlt⟩
      obtain ⟨v, hy⟩ : ∃ x, m[k]? = some x := ⟨_, List.getElem?_eq_getElem hlt'⟩
      obtain ⟨a, rfl, ha, Ai, ci, hc, hS⟩ := hH.out.on hW.out k u hx
      obtain ⟨b, rfl, hb, Bi, di, hd, hS'⟩ := hH'.out.on hW.out k v hy
      have hix := run_ixU a k l.length c hlt
      have hix' := run_ixU b k l.length c' hlt
      obtain ⟨o1, o2⟩ := hsH.out u (List.mem_of_getElem? hx)
      obtain ⟨o1', o2'⟩ := hsH'.out v (List.mem_of_getElem? hy)
      have hN : Hid (T = true ↔ u = v ∧ l.drop (k + 1) = m.drop (k + 1)) := Lib.hid (hD.out.trans (drop_iff hx hy))
      have hQ := Lib.hid (rsame15_any (c := ci) (c' := di) (hS.on (W' := wr.drew) (Below.drew (Below.refl _ _))) (hS'.on (W' := wr.drew) (Below.drew (Below.refl _ _))) o1 o1' o2 o2')
      have hltH := Lib.hid hlt
      have dk : decide ((k : Int) < (l.length : Int)) = true := decide_eq_true (by omega)
      have dk2 : decide (k < l.length) = true := decide_eq_true hlt
      clear hx hy hD hlt hlt' hS hS' o2 o2'
      by_cases hq : u = v
      case neg =>
        have e : Hid (T = false) := Lib.hid (by
          cases T with
          | false => rfl
          | true => exact absurd (hN.out.1 rfl).1 hq)
        rw [decide_eq_false hq] at hQ
        clear hq
        go_wp2_with fail
        go_still_tail 8, (by kernel_rfl)
        change wpList _ _ _ _ _ wr.drew
        go_wp2_with (go_at_call 13; ((with_reducible refine hQ.out.mono ?_); rintro e w1 ⟨rfl, hb1⟩))
        go_ret
        exact ⟨ret_bool e.out.symm, hW.out.drew.trans (hb1.mono (by have := hW.out.size; simp; omega))⟩
      subst hq
      rw [decide_eq_true rfl] at hQ
      go_wp2_with fail
      go_still_tail 8, (by kernel_rfl)
      change wpList _ _ _ _ _ wr.drew
      go_wp2_with (go_at_call 13; ((with_reducible refine hQ.out.mono ?_); rintro e w1 ⟨rfl, hb1⟩))
      go_roundw
      case rel => exact ⟨k + 1, by go_num, by have := hltH.out; omega, Lib.hid (by rw [hN.out]; simp), Lib.hid (hW.out.drew.trans (hb1.mono (by have := hW.out.size; simp; omega)))⟩
      case measure => have := hltH.out; simp [intOf]; omega
    · have e : Hid (T = true) := Lib.hid (hD.out.2 (by rw [List.drop_of_length_le (by omega), List.drop_of_length_le (by have := hkH.out; omega)]))
      have dk : decide ((k : Int) < (l.length : Int)) = false := decide_eq_false (by omega)
      have dk2 : decide (k < l.length) = false := decide_eq_false hlt
      clear hlt
      go_wp2_with fail
      go_ret
      exact ⟨ret_bool e.out.symm, hW.out⟩
end Go.Proofs.YtjidopgohdlfdaaGreatDoor

/-
  The walks of the reference's load and Put. Premises: the unit lies in memory, and its lengths are Go's own.
-/
namespace Go.Proofs.YtjidopgohdlfdaaGreatDoor
open Go.RowKit Dec Pq S4 Un

theorem load_next {u : UM} {k : Nat} {ss : List ByteArray} (h : u[k]? = some ss) : loadU (uu (u.take (k + 1))) = loadU (uu (u.take k)) ++ putF (txt ss) := by
  unfold loadU uu
  rw [List.take_add_one, h]
  simp [List.flatMap_append]
theorem load_pre (u : UM) (k : Nat) : (loadU (uu (u.take k))).length ≤ (loadU (uu u)).length := by
  have e : loadU (uu u) = loadU (uu (u.take k)) ++ loadU (uu (u.drop k)) := by
    unfold loadU uu
    rw [← List.flatMap_append, ← List.map_append, List.take_append_drop]
  rw [e, List.length_append]
  omega
theorem sz_may {ss : List ByteArray} (h : mayC ss = true) : ss.length ≤ 65536 ∧ sz ss ≤ 68719476736 := by
  unfold mayC at h
  rw [Bool.and_eq_true, Bool.and_eq_true, List.all_eq_true] at h
  have h1 := of_decide_eq_true h.1.2
  have h2 : ∀ (l : List ByteArray), (∀ x ∈ l, x.size ≤ 1048576) → sz l ≤ 1048576 * l.length := by
    intro l
    induction l with
    | nil => intro _; exact Nat.le_refl _
    | cons a l ih =>
      intro hl
      have := ih (fun x hx => hl x (List.mem_cons_of_mem _ hx))
      have := hl a List.mem_cons_self
      unfold sz at *
      simp only [List.map_cons, List.sum_cons, List.length_cons]
      omega
  have := h2 ss (fun x hx => of_decide_eq_true (h.2 x hx))
  exact ⟨h1, by omega⟩
theorem putF_len {ss : List ByteArray} (h : mayC ss = true) : (putF (txt ss)).length ≤ 137438953472 := by
  obtain ⟨h1, h2⟩ := sz_may h
  have key : ∀ (l : List ByteArray), (∀ x ∈ l, x.size ≤ 1048576) → ((txt l).flatMap putA).length ≤ 25 * l.length + sz l := by
    intro l
    induction l with
    | nil => intro _; exact Nat.zero_le _
    | cons a l ih =>
      intro hl
      have := ih (fun x hx => hl x (List.mem_cons_of_mem _ hx))
      have ha := hl a List.mem_cons_self
      have hd : (Lib.decDigits a.size).length ≤ 20 := by rw [Lib.decDigits_length]; exact Lib.nDigits_le20 _ (by omega)
      unfold sz at *
      unfold txt at *
      simp only [List.map_cons, List.flatMap_cons, List.length_append, List.sum_cons, List.length_cons, putA_len, size_len]
      omega
  unfold mayC at h
  rw [Bool.and_eq_true, Bool.and_eq_true, List.all_eq_true] at h
  have := key ss (fun x hx => of_decide_eq_true (h.2 x hx))
  have hd : (Lib.decDigits ss.length).length ≤ 20 := by rw [Lib.decDigits_length]; exact Lib.nDigits_le20 _ (by omega)
  unfold putF
  simp only [List.length_cons, List.length_append]
  rw [show (txt ss).length = ss.length by simp [txt]]
  omega
theorem arr_size (l : List UInt8) : (⟨l.toArray⟩ : ByteArray).size = l.length := rfl
set_option maxRecDepth 100000 in
set_option maxHeartbeats 4000000 in
theorem rload_any {w : World} {A : Option Addr} {c : Nat} {u : UM} (h : CmdsAt w A u) (hm : mayB u = true) :
    Calls Tryz.prog 24 #[.agg #[.slice A u.length c]] w fun e w' => (∃ b : ByteArray, e = .returned (.string b) ∧ b.size ≤ 274877906944 ∧ (b.data.toList = loadU (uu u) ∨ 4194304 < b.size ∧ 4194304 < (loadU (uu u)).length)) ∧ Below w.heap.size w w' := by
  have hH := Lib.hid (h.on (W' := w.alloc (.cells #[.slice A u.length c] 24)) one_box)
  have hz := Lib.hid (heap_alloc_new w (.cells #[.slice A u.length c] 24))
  have hb0 : Hid (Below w.heap.size w (w.alloc (.cells #[.slice A u.length c] 24))) := Lib.hid one_box
  have hsz : (w.alloc (.cells #[.slice A u.length c] 24)).heap.size = w.heap.size + 1 := by simp
  unfold mayB at hm
  rw [Bool.and_eq_true, Bool.and_eq_true, List.all_eq_true] at hm
  have hl := of_decide_eq_true hm.1.2
  have hmH := Lib.hid hm.2
  clear h hm
  go_enter Tryz.func24, Tryz.ntmps24
  go_wp2_with fail
  generalize (w.alloc (.cells #[.slice A u.length c] 24)) = W at hz hb0 hsz hH ⊢
  have hszH := Lib.hid hsz
  clear hsz
  go_loopw [3, 4] (fun s i wr => ∃ (k : Nat) (b : ByteArray), k ≤ u.length ∧ i = .int .i64 k ∧ s = .string b ∧ b.size ≤ 274877906944 ∧ Hid (b.data.toList = loadU (uu (u.take k))) ∧ Hid (Below W.heap.size W wr)) (fun _ i _ => u.length - (intOf i).toNat)
  case atStart => exact ⟨0, ⟨#[]⟩, by omega, rfl, rfl, by decide, Lib.hid rfl, Lib.hid (Below.refl _ _)⟩
  case round =>
    obtain ⟨k, b, hk, rfl, rfl, hbs, hD, hW⟩ := hrel
    have c0 : wr.cell? ⟨w.heap.size, 0, none⟩ = some (.slice A u.length c) := by
      have := hszH.out
      exact Lib.cell_of_heap ((hW.out.block w.heap.size (by omega)).trans hz.out) 0
    by_cases hlt : k < u.length
    · have dk : decide ((k : Int) < (u.length : Int)) = true := decide_eq_true (by omega)
      have dk2 : decide (k < u.length) = true := decide_eq_true hlt
      by_cases hbig : b.size ≤ 4194304
      · obtain ⟨ss, hx⟩ : ∃ x, u[k]? = some x := ⟨_, List.getElem?_eq_getElem hlt⟩
        obtain ⟨a, rfl, ha, Ai, ci, hc, hS⟩ := hH.out.on hW.out k ss hx
        have hix := run_ixC a k u.length c hlt
        have hmc := hmH.out ss (List.mem_of_getElem? hx)
        have hfl := putF_len hmc
        obtain ⟨m1, m2⟩ := sz_may hmc
        have hP := Lib.hid (rputq Ai ci ss wr hS (by omega) (by omega))
        have hN : Hid ((b ++ (⟨(putF (txt ss)).toArray⟩ : ByteArray)).data.toList = loadU (uu (u.take (k + 1)))) := Lib.hid (by
          rw [load_next hx, append_data, hD.out])
        have hNs : (b ++ (⟨(putF (txt ss)).toArray⟩ : ByteArray)).size ≤ 274877906944 := by have := arr_size (putF (txt ss)); rw [ByteArray.size_append]; omega
        have hps : (⟨(putF (txt ss)).toArray⟩ : ByteArray).size ≤ 137438953472 := by rw [arr_size]; exact hfl
        have hltH := Lib.hid hlt
        have dm : decide ((b.size : Int) ≤ 4194304) = true := decide_eq_true (by omega)
        have dm2 : decide (b.size ≤ 4194304) = true := decide_eq_true hbig
        clear hx hlt hS hbig hmc hfl hD
        generalize (⟨(putF (txt ss)).toArray⟩ : ByteArray) = p at hP hN hNs hps
        go_wp2_with (go_at_call 41; ((with_reducible refine hP.out.mono ?_); rintro e w1 ⟨rfl, n, rfl⟩))
        go_roundw
        case rel => exact ⟨k + 1, _, by have := hltH.out; omega, by go_num, rfl, hNs, hN, Lib.hid (below_drewN hW.out _)⟩
        case measure => have := hltH.out; simp [intOf]; omega
      · have e : Hid (4194304 < b.size ∧ 4194304 < (loadU (uu u)).length) := Lib.hid (by
          have h1 := load_pre u k
          have h2 := congrArg List.length hD.out
          rw [size_len] at h2
          exact ⟨by omega, by omega⟩)
        have dm : decide ((b.size : Int) ≤ 4194304) = false := decide_eq_false (by omega)
        have dm2 : decide (b.size ≤ 4194304) = false := decide_eq_false hbig
        clear hlt hbig
        go_wp2_with fail
        go_ret
        exact ⟨⟨b, rfl, hbs, Or.inr e.out⟩, hb0.out.trans (hW.out.mono hb0.out.size)⟩
    · have e : Hid (b.data.toList = loadU (uu u)) := Lib.hid (by rw [hD.out, List.take_of_length_le (by omega)])
      have dk : decide ((k : Int) < (u.length : Int)) = false := decide_eq_false (by omega)
      have dk2 : decide (k < u.length) = false := decide_eq_false hlt
      clear hlt
      go_wp2_with fail
      go_ret
      exact ⟨⟨b, rfl, hbs, Or.inl e.out⟩, hb0.out.trans (hW.out.mono hb0.out.size)⟩
end Go.Proofs.YtjidopgohdlfdaaGreatDoor

/-
  The walk of the reference's Put. Premises: the unit lies in memory, and its lengths are Go's own.
-/
namespace Go.Proofs.YtjidopgohdlfdaaGreatDoor
open Go.RowKit Dec Pq S4 Un

/-- How a Put ends: a fault, or bytes. -/
def PutEnd (R : Sum Int (List UInt8)) (e : Ending) : Prop := match R with
  | .inl k => e = .returned (.tuple #[.string ⟨#[]⟩, .int .i64 k])
  | .inr l => e = .returned (.tuple #[.string ⟨l.toArray⟩, .int .i64 0])
theorem len4_bytes {n : Nat} {x0 x1 x2 x3 : Int} (h0 : x0 = (n : Int) % 256) (h1 : x1 = (n : Int) / 256 % 256) (h2 : x2 = (n : Int) / 65536 % 256) (h3 : x3 = 0) :
    (⟨#[85]⟩ ++ (⟨#[UInt8.ofNat x0.toNat, UInt8.ofNat x1.toNat, UInt8.ofNat x2.toNat, UInt8.ofNat x3.toNat]⟩ : ByteArray) : ByteArray).data.toList = lenL n := by
  have e : ∀ (m : Nat), UInt8.ofNat ((m : Int) % 256).toNat = UInt8.ofNat m := fun m => by
    apply UInt8.toNat_inj.1
    simp
    omega
  subst h0 h1 h2 h3
  rw [e n, show ((n : Int) / 256) = ((n / 256 : Nat) : Int) by omega, show ((n : Int) / 65536) = ((n / 65536 : Nat) : Int) by omega, e, e, append_data]
  rfl
theorem seal_at {p b : ByteArray} {u : UM} (hp : p.data.toList = lenL b.size) (hb : b.data.toList = loadU (uu u)) : C14.sealB (p ++ b) = ⟨(bytesU (uu u)).toArray⟩ := by
  refine bytes_eq ?_
  rw [← sealL_eq, append_data, hp, hb]
  unfold bytesU
  rw [← hb, size_len]
set_option maxRecDepth 100000 in
set_option maxHeartbeats 4000000 in
theorem rput15_any {w : World} {A : Option Addr} {c : Nat} {u : UM} (h : CmdsAt w A u) (hl : u.length ≤ 140737488355328) (hs : ∀ ss ∈ u, ss.length ≤ 140737488355328) :
    Calls Tryz.prog 11 #[.agg #[.slice A u.length c]] w fun e w' => PutEnd (putU (uu u)) e ∧ Below w.heap.size w w' := by
  have hb0 : Hid (Below w.heap.size w (w.alloc (.cells #[.slice A u.length c] 24))) := Lib.hid one_box
  have hz := Lib.hid (heap_alloc_new w (.cells #[.slice A u.length c] 24))
  have hH := Lib.hid (h.on (W' := w.alloc (.cells #[.slice A u.length c] 24)) one_box)
  have hM := Lib.hid (rmay_any (c := c) hH.out hl hs)
  have hsz : (w.alloc (.cells #[.slice A u.length c] 24)).heap.size = w.heap.size + 1 := by simp
  have c0 : (w.alloc (.cells #[.slice A u.length c] 24)).cell? ⟨w.heap.size, 0, none⟩ = some (.slice A u.length c) := Lib.cell_of_heap hz.out 0
  clear h hs
  by_cases hm : mayB u = true
  case neg =>
    have hP : Hid (putU (uu u) = .inl 1) := Lib.hid (by
      unfold putU
      rw [may_uu, if_pos (by simpa using hm)])
    have hm' : mayB u = false := by simpa using hm
    rw [hm'] at hM
    rw [hP.out]
    clear hm hm' hP
    go_enter Tryz.func11, Tryz.ntmps11
    go_upto_region 1 with fail
    generalize (w.alloc (.cells #[.slice A u.length c] 24)) = W at hz hb0 hsz hH hM c0 ⊢
    go_wp2_with (go_at_call 23; ((with_reducible refine hM.out.mono ?_); rintro e w1 ⟨rfl, hb1⟩))
    go_ret2
    exact ⟨rfl, hb0.out.trans (hb1.mono (by omega))⟩
  have hP : Hid (putU (uu u) = if 4194304 < (loadU (uu u)).length then .inl 6 else .inr (bytesU (uu u))) := Lib.hid (by
    unfold putU
    rw [may_uu, if_neg (by rw [hm]; decide)])
  have hL : Hid (∀ X, Below (w.heap.size + 1) (w.alloc (.cells #[.slice A u.length c] 24)) X → Calls Tryz.prog 24 #[.agg #[.slice A u.length c]] X fun e w' => (∃ b : ByteArray, e = .returned (.string b) ∧ b.size ≤ 274877906944 ∧ (b.data.toList = loadU (uu u) ∨ 4194304 < b.size ∧ 4194304 < (loadU (uu u)).length)) ∧ Below X.heap.size X w') := Lib.hid (fun X hX => rload_any (hH.out.on (by rw [hsz]; exact hX)) hm)
  rw [hm] at hM
  rw [hP.out]
  clear hm hP
  go_enter Tryz.func11, Tryz.ntmps11
  go_upto_region 1 with fail
  generalize (w.alloc (.cells #[.slice A u.length c] 24)) = W at hz hb0 hsz hH hM hL c0 ⊢
  have hszH := Lib.hid hsz
  rw [hsz] at hM
  clear hsz
  go_upto_region 4 with first
    | (go_at_call 23; go_loud ((with_reducible refine hM.out.mono ?_); rintro e w1 ⟨rfl, hb1⟩; have c1 := (hb1.cell (p := ⟨w.heap.size, 0, none⟩) (Nat.lt_succ_self _)).trans c0; have hL1 := Lib.hid (hL.out w1 hb1)))
    | (go_at_call 24; ((with_reducible refine hL1.out.mono ?_); rintro e w2 ⟨⟨b, rfl, hbs, hor⟩, hb2⟩; have horH := Lib.hid hor; clear hor))
  have hb2' : Hid (Below w.heap.size w w2) := Lib.hid (hb0.out.trans ((hb1.mono (by omega)).trans (hb2.mono (by have := hb1.size; have := hszH.out; omega))))
  clear hb1 hb2
  by_cases hbig : 4194304 < b.size
  · have hR : Hid (4194304 < (loadU (uu u)).length) := Lib.hid (by
      rcases horH.out with h | h
      · rw [← h, size_len]; exact hbig
      · exact h.2)
    have d1 : decide ((4194304 : Int) < (b.size : Int)) = true := decide_eq_true (by omega)
    have d2 : decide (4194304 < b.size) = true := decide_eq_true hbig
    clear hbig
    go_wp2_with fail
    go_ret2
    exact ⟨by first | rfl | (rw [if_pos hR.out]; rfl), hb2'.out⟩
  · have hB : Hid (b.data.toList = loadU (uu u)) := Lib.hid (by
      rcases horH.out with h | h
      · exact h
      · omega)
    have hR : Hid (¬ 4194304 < (loadU (uu u)).length) := Lib.hid (by rw [← hB.out, size_len]; exact hbig)
    have d1 : decide ((4194304 : Int) < (b.size : Int)) = false := decide_eq_false (by omega)
    have d2 : decide (4194304 < b.size) = false := decide_eq_false hbig
    have hc := C14.conv4 w2 ((b.size : Int) % 256) ((b.size : Int) / 256 % 256) ((b.size : Int) / 65536 % 256) 0 (by omega) (by omega) (by omega) (by omega)
    have hp := Lib.hid (len4_bytes (n := b.size) (x0 := (b.size : Int) % 256) (x1 := (b.size : Int) / 256 % 256) (x2 := (b.size : Int) / 65536 % 256) (x3 := 0) rfl rfl rfl rfl)
    obtain ⟨q, hq⟩ : ∃ q, q = (⟨#[UInt8.ofNat ((b.size : Int) % 256).toNat, UInt8.ofNat ((b.size : Int) / 256 % 256).toNat, UInt8.ofNat ((b.size : Int) / 65536 % 256).toNat, UInt8.ofNat (0 : Int).toNat]⟩ : ByteArray) := ⟨_, rfl⟩
    rw [← hq] at hc hp
    have hqs : q.size = 4 := by rw [hq]; rfl
    clear hbig hq
    have hE : Hid (C14.sealB (⟨#[85]⟩ ++ q ++ b) = ⟨(bytesU (uu u)).toArray⟩) := Lib.hid (seal_at hp.out hB.out)
    have hS : Hid (∀ X, Calls Tryz.prog 25 #[.string (⟨#[85]⟩ ++ q ++ b)] X fun e w' => e = .returned (.string ⟨(bytesU (uu u)).toArray⟩) ∧ C14.Only [] X w') := Lib.hid (fun X => by
      have := C14.rseal_any (⟨#[85]⟩ ++ q ++ b) (by rw [ByteArray.size_append, ByteArray.size_append, hqs]; show 1 + 4 + b.size ≤ _; omega) X
      rw [hE.out] at this
      exact this)
    go_wp2_with (go_at_call 25; ((with_reducible refine (hS.out _).mono ?_); rintro e w3 ⟨rfl, hb3⟩))
    go_ret2
    refine ⟨by first | rfl | (rw [if_neg hR.out]; rfl), ?_⟩
    exact (hb2'.out.alloc (by have := hb2'.out.size; omega) _).trans (hb3.below (by have := hb2'.out.size; simp; omega) (fun k hk => by simp at hk))
end Go.Proofs.YtjidopgohdlfdaaGreatDoor

/-
  The walk of the reference's Take, the ways that end at once: nothing, another first byte, too few bytes, too long a length, too short, a sum that is another one. Premise: the text is not longer than a thousand million bytes.
-/
namespace Go.Proofs.YtjidopgohdlfdaaGreatDoor
open Go.RowKit Dec Pq S4 Un

/-- A unit in memory, all its rows in blocks of one kind. -/
def CmdsOk (W : World) (ok : Nat → Prop) (A : Option Addr) (u : UM) : Prop := ∀ i ss, u[i]? = some ss → ∃ a, A = some a ∧ ok a.block ∧ a.block < W.heap.size ∧ ∃ Ai ci, W.cell? (a.add i) = some (.slice Ai ss.length ci) ∧ SOk W ok Ai ss
theorem CmdsOk.plain {W : World} {ok : Nat → Prop} {A : Option Addr} {u : UM} (h : CmdsOk W ok A u) : CmdsAt W A u := fun i ss hi => by
  obtain ⟨a, h1, _, h2, Ai, ci, h3, h4⟩ := h i ss hi
  exact ⟨a, h1, h2, Ai, ci, h3, h4.free⟩
theorem CmdsOk.keep {W W' : World} {ok ok' : Nat → Prop} {A : Option Addr} {u : UM} (h : CmdsOk W ok A u) (hk : ∀ b, ok b → b < W.heap.size → W'.heap[b]? = W.heap[b]?) (hs : W.heap.size ≤ W'.heap.size) (hok : ∀ b, ok b → b < W.heap.size → ok' b) : CmdsOk W' ok' A u := fun i ss hi => by
  obtain ⟨a, h1, h2, h3, Ai, ci, h4, h5⟩ := h i ss hi
  exact ⟨a, h1, hok _ h2 h3, by omega, Ai, ci, (World.cell?_of_block (a := a.add i) (by rw [block_of_add]; exact hk _ h2 h3)).trans h4, h5.keep hk hs hok⟩
theorem CmdsOk.on {W W' : World} {ok : Nat → Prop} {A : Option Addr} {u : UM} (h : CmdsOk W ok A u) (hb : Below W.heap.size W W') : CmdsOk W' ok A u :=
  h.keep (fun b _ hl => hb.block b hl) hb.size (fun _ h _ => h)
/-- How a Take ends: a fault, or a unit and how many bytes it has. -/
def TakeEnd (base : Nat) (R : Sum Int (U × Nat)) (e : Ending) (w' : World) : Prop := match R with
  | .inl k => e = .returned (.tuple #[.agg #[.slice none 0 0], .int .i64 0, .int .i64 k])
  | .inr (u, n) => ∃ (m : UM) (A : Option Addr) (c : Nat), uu m = u ∧ CmdsOk w' (fun b => base ≤ b) A m ∧ e = .returned (.tuple #[.agg #[.slice A m.length c], .int .i64 (n : Nat), .int .i64 0])
theorem len4_at {s : ByteArray} (h : 5 ≤ s.size) : len4 s.data.toList = s[1].toNat + 256 * (s[2].toNat + 256 * (s[3].toNat + 256 * s[4].toNat)) := by
  obtain ⟨⟨l⟩⟩ := s
  match l, h with
  | a :: b :: c :: d :: e :: t, _ => rfl
  | [], h => simp [ByteArray.size] at h
  | [_], h => simp [ByteArray.size] at h
  | [_, _], h => simp [ByteArray.size] at h
  | [_, _, _], h => simp [ByteArray.size] at h
  | [_, _, _, _], h => simp [ByteArray.size] at h
theorem head_of {s : ByteArray} (h : 0 < s.size) : s.data.toList.head? = some s[0] := by
  obtain ⟨⟨l⟩⟩ := s
  cases l with
  | nil => simp [ByteArray.size] at h
  | cons a t => rfl
theorem set_one {X : World} {b : Nat} {o : Value} {ty : TypeId} (h : X.heap[b]? = some (.cells #[o] ty (0, 0))) (v : Value) : (X.setCell ⟨b, 0, none⟩ v).heap[b]? = some (.cells #[v] ty (0, 0)) := by
  simp [World.setCell, Array.getElem?_modify, h]
/-- What the length loop holds behind the byte at a place. -/
def acc (b1 b2 b3 b4 : Nat) (k : Nat) : Nat := if k = 4 then 0 else if k = 3 then b4 else if k = 2 then b4 * 256 + b3 else if k = 1 then (b4 * 256 + b3) * 256 + b2 else ((b4 * 256 + b3) * 256 + b2) * 256 + b1
set_option maxRecDepth 100000 in
set_option maxHeartbeats 4000000 in
theorem rtake_none (w : World) : Calls Tryz.prog 15 #[.string ⟨#[]⟩] w fun e w' => TakeEnd w.heap.size (takeU []) e w' ∧ Below w.heap.size w w' := by
  go_enter Tryz.func15, Tryz.ntmps15
  go_wp2_with fail
  refine bodyPost_ret (v := .tuple #[.agg #[.slice none 0 0], .int .i64 0, .int .i64 4]) (by simp [results, Tryz.results15, go_sem]) rfl ⟨rfl, ?_⟩
  exact one_box
set_option maxRecDepth 100000 in
set_option maxHeartbeats 4000000 in
theorem rtake_form (s : ByteArray) (w : World) (h0 : 0 < s.size) (h85 : s[0] ≠ 85) : Calls Tryz.prog 15 #[.string s] w fun e w' => TakeEnd w.heap.size (takeU s.data.toList) e w' ∧ Below w.heap.size w w' := by
  have hR : Hid (takeU s.data.toList = .inl 5) := Lib.hid (by
    unfold takeU
    rw [if_neg (fun e => by have := congrArg List.length e; rw [size_len, List.length_nil] at this; omega), if_pos (by rw [head_of h0]; exact fun e => h85 (Option.some.inj e))])
  have hne : s.toList ≠ [] := fun e => by rw [Lib.toList_data] at e; have := congrArg List.length e; rw [size_len, List.length_nil] at this; omega
  have k1 : (s.toList == ([] : List UInt8)) = false := by simpa using hne
  have hb : ¬ ((s[0].toNat : Int) = 85) := fun e => h85 (UInt8.toNat_inj.1 (show s[0].toNat = 85 by omega))
  have k2 : ((s[0].toNat : Int) != 85) = true := by simpa using hb
  have k3 : ((s[0].toNat : Int) == 85) = false := by simpa using hb
  rw [hR.out]
  clear hne hb h85 hR
  go_enter Tryz.func15, Tryz.ntmps15
  go_wp2_with fail
  refine bodyPost_ret (v := .tuple #[.agg #[.slice none 0 0], .int .i64 0, .int .i64 5]) (by simp [results, Tryz.results15, go_sem]) rfl ⟨rfl, ?_⟩
  exact one_box
set_option maxRecDepth 100000 in
set_option maxHeartbeats 4000000 in
theorem rtake_few (s : ByteArray) (w : World) (h0 : 0 < s.size) (h85 : s[0] = 85) (h5 : s.size < 5) : Calls Tryz.prog 15 #[.string s] w fun e w' => TakeEnd w.heap.size (takeU s.data.toList) e w' ∧ Below w.heap.size w w' := by
  have hR : Hid (takeU s.data.toList = .inl 4) := Lib.hid (by
    unfold takeU
    rw [if_neg (fun e => by have := congrArg List.length e; rw [size_len, List.length_nil] at this; omega), if_neg (by rw [head_of h0, h85]; exact fun e => e rfl), if_pos (by rw [size_len]; exact h5)])
  have hne : s.toList ≠ [] := fun e => by rw [Lib.toList_data] at e; have := congrArg List.length e; rw [size_len, List.length_nil] at this; omega
  have k1 : (s.toList == ([] : List UInt8)) = false := by simpa using hne
  have k2 : ((s[0].toNat : Int) != 85) = false := by rw [h85]; rfl
  have k3 : ((s[0].toNat : Int) == 85) = true := by rw [h85]; rfl
  have d1 : decide ((s.size : Int) < 5) = true := decide_eq_true (by omega)
  rw [hR.out]
  clear hne h85 hR
  go_enter Tryz.func15, Tryz.ntmps15
  go_wp2_with fail
  refine bodyPost_ret (v := .tuple #[.agg #[.slice none 0 0], .int .i64 0, .int .i64 4]) (by simp [results, Tryz.results15, go_sem]) rfl ⟨rfl, ?_⟩
  exact one_box
theorem len4_lt {s : ByteArray} (h : 5 ≤ s.size) : len4 s.data.toList ≤ 4294967295 := by
  rw [len4_at h]
  have l1 := s[1].toNat_lt; have l2 := s[2].toNat_lt; have l3 := s[3].toNat_lt; have l4 := s[4].toNat_lt
  omega
set_option maxRecDepth 100000 in
set_option maxHeartbeats 4000000 in
theorem rtake_long (s : ByteArray) (w : World) (h5 : 5 ≤ s.size) (h85 : s[0] = 85) (hlong : 4194304 < len4 s.data.toList) : Calls Tryz.prog 15 #[.string s] w fun e w' => TakeEnd w.heap.size (takeU s.data.toList) e w' ∧ Below w.heap.size w w' := by
  have hR : Hid (takeU s.data.toList = .inl 6) := Lib.hid (by
    unfold takeU
    rw [if_neg (fun e => by have := congrArg List.length e; rw [size_len, List.length_nil] at this; omega), if_neg (by rw [head_of (by omega), h85]; exact fun e => e rfl), if_neg (by rw [size_len]; omega), if_pos hlong])
  have hne : s.toList ≠ [] := fun e => by rw [Lib.toList_data] at e; have := congrArg List.length e; rw [size_len, List.length_nil] at this; omega
  have k1 : (s.toList == ([] : List UInt8)) = false := by simpa using hne
  have k2 : ((s[0].toNat : Int) != 85) = false := by rw [h85]; rfl
  have k3 : ((s[0].toNat : Int) == 85) = true := by rw [h85]; rfl
  have d1 : decide ((s.size : Int) < 5) = false := decide_eq_false (by omega)
  have hN := Lib.hid (len4_at h5)
  have hNl := len4_lt h5
  obtain ⟨N, hNe⟩ : ∃ N, len4 s.data.toList = N := ⟨_, rfl⟩
  rw [hNe] at hN hNl hlong
  have l1 := s[1].toNat_lt
  have l2 := s[2].toNat_lt
  have l3 := s[3].toNat_lt
  have l4 := s[4].toNat_lt
  rw [hR.out]
  clear hne h85 hR hNe
  go_enter Tryz.func15, Tryz.ntmps15
  go_wp2_with fail
  have hb0 := Lib.hid (one_box (w := w) (cs := #[.slice none 0 0]) (t := 24))
  have hz := Lib.hid (heap_alloc_new w (.cells #[.slice none 0 0] 24))
  generalize (w.alloc (.cells #[.slice none 0 0] 24)) = W at hb0 hz ⊢
  clear k1 k2 k3 d1
  go_loopw [5, 6] (fun n i wr => ∃ k : Nat, k ≤ 4 ∧ i = .int .i64 k ∧ n = .int .i64 (acc s[1].toNat s[2].toNat s[3].toNat s[4].toNat k) ∧ Hid (wr = W)) (fun _ i _ => (intOf i).toNat)
  case atStart => exact ⟨4, by omega, rfl, rfl, Lib.hid rfl⟩
  case round =>
    obtain ⟨k, hk, rfl, rfl, hW⟩ := hrel
    match k, hk with
    | 4, _ =>
      rw [show acc s[1].toNat s[2].toNat s[3].toNat s[4].toNat 4 = 0 from rfl]
      go_wp2_with fail
      refine ⟨⟨3, by omega, rfl, ?_, hW⟩, by simp [intOf]⟩
      rw [show acc s[1].toNat s[2].toNat s[3].toNat s[4].toNat 3 = s[4].toNat from rfl]
      all_goals go_num
    | 3, _ =>
      rw [show acc s[1].toNat s[2].toNat s[3].toNat s[4].toNat 3 = s[4].toNat from rfl]
      go_wp2_with fail
      refine ⟨⟨2, by omega, rfl, ?_, hW⟩, by simp [intOf]⟩
      rw [show acc s[1].toNat s[2].toNat s[3].toNat s[4].toNat 2 = s[4].toNat * 256 + s[3].toNat from rfl]
      go_num
    | 2, _ =>
      rw [show acc s[1].toNat s[2].toNat s[3].toNat s[4].toNat 2 = s[4].toNat * 256 + s[3].toNat from rfl]
      go_wp2_with fail
      refine ⟨⟨1, by omega, rfl, ?_, hW⟩, by simp [intOf]⟩
      rw [show acc s[1].toNat s[2].toNat s[3].toNat s[4].toNat 1 = (s[4].toNat * 256 + s[3].toNat) * 256 + s[2].toNat from rfl]
      go_num
    | 1, _ =>
      rw [show acc s[1].toNat s[2].toNat s[3].toNat s[4].toNat 1 = (s[4].toNat * 256 + s[3].toNat) * 256 + s[2].toNat from rfl]
      go_wp2_with fail
      refine ⟨⟨0, by omega, rfl, ?_, hW⟩, by simp [intOf]⟩
      rw [show acc s[1].toNat s[2].toNat s[3].toNat s[4].toNat 0 = ((s[4].toNat * 256 + s[3].toNat) * 256 + s[2].toNat) * 256 + s[1].toNat from rfl]
      go_num
    | 0, _ =>
      have ea : acc s[1].toNat s[2].toNat s[3].toNat s[4].toNat 0 = N := by
        rw [hN.out]
        unfold acc
        simp
        omega
      rw [ea]
      clear ea
      have hz1 : wr.heap[w.heap.size]? = some (.cells #[.slice none 0 0] 24 (0, 0)) := by rw [hW.out]; exact hz.out
      have hb1 : Hid (Below w.heap.size w wr) := Lib.hid (by rw [hW.out]; exact hb0.out)
      have c0 : wr.cell? ⟨w.heap.size, 0, none⟩ = some (.slice none 0 0) := Lib.cell_of_heap hz1 0
      have g0 := Lib.frozen_of_heap hz1 0
      have hzr := Lib.hid hz1
      clear hz1 hW
      have d1 : decide ((4194304 : Int) < (N : Int)) = true := decide_eq_true (by omega)
      go_wp2_with fail
      have e0 : (wr.setCell ⟨w.heap.size, 0, none⟩ (.slice none 0 0)).cell? ⟨w.heap.size, 0, none⟩ = some (.slice none 0 0) := Lib.cell_of_heap (set_one hzr.out (.slice none 0 0)) 0
      refine bodyPost_ret (v := .tuple #[.agg #[.slice none 0 0], .int .i64 0, .int .i64 6]) (by simp [results, Tryz.results15, go_sem, e0]) rfl ⟨rfl, ?_⟩
      exact hb1.out.setCell (p := ⟨w.heap.size, 0, none⟩) (Nat.le_refl _) _
set_option maxRecDepth 100000 in
set_option maxHeartbeats 4000000 in
theorem rtake_short (s : ByteArray) (w : World) (h5 : 5 ≤ s.size) (h85 : s[0] = 85) (hlong : len4 s.data.toList ≤ 4194304) (hsh : s.size < len4 s.data.toList + 9) : Calls Tryz.prog 15 #[.string s] w fun e w' => TakeEnd w.heap.size (takeU s.data.toList) e w' ∧ Below w.heap.size w w' := by
  have hR : Hid (takeU s.data.toList = .inl 4) := Lib.hid (by
    unfold takeU
    rw [if_neg (fun e => by have := congrArg List.length e; rw [size_len, List.length_nil] at this; omega), if_neg (by rw [head_of (by omega), h85]; exact fun e => e rfl), if_neg (by rw [size_len]; omega), if_neg (by omega), if_pos (by rw [size_len]; exact hsh)])
  have hne : s.toList ≠ [] := fun e => by rw [Lib.toList_data] at e; have := congrArg List.length e; rw [size_len, List.length_nil] at this; omega
  have k1 : (s.toList == ([] : List UInt8)) = false := by simpa using hne
  have k2 : ((s[0].toNat : Int) != 85) = false := by rw [h85]; rfl
  have k3 : ((s[0].toNat : Int) == 85) = true := by rw [h85]; rfl
  have d1 : decide ((s.size : Int) < 5) = false := decide_eq_false (by omega)
  have hN := Lib.hid (len4_at h5)
  have hNl := len4_lt h5
  obtain ⟨N, hNe⟩ : ∃ N, len4 s.data.toList = N := ⟨_, rfl⟩
  rw [hNe] at hN hNl hlong hsh
  have l1 := s[1].toNat_lt
  have l2 := s[2].toNat_lt
  have l3 := s[3].toNat_lt
  have l4 := s[4].toNat_lt
  rw [hR.out]
  clear hne h85 hR hNe
  go_enter Tryz.func15, Tryz.ntmps15
  go_wp2_with fail
  have hb0 := Lib.hid (one_box (w := w) (cs := #[.slice none 0 0]) (t := 24))
  have hz := Lib.hid (heap_alloc_new w (.cells #[.slice none 0 0] 24))
  generalize (w.alloc (.cells #[.slice none 0 0] 24)) = W at hb0 hz ⊢
  clear k1 k2 k3 d1
  go_loopw [5, 6] (fun n i wr => ∃ k : Nat, k ≤ 4 ∧ i = .int .i64 k ∧ n = .int .i64 (acc s[1].toNat s[2].toNat s[3].toNat s[4].toNat k) ∧ Hid (wr = W)) (fun _ i _ => (intOf i).toNat)
  case atStart => exact ⟨4, by omega, rfl, rfl, Lib.hid rfl⟩
  case round =>
    obtain ⟨k, hk, rfl, rfl, hW⟩ := hrel
    match k, hk with
    | 4, _ =>
      rw [show acc s[1].toNat s[2].toNat s[3].toNat s[4].toNat 4 = 0 from rfl]
      go_wp2_with fail
      refine ⟨⟨3, by omega, rfl, ?_, hW⟩, by simp [intOf]⟩
      rw [show acc s[1].toNat s[2].toNat s[3].toNat s[4].toNat 3 = s[4].toNat from rfl]
      all_goals go_num
    | 3, _ =>
      rw [show acc s[1].toNat s[2].toNat s[3].toNat s[4].toNat 3 = s[4].toNat from rfl]
      go_wp2_with fail
      refine ⟨⟨2, by omega, rfl, ?_, hW⟩, by simp [intOf]⟩
      rw [show acc s[1].toNat s[2].toNat s[3].toNat s[4].toNat 2 = s[4].toNat * 256 + s[3].toNat from rfl]
      go_num
    | 2, _ =>
      rw [show acc s[1].toNat s[2].toNat s[3].toNat s[4].toNat 2 = s[4].toNat * 256 + s[3].toNat from rfl]
      go_wp2_with fail
      refine ⟨⟨1, by omega, rfl, ?_, hW⟩, by simp [intOf]⟩
      rw [show acc s[1].toNat s[2].toNat s[3].toNat s[4].toNat 1 = (s[4].toNat * 256 + s[3].toNat) * 256 + s[2].toNat from rfl]
      go_num
    | 1, _ =>
      rw [show acc s[1].toNat s[2].toNat s[3].toNat s[4].toNat 1 = (s[4].toNat * 256 + s[3].toNat) * 256 + s[2].toNat from rfl]
      go_wp2_with fail
      refine ⟨⟨0, by omega, rfl, ?_, hW⟩, by simp [intOf]⟩
      rw [show acc s[1].toNat s[2].toNat s[3].toNat s[4].toNat 0 = ((s[4].toNat * 256 + s[3].toNat) * 256 + s[2].toNat) * 256 + s[1].toNat from rfl]
      go_num
    | 0, _ =>
      have ea : acc s[1].toNat s[2].toNat s[3].toNat s[4].toNat 0 = N := by
        rw [hN.out]
        unfold acc
        simp
        omega
      rw [ea]
      clear ea
      have hz1 : wr.heap[w.heap.size]? = some (.cells #[.slice none 0 0] 24 (0, 0)) := by rw [hW.out]; exact hz.out
      have hb1 : Hid (Below w.heap.size w wr) := Lib.hid (by rw [hW.out]; exact hb0.out)
      have c0 : wr.cell? ⟨w.heap.size, 0, none⟩ = some (.slice none 0 0) := Lib.cell_of_heap hz1 0
      have g0 := Lib.frozen_of_heap hz1 0
      have hzr := Lib.hid hz1
      clear hz1 hW
      have d1 : decide ((4194304 : Int) < (N : Int)) = false := decide_eq_false (by omega)
      have d2 : decide ((s.size : Int) < (N : Int) + 9) = true := decide_eq_true (by omega)
      go_wp2_with fail
      have e0 : (wr.setCell ⟨w.heap.size, 0, none⟩ (.slice none 0 0)).cell? ⟨w.heap.size, 0, none⟩ = some (.slice none 0 0) := Lib.cell_of_heap (set_one hzr.out (.slice none 0 0)) 0
      refine bodyPost_ret (v := .tuple #[.agg #[.slice none 0 0], .int .i64 0, .int .i64 4]) (by simp [results, Tryz.results15, go_sem, e0]) rfl ⟨rfl, ?_⟩
      exact hb1.out.setCell (p := ⟨w.heap.size, 0, none⟩) (Nat.le_refl _) _
end Go.Proofs.YtjidopgohdlfdaaGreatDoor

/-
  The walk of the reference's Take where the sum is another one. Premise: the text is not longer than 2^40 bytes.
-/
namespace Go.Proofs.YtjidopgohdlfdaaGreatDoor
open Go.RowKit Dec Pq S4 Un

set_option maxRecDepth 100000 in
set_option maxHeartbeats 4000000 in
theorem rtake_sum (s : ByteArray) (w : World) (h5 : 5 ≤ s.size) (h85 : s[0] = 85) (hlong : len4 s.data.toList ≤ 4194304) (hsh : len4 s.data.toList + 9 ≤ s.size) (hsl : s.size ≤ 1099511627776) (hq : sealL (s.data.toList.take (len4 s.data.toList + 5)) ≠ s.data.toList.take (len4 s.data.toList + 9)) : Calls Tryz.prog 15 #[.string s] w fun e w' => TakeEnd w.heap.size (takeU s.data.toList) e w' ∧ Below w.heap.size w w' := by
  have hR : Hid (takeU s.data.toList = .inl 14) := Lib.hid (by
    unfold takeU
    rw [if_neg (fun e => by have := congrArg List.length e; rw [size_len, List.length_nil] at this; omega), if_neg (by rw [head_of (by omega), h85]; exact fun e => e rfl), if_neg (by rw [size_len]; omega), if_neg (by omega), if_neg (by rw [size_len]; omega), if_pos hq])
  have hne : s.toList ≠ [] := fun e => by rw [Lib.toList_data] at e; have := congrArg List.length e; rw [size_len, List.length_nil] at this; omega
  have k1 : (s.toList == ([] : List UInt8)) = false := by simpa using hne
  have k2 : ((s[0].toNat : Int) != 85) = false := by rw [h85]; rfl
  have k3 : ((s[0].toNat : Int) == 85) = true := by rw [h85]; rfl
  have d1 : decide ((s.size : Int) < 5) = false := decide_eq_false (by omega)
  have hN := Lib.hid (len4_at h5)
  have hNl := len4_lt h5
  obtain ⟨N, hNe⟩ : ∃ N, len4 s.data.toList = N := ⟨_, rfl⟩
  rw [hNe] at hN hNl hlong hsh hq
  have l1 := s[1].toNat_lt
  have l2 := s[2].toNat_lt
  have l3 := s[3].toNat_lt
  have l4 := s[4].toNat_lt
  rw [hR.out]
  clear hne h85 hR hNe
  go_enter Tryz.func15, Tryz.ntmps15
  go_wp2_with fail
  have hb0 := Lib.hid (one_box (w := w) (cs := #[.slice none 0 0]) (t := 24))
  have hz := Lib.hid (heap_alloc_new w (.cells #[.slice none 0 0] 24))
  generalize (w.alloc (.cells #[.slice none 0 0] 24)) = W at hb0 hz ⊢
  clear k1 k2 k3 d1
  go_loopw [5, 6] (fun n i wr => ∃ k : Nat, k ≤ 4 ∧ i = .int .i64 k ∧ n = .int .i64 (acc s[1].toNat s[2].toNat s[3].toNat s[4].toNat k) ∧ Hid (wr = W)) (fun _ i _ => (intOf i).toNat)
  case atStart => exact ⟨4, by omega, rfl, rfl, Lib.hid rfl⟩
  case round =>
    obtain ⟨k, hk, rfl, rfl, hW⟩ := hrel
    match k, hk with
    | 4, _ =>
      rw [show acc s[1].toNat s[2].toNat s[3].toNat s[4].toNat 4 = 0 from rfl]
      go_wp2_with fail
      refine ⟨⟨3, by omega, rfl, ?_, hW⟩, by simp [intOf]⟩
      rw [show acc s[1].toNat s[2].toNat s[3].toNat s[4].toNat 3 = s[4].toNat from rfl]
      all_goals go_num
    | 3, _ =>
      rw [show acc s[1].toNat s[2].toNat s[3].toNat s[4].toNat 3 = s[4].toNat from rfl]
      go_wp2_with fail
      refine ⟨⟨2, by omega, rfl, ?_, hW⟩, by simp [intOf]⟩
      rw [show acc s[1].toNat s[2].toNat s[3].toNat s[4].toNat 2 = s[4].toNat * 256 + s[3].toNat from rfl]
      go_num
    | 2, _ =>
      rw [show acc s[1].toNat s[2].toNat s[3].toNat s[4].toNat 2 = s[4].toNat * 256 + s[3].toNat from rfl]
      go_wp2_with fail
      refine ⟨⟨1, by omega, rfl, ?_, hW⟩, by simp [intOf]⟩
      rw [show acc s[1].toNat s[2].toNat s[3].toNat s[4].toNat 1 = (s[4].toNat * 256 + s[3].toNat) * 256 + s[2].toNat from rfl]
      go_num
    | 1, _ =>
      rw [show acc s[1].toNat s[2].toNat s[3].toNat s[4].toNat 1 = (s[4].toNat * 256 + s[3].toNat) * 256 + s[2].toNat from rfl]
      go_wp2_with fail
      refine ⟨⟨0, by omega, rfl, ?_, hW⟩, by simp [intOf]⟩
      rw [show acc s[1].toNat s[2].toNat s[3].toNat s[4].toNat 0 = ((s[4].toNat * 256 + s[3].toNat) * 256 + s[2].toNat) * 256 + s[1].toNat from rfl]
      go_num
    | 0, _ =>
      have ea : acc s[1].toNat s[2].toNat s[3].toNat s[4].toNat 0 = N := by
        rw [hN.out]
        unfold acc
        simp
        omega
      rw [ea]
      clear ea
      have hz1 : wr.heap[w.heap.size]? = some (.cells #[.slice none 0 0] 24 (0, 0)) := by rw [hW.out]; exact hz.out
      have hb1 : Hid (Below w.heap.size w wr) := Lib.hid (by rw [hW.out]; exact hb0.out)
      have c0 : wr.cell? ⟨w.heap.size, 0, none⟩ = some (.slice none 0 0) := Lib.cell_of_heap hz1 0
      have g0 := Lib.frozen_of_heap hz1 0
      have hzr := Lib.hid hz1
      clear hz1 hW
      have d1 : decide ((4194304 : Int) < (N : Int)) = false := decide_eq_false (by omega)
      have d2 : decide ((s.size : Int) < (N : Int) + 9) = false := decide_eq_false (by omega)
      have hpz : (s.extract 0 (N + 5)).size ≤ 1099511627776 := by simp; omega
      have hp : Hid (sealL (s.data.toList.take (N + 5)) = (C14.sealB (s.extract 0 (N + 5))).data.toList) := Lib.hid (by rw [← sealL_eq]; simp)
      have hr : Hid (s.data.toList.take (N + 9) = (s.extract 0 (N + 9)).data.toList) := Lib.hid (by simp)
      rw [hp.out, hr.out] at hq
      have q1 : ((C14.sealB (s.extract 0 (N + 5))).toList == (s.extract 0 (N + 9)).toList) = false := by
        rw [Lib.toList_data, Lib.toList_data]
        simpa using hq
      have q2 : ((C14.sealB (s.extract 0 (N + 5))).toList != (s.extract 0 (N + 9)).toList) = true := by
        rw [Lib.toList_data, Lib.toList_data]
        simpa using hq
      have hS : Hid (∀ X, Calls Tryz.prog 25 #[.string (s.extract 0 (N + 5))] X fun e w' => e = .returned (.string (C14.sealB (s.extract 0 (N + 5)))) ∧ Below X.heap.size X w') := Lib.hid (fun X => (C14.rseal_any (s.extract 0 (N + 5)) hpz X).mono (by rintro e w' ⟨h1, h2⟩; exact ⟨h1, h2.below (Nat.le_refl _) (fun k hk => by simp at hk)⟩))
      have hK0 := Lib.hid (Below.drew (Below.refl wr.heap.size wr))
      have hOn : Hid (∀ a c, Below a.heap.size a c → Below wr.heap.size wr a → Below wr.heap.size wr c) := Lib.hid fun a c k h => h.trans (k.mono h.size)
      clear hq hpz
      go_upto_region 16 with fail
      have b1 : (0 : Int) ≤ (N : Int) + 5 := by omega
      have b2 : (N : Int) + 5 ≤ (s.size : Int) := by omega
      have b3 : (0 : Int) ≤ (N : Int) + 9 := by omega
      have b4 : (N : Int) + 9 ≤ (s.size : Int) := by omega
      have t1 : ((N : Int) + 5).toNat = N + 5 := by omega
      have t2 : ((N : Int) + 9).toNat = N + 9 := by omega
      have v1 := IntWalk.i64_in ((N : Int) + 5) (by omega)
      have v2 := IntWalk.i64_in ((N : Int) + 9) (by omega)
      go_region_held3 (fun w' => Below wr.heap.size wr w')
          (first | exact hK0.out | exact hOn.out _ _ (by assumption) (by assumption))
          (first
          | (go_at_call 25; ((with_reducible refine (hS.out _).mono ?_); rintro e u1 ⟨rfl, b1⟩)))
      have hu : Below wr.heap.size wr u1 := by assumption
      have hzu := Lib.hid ((hu.block w.heap.size (by have := hb1.out.size; have := heap_lt hzr.out; omega)).trans hzr.out)
      have hbu : Hid (Below w.heap.size w u1) := Lib.hid (hb1.out.trans (hu.mono hb1.out.size))
      have c1 : u1.cell? ⟨w.heap.size, 0, none⟩ = some (.slice none 0 0) := Lib.cell_of_heap hzu.out 0
      have g1 := Lib.frozen_of_heap hzu.out 0
      go_wp2_with fail
      have e0 : (u1.setCell ⟨w.heap.size, 0, none⟩ (.slice none 0 0)).cell? ⟨w.heap.size, 0, none⟩ = some (.slice none 0 0) := Lib.cell_of_heap (set_one hzu.out (.slice none 0 0)) 0
      refine bodyPost_ret (v := .tuple #[.agg #[.slice none 0 0], .int .i64 0, .int .i64 14]) (by simp [results, Tryz.results15, go_sem, e0]) rfl ⟨rfl, ?_⟩
      exact hbu.out.setCell (p := ⟨w.heap.size, 0, none⟩) (Nat.le_refl _) _
end Go.Proofs.YtjidopgohdlfdaaGreatDoor

/-
  What Take needs behind the sum: no more requests than bytes; commands' rows as they are appended to a unit (CS, Vals). No condition.
-/
namespace Go.Proofs.YtjidopgohdlfdaaGreatDoor
open Go.RowKit Dec Pq S4 Un

theorem step_one {A B L : Nat} {x y : Inp} {q : List Rq} (h : stepF A B L x = .inr (y, q)) : q.length ≤ 1 := by
  unfold stepF at h
  split at h
  · unfold startF at h
    split at h
    · cases h
    · split at h
      · split at h
        · cases h
        · have hq := congrArg Prod.snd (Sum.inr.inj h)
          simp only [] at hq
          rw [← hq]
          unfold goneM
          split <;> simp
      · split at h
        · cases h
        · have hq := congrArg Prod.snd (Sum.inr.inj h)
          simp only [] at hq
          rw [← hq]
          unfold goneL
          simp only []
          split <;> simp
  · split at h
    · unfold headF at h
      split at h
      · cases h
      · obtain ⟨_, rfl⟩ := Prod.mk.inj (Sum.inr.inj h)
        simp
    · unfold bodyF bodyG at h
      split at h
      · cases h
      · split at h
        · unfold goneB at h
          split at h
          · obtain ⟨_, rfl⟩ := Prod.mk.inj (Sum.inr.inj h)
            simp
          · obtain ⟨_, rfl⟩ := Prod.mk.inj (Sum.inr.inj h)
            simp
        · cases h
/-- No more requests than bytes. -/
theorem feed_count {A B L : Nat} : ∀ (n : Nat) (x : Inp), x.rest.length < n → (feedF A B L x).2.length ≤ x.rest.length
  | 0, _, h => by omega
  | n + 1, x, h => by
    cases hs : stepF A B L x with
    | inl e =>
      by_cases he : e = -1
      · subst he; rw [feed_stop hs]; exact Nat.zero_le _
      · rw [feed_dead hs he]; exact Nat.zero_le _
    | inr p =>
      obtain ⟨y, q⟩ := p
      have h1 := step_lt hs
      have h2 := step_one hs
      have h3 := feed_count (A := A) (B := B) (L := L) n y (by omega)
      rw [feed_next hs, List.length_append]
      omega
theorem all_two {R : Sum Int Inp × List Rq} {w : World} {e : Ending} {w' : World} (h : AllEnd R w e w') : Below w.heap.size w w' ∧ ∃ (q : List MR) (Aq : Option Addr) (cq : Nat) (r0 : ByteArray) (a1 : Option Addr) (n1 c1 : Nat) (i2 i3 : Int) (b4 : Bool) (i5 i6 : Int), q.map rq = R.2 ∧ Rqs w' (fun b => w.heap.size ≤ b) Aq q ∧ e = .returned (.tuple #[.agg #[.string r0, .slice a1 n1 c1, .int .i64 i2, .int .i64 i3, .bool b4, .int .i64 i5, .int .i64 i6], .slice Aq q.length cq]) := by
  obtain ⟨hb, q, Aq, cq, h1, h2, h3⟩ := h
  refine ⟨hb, q, Aq, cq, ?_⟩
  split at h3
  · exact ⟨_, _, _, _, _, _, _, _, _, h1, h2, h3.2⟩
  · obtain ⟨my, a, c, _, _, h4⟩ := h3
    exact ⟨_, _, _, _, _, _, _, _, _, h1, h2, h4⟩
/-- Commands' rows as they are appended to a unit. -/
structure CS (W1 : World) (g : Nat) (v : Value) (vs : List Value) (X : World) : Prop where
  blk : X.heap[g]? = some (.cells #[v] 24 (0, 0))
  own : X.ownsRow W1.heap.size 49 1 v vs.length vs
  ne : v.ownBlock ≠ some g
  bel : Below W1.heap.size W1 X
  ge : W1.heap.size ≤ g
theorem CS.lt {W1 X : World} {g : Nat} {v : Value} {vs : List Value} (h : CS W1 g v vs X) : g < X.heap.size := heap_lt h.blk
theorem CS.on {W1 X Y : World} {g : Nat} {v : Value} {vs : List Value} (h : CS W1 g v vs X) (hb : Below X.heap.size X Y) : CS W1 g v vs Y :=
  ⟨(hb.block g h.lt).trans h.blk, h.own.kept (row := some X.heap.size) (grown_on hb _) (Or.inr fun e => by have := (h.own.lt _ e).2; omega), h.ne, h.bel.trans (hb.mono h.bel.size), h.ge⟩
theorem CS.arg {W1 X W2 w1 : World} {g : Nat} {v y : Value} {vs : List Value} {n cap gb : Nat} (h : CS W1 g v vs X) (hb : Below X.heap.size X W2)
    (hown : w1.ownsRow W1.heap.size 49 1 (.slice (some ⟨gb, 0, none⟩) n cap) (vs.length + 1) (vs ++ [y])) (hg : W2.grownBy w1 v.ownBlock) (hat : v.ownBlock = some gb ∨ gb = W2.heap.size) :
    CS W1 g (.slice (some ⟨gb, 0, none⟩) n cap) (vs ++ [y]) (w1.setCell ⟨g, 0, none⟩ (.slice (some ⟨gb, 0, none⟩) n cap)) := by
  have h2 := h.on hb
  have hb1 : w1.heap[g]? = some (.cells #[v] 24 (0, 0)) := by rw [hg.block g h2.lt (fun e => h.ne e.symm)]; exact h2.blk
  have hne : (Value.slice (some ⟨gb, 0, none⟩) n cap).ownBlock ≠ some g := by
    intro e2
    have e3 : gb = g := Option.some.inj e2
    rcases hat with h3 | h3
    · exact h.ne (by rw [h3, e3])
    · have := h2.lt; omega
  have hbel := h2.bel.grown hg h2.bel.size (fun k hk => (h.own.lt k hk).1)
  exact ⟨set_one hb1 _, by rw [List.length_append]; exact hown.kept (row := some g) (grown_poke w1 g 0 _) (Or.inr hne), hne, hbel.setCell (p := ⟨g, 0, none⟩) h.ge _, h.ge⟩
theorem CS.blk2 {W1 X W2 w1 : World} {g : Nat} {v : Value} {vs : List Value} (h : CS W1 g v vs X) (hb : Below X.heap.size X W2) (hg : W2.grownBy w1 v.ownBlock) : w1.heap[g]? = some (.cells #[v] 24 (0, 0)) := by
  have h2 := h.on hb
  rw [hg.block g h2.lt (fun e => h.ne e.symm)]
  exact h2.blk
theorem cmd_info : (Tryz.prog.info? 49).map (fun i => (i.zero, i.size, i.bytes)) = some (some (.slice none 0 0), 1, 24) := by kernel_rfl
theorem one_slice (A : Option Addr) (n c : Nat) : ∀ u ∈ [Value.slice A n c], u.oneCell' = true := by intro u hu; simp at hu; subst hu; rfl
theorem run_ixR (a : Addr) (k n c : Nat) (hk : k < n) (w : World) : Sem.run Tryz.prog (Instr.indexAt 63 (.slice (some a) n c) (.int .i64 (k : Int))) w = .ok (.pointer (some (a.add (k * 2)))) w := by
  go_simp
/-- The first so many commands' rows, as values. -/
def Vals (U : World) (ok : Nat → Prop) (q : List MR) (vs : List Value) : Prop := ∀ i p, q[i]? = some p → i < vs.length → ∃ Ai ci, vs[i]? = some (.slice Ai p.1.length ci) ∧ SOk U ok Ai p.1
theorem vals_next {U : World} {ok : Nat → Prop} {q : List MR} {vs : List Value} {p : MR} {Ai : Option Addr} {ci : Nat} (h : Vals U ok q vs) (hp : q[vs.length]? = some p) (hs : SOk U ok Ai p.1) : Vals U ok q (vs ++ [.slice Ai p.1.length ci]) := fun i r hr hi => by
  rw [List.length_append] at hi
  by_cases e : i = vs.length
  · subst e
    rw [hp] at hr
    obtain rfl := Option.some.inj hr
    exact ⟨Ai, ci, by simp, hs⟩
  · obtain ⟨B, d, h1, h2⟩ := h i r hr (by simp at hi; omega)
    exact ⟨B, d, by rw [List.getElem?_append_left (by simp at hi; omega)]; exact h1, h2⟩
theorem vals_cmds {U X : World} {ok : Nat → Prop} {g : Nat} {q : List MR} {vs : List Value} {A : Option Addr} {cc : Nat} (h : CS U g (.slice A vs.length cc) vs X) (hv : Vals U ok q vs) (hl : vs.length = q.length) (hok : ∀ b, U.heap.size ≤ b → ok b) : CmdsOk X ok A (q.map (·.1)) := fun i ss hi => by
  rw [List.getElem?_map] at hi
  obtain ⟨p, hp, rfl⟩ := Option.map_eq_some_iff.1 hi
  have hil := (List.getElem?_eq_some_iff.1 hp).1
  obtain ⟨Ai, ci, h1, h2⟩ := hv i p hp (by omega)
  rcases h.own.2 with ⟨_, h0⟩ | ⟨gb, cap, cur, hve, _⟩
  · omega
  · obtain ⟨e1, _, _⟩ : A = some ⟨gb, 0, none⟩ ∧ vs.length = vs.length ∧ cc = cap := by simpa using hve
    have hob : (Value.slice A vs.length cc).ownBlock = some gb := by rw [e1]; rfl
    exact ⟨⟨gb, 0, none⟩, e1, hok _ (h.own.lt gb hob).1, (h.own.lt gb hob).2, Ai, ci, h.own.cells hob i _ h1, h2.on (h.bel)⟩
theorem uu_reqs {q : List MR} {b : List UInt8} (h : q.map rq = (feedF 65536 1048576 1 (Inp.none b)).2) : uu (q.map (·.1)) = reqsU b := by
  unfold reqsU uu
  rw [← h, List.map_map, List.map_map]
  rfl
end Go.Proofs.YtjidopgohdlfdaaGreatDoor
