/-
  The program's sum: folded, Byte, More, Of, tail, Seal, Fits. The table of folds holds what the program's text lays; no other condition but the lengths that Go's own strings have.
-/
import Derived.Test.YtbbhjhnfjkfklaaDoorD
import Derived.Test.YtbbhjhnfjkfklaaDoorMathF
import Derived.Deep.RegionHeld3
import Derived.Deep.QuietTactic
import Derived.BigQuiet
namespace Go.Proofs.YtbbhjhnfjkfklaaDoor
open Go.RowKit

/-- The table as it lies. -/
def Tab (w : World) : Prop := ∀ i : Nat, i < 16 → w.cell? ⟨0, i, none⟩ = some (.int .u32 (shs 4 i : Nat))
theorem Tab.keep {w w' : World} (h : Tab w) (ho : Only [] w w') : Tab w' := fun i hi => cell_keep ho (h i hi)
theorem quiet {w : World} {e : Ending} {v : Value} {w' : World} (h : e = .returned v ∧ w = w') : e = .returned v ∧ Only [] w w' := ⟨h.1, h.2 ▸ Only.refl [] w⟩
theorem folded_any {n : Nat} (hn : n < 4294967296) (w : World) (hT : Tab w) : Calls Tryd.prog 17 #[.int .u32 (n : Int)] w fun e w' => e = .returned (.int .u32 (shs 4 n : Nat)) ∧ w = w' := by
  have hc := hT (n % 16) (by omega)
  have hsl : shs 4 (n % 16) < 4294967296 := shs_lt 4 (by omega)
  have hxx : bits .xor .u32 ((n / 16 : Nat) : Int) ((shs 4 (n % 16) : Nat) : Int) = ((shs 4 n : Nat) : Int) := by
    rw [xor_u32 (by omega) hsl, fold_row n]
  have hxxH := Lib.hid hxx
  obtain ⟨f, hf⟩ : ∃ f, f = shs 4 (n % 16) := ⟨_, rfl⟩
  obtain ⟨G, hG⟩ : ∃ G, G = shs 4 n := ⟨_, rfl⟩
  rw [← hf] at hc hxxH
  rw [← hG] at hxxH ⊢
  obtain ⟨q, hq⟩ : ∃ q, q = n % 16 := ⟨_, rfl⟩
  obtain ⟨u, hu⟩ : ∃ u, u = n / 16 := ⟨_, rfl⟩
  rw [← hq] at hc
  rw [← hu] at hxxH
  have h1 : (n : Int) / 16 = (u : Int) := by omega
  have h2 : (n : Int) % 16 = (q : Int) := by omega
  have h3 : (n : Int).tmod 16 = (q : Int) := by rw [Int.tmod_eq_emod_of_nonneg (by omega)]; omega
  have h4 := w32_small (n := q) (by omega)
  have h5 : q < 16 := by omega
  clear hq hu
  clear hxx hf hG hsl hT
  go_enter Tryd.func17, Tryd.ntmps17
  go_wp2_with fail
  go_ret
  exact ⟨ret_u (by rw [← hxxH.out]), rfl⟩
theorem byte_any {n b : Nat} (hn : n < 4294967296) (hb : b < 256) (w : World) (hT : Tab w) : Calls Tryd.prog 9 #[.int .u32 (n : Int), .int .u8 (b : Int)] w fun e w' => e = .returned (.int .u32 (byteN n b : Nat)) ∧ Only [] w w' := by
  refine Calls.mono (R := fun e w' => e = .returned (.int .u32 (byteN n b : Nat)) ∧ w = w') ?_ (fun e w' h => quiet h)
  have hx0 := xor_u32 hn (b := b) (by omega)
  have hwb := w32_small (n := b) (by omega)
  have hm : n ^^^ b < 4294967296 := lt_xor hn (by omega)
  have hF := Lib.hid (folded_any hm w hT)
  have hF2 := Lib.hid (folded_any (shs_lt 4 hm) w hT)
  rw [byte_folds]
  generalize n ^^^ b = m at *
  generalize hq : shs 4 m = q at *
  clear hn hb hm hT hq
  go_enter Tryd.func9, Tryd.ntmps9
  go_wp2_with (first
    | (go_at_call 17; (with_reducible refine (hF.out).mono ?_); rintro e w1 ⟨rfl, rfl⟩)
    | (go_at_call 17; (with_reducible refine (hF2.out).mono ?_); rintro e w1 ⟨rfl, rfl⟩))
  go_ret
  exact ⟨rfl, rfl⟩
theorem more_any {n : Nat} (hn : n < 4294967296) (s : ByteArray) (hs : s.size ≤ 1099511627776) (w : World) (hT : Tab w) : Calls Tryd.prog 11 #[.int .u32 (n : Int), .string s] w fun e w' => e = .returned (.int .u32 (moreN n (bt s) : Nat)) ∧ Only [] w w' := by
  have hlt := Lib.hid (fun i => moreN_lt (l := (bt s).take i) (fun b hb => bt_lt s b (List.mem_of_mem_take hb)) hn)
  have hst : Hid (∀ i (h : i < s.size), moreN n ((bt s).take (i + 1)) = byteN (moreN n ((bt s).take i)) s[i].toNat) := Lib.hid (fun i h => by
    rw [List.take_add_one, bt_at h]
    exact moreN_snoc _ _ _)
  have hfin : Hid (moreN n ((bt s).take s.size) = moreN n (bt s)) := Lib.hid (by rw [← bt_len, List.take_length])
  have hTH := Lib.hid hT
  clear hT
  obtain ⟨G, hG⟩ : ∃ G, G = moreN n (bt s) := ⟨_, rfl⟩
  rw [← hG] at hfin ⊢
  clear hG
  go_enter Tryd.func11, Tryd.ntmps11
  go_wp2_with fail
  go_loopw [0, 8] (fun s0 s8 wr => ∃ i : Nat, i ≤ s.size ∧ s8 = .int .i64 i ∧ s0 = .int .u32 (moreN n ((bt s).take i) : Nat) ∧ Hid (Only [] w wr)) (fun _ s8 _ => s.size - (intOf s8).toNat)
  case atStart => exact ⟨0, by omega, rfl, rfl, Lib.hid (Only.refl _ _)⟩
  case round =>
    obtain ⟨i, hi, rfl, rfl, hon⟩ := hrel
    obtain ⟨q, hq⟩ : ∃ q, q = moreN n ((bt s).take i) := ⟨_, rfl⟩
    have hl := hlt.out i
    by_cases hil : i < s.size
    · have hs2 := hst.out i hil
      rw [← hq] at hl hs2 ⊢
      have hB := Lib.hid (byte_any hl (b := s[i].toNat) s[i].toNat_lt wr (hTH.out.keep hon.out))
      have hs2H := Lib.hid hs2
      have hwk := wrap_small (x := (i : Int) + 1) (by omega)
      clear hs2 hq
      go_wp2_with (go_at_call 9; (with_reducible refine (hB.out).mono ?_); rintro e w1 ⟨rfl, o1⟩; have o1H := Lib.hid (hon.out.trans o1 (by simp)); clear o1)
      go_roundw
      case rel => exact ⟨i + 1, by omega, by go_num, by rw [hs2H.out], o1H⟩
      case measure => simp [intOf]; omega
    · have hin : i = s.size := by omega
      subst hin
      rw [hfin.out]
      clear hq
      go_wp2_with fail
      go_ret
      exact ⟨rfl, hon.out⟩
theorem moreN_flat (n : Nat) (K : List ByteArray) (s : ByteArray) : moreN n ((K ++ [s]).flatMap bt) = moreN (moreN n (K.flatMap bt)) (bt s) := by
  rw [List.flatMap_append, moreN_app]
  simp
theorem flat_lt (K : List ByteArray) : ∀ b ∈ K.flatMap bt, b < 256 := fun b hb => by
  obtain ⟨s, _, h⟩ := List.mem_flatMap.1 hb
  exact bt_lt s b h
theorem of_any {w : World} {B : Nat} {A : Option Addr} {c : Nat} {K : List ByteArray} (h : KeysAt w B A K) (hB : B ≤ w.heap.size) (hl : K.length ≤ 1000000) (hs : ∀ k ∈ K, k.size ≤ 1099511627776) (hT : Tab w) :
    Calls Tryd.prog 13 #[.slice A K.length c] w fun e w' => e = .returned (.int .u32 (ofN (K.flatMap bt) : Nat)) ∧ Only [] w w' := by
  have hlt := Lib.hid (fun i => moreN_lt (l := (K.take i).flatMap bt) (flat_lt _) (n := full) (by decide))
  have hst : Hid (∀ i y, K[i]? = some y → moreN full ((K.take (i + 1)).flatMap bt) = moreN (moreN full ((K.take i).flatMap bt)) (bt y)) := Lib.hid (fun i y hy => by
    rw [List.take_add_one, hy]
    exact moreN_flat _ _ _)
  have hfin : Hid (bits .xor .u32 4294967295 (moreN full ((K.take K.length).flatMap bt) : Nat) = ((ofN (K.flatMap bt) : Nat) : Int)) := Lib.hid (by
    rw [List.take_length]
    have := xor_u32 (a := full) (by decide) (moreN_lt (flat_lt K) (n := full) (by decide))
    rw [Nat.xor_comm] at this
    exact this)
  have hget : Hid (∀ i, i < K.length → ∃ y, K[i]? = some y) := Lib.hid (fun i hi => ⟨_, List.getElem?_eq_getElem hi⟩)
  have hTH := Lib.hid hT
  have hKH := Lib.hid h
  have hBH := Lib.hid hB
  have hsH := Lib.hid hs
  obtain ⟨G, hG⟩ : ∃ G, G = ofN (K.flatMap bt) := ⟨_, rfl⟩
  rw [← hG] at hfin ⊢
  clear h hB hs hG hT
  generalize K.length = n at *
  go_enter Tryd.func13, Tryd.ntmps13
  go_wp2_with fail
  go_loopw [3, 8] (fun s3 s8 wr => ∃ i : Nat, i ≤ n ∧ s8 = .int .i64 i ∧ s3 = .int .u32 (moreN full ((K.take i).flatMap bt) : Nat) ∧ Hid (Only [] w wr)) (fun _ s8 _ => n - (intOf s8).toNat)
  case atStart => exact ⟨0, by omega, rfl, rfl, Lib.hid (Only.refl _ _)⟩
  case round =>
    obtain ⟨i, hi, rfl, rfl, hon⟩ := hrel
    obtain ⟨q, hq⟩ : ∃ q, q = moreN full ((K.take i).flatMap bt) := ⟨_, rfl⟩
    have hq2 := hlt.out i
    by_cases hil : i < n
    · obtain ⟨y, hy⟩ := hget.out i hil
      obtain ⟨a, rfl, ha, d0⟩ := hKH.out.on (hon.out.below hBH.out (by simp)) i y hy
      have hix := run_ixK a i n c hil
      have hs2 := hst.out i y hy
      rw [← hq] at hq2 hs2 ⊢
      have hM := Lib.hid (more_any hq2 y (hsH.out y (List.mem_of_getElem? hy)) wr (hTH.out.keep hon.out))
      have hs2H := Lib.hid hs2
      have hilH := Lib.hid hil
      have hlt1 : decide ((i : Int) < (n : Int)) = true := decide_eq_true (by omega)
      have hltn : decide (i < n) = true := decide_eq_true hil
      have hwk := wrap_small (x := (i : Int) + 1) (by omega)
      clear hs2 hq hy hil
      go_wp2_with (go_at_call 11; (with_reducible refine (hM.out).mono ?_); rintro e w1 ⟨rfl, o1⟩; have o1H := Lib.hid (hon.out.trans o1 (by simp)); clear o1)
      go_roundw
      case rel => exact ⟨i + 1, by have := hilH.out; omega, by go_num, by rw [hs2H.out], o1H⟩
      case measure => have := hilH.out; simp [intOf]; omega
    · have hin : i = n := by omega
      subst hin
      have hf := hfin.out
      rw [← hq] at hf hq2 ⊢
      clear hq hil
      have hfH := Lib.hid hf
      clear hf
      go_wp2_with fail
      go_ret
      refine ⟨?_, hon.out⟩
      show Ending.returned (.int .u32 (bits .xor .u32 IntKind.u32.max (q : Int))) = _
      rw [show IntKind.u32.max = 4294967295 from by decide, hfH.out]
theorem of_any1 (w : World) (s : ByteArray) (hs : s.size ≤ 1099511627776) (hT : Tab w) : Calls Tryd.prog 13 #[.slice (some ⟨w.heap.size, 0, none⟩) 1 1] (w.alloc (.cells #[.string s] 9)) fun e w' => e = .returned (.int .u32 (ofN (bt s) : Nat)) ∧ Only [] w w' := by
  refine (of_any (c := 1) (keys_one w s) (by simp) (by simp) (fun k hk => by rw [List.mem_singleton.1 hk]; exact hs) (hT.keep ((Only.refl [] w).alloc _))).mono ?_
  rintro e w' ⟨rfl, ho⟩
  exact ⟨by simp, ((Only.refl [] w).alloc _).trans ho (by simp)⟩

def by4 (v : Nat) : Nat → Value
  | 0 => .int .u8 ((v % 256 : Nat) : Int)
  | 1 => .int .u8 ((v / 256 % 256 : Nat) : Int)
  | 2 => .int .u8 ((v / 65536 % 256 : Nat) : Int)
  | _ => .int .u8 ((v / 16777216 % 256 : Nat) : Int)
def sh8 (v : Nat) : Nat → Nat
  | 0 => v
  | 1 => v / 256
  | 2 => v / 65536
  | 3 => v / 16777216
  | _ => 0
def row4 (v i : Nat) : Array Value := #[if 0 < i then by4 v 0 else .int .u8 0, if 1 < i then by4 v 1 else .int .u8 0, if 2 < i then by4 v 2 else .int .u8 0, if 3 < i then by4 v 3 else .int .u8 0]
theorem row4_at (v i : Nat) : (row4 v i)[i]? = if i < 4 then some (.int .u8 0) else none := by
  match i with
  | 0 => rfl
  | 1 => rfl
  | 2 => rfl
  | 3 => rfl
  | i + 4 => rw [if_neg (by omega)]; exact Array.getElem?_eq_none (by simp [row4])
theorem row4_set {v i : Nat} (h : i < 4) : (row4 v i).setIfInBounds i (by4 v i) = row4 v (i + 1) := by
  match i, h with
  | 0, _ => rfl
  | 1, _ => rfl
  | 2, _ => rfl
  | 3, _ => rfl
theorem row4_conv {w : World} {g v : Nat} (h : w.heap[g]? = some (.cells (row4 v 4) 40)) : (convert 34 9 (.slice (some ⟨g, 0, none⟩) 4 4)).run Tryd.prog w = .ok (.string (sumB v)) w := by
  refine run_convert_bytes_back _ 34 9 5 ⟨g, 0, none⟩ 4 [UInt8.ofNat v, UInt8.ofNat (v / 256), UInt8.ofNat (v / 65536), UInt8.ofNat (v / 16777216)] Tryd.underlying34 Tryd.underlying5 Tryd.underlying9 (Lib.bytes_of_row h ?_)
  simp [Lib.byteCells, row4, by4]
theorem sh8_step {v i : Nat} (hv : v < 4294967296) (h : i < 4) : ((sh8 v i : Nat) : Int) / 256 = ((sh8 v (i + 1) : Nat) : Int) ∧ Value.int .u8 (((sh8 v i : Nat) : Int) % 256) = by4 v i := by
  match i, h with
  | 0, _ => exact ⟨by simp only [sh8]; omega, by simp only [sh8, by4]; rfl⟩
  | 1, _ => exact ⟨by simp only [sh8]; omega, by simp only [sh8, by4]; rfl⟩
  | 2, _ => exact ⟨by simp only [sh8]; omega, by simp only [sh8, by4]; rfl⟩
  | 3, _ => exact ⟨by simp only [sh8]; omega, by simp only [sh8, by4]; rfl⟩
set_option maxHeartbeats 4000000 in
theorem tail_any (s : ByteArray) (hs : s.size ≤ 1099511627776) (w : World) (hT : Tab w) : Calls Tryd.prog 18 #[.string s] w fun e w' => e = .returned (.string (sumB (ofN (bt s)))) ∧ Only [] w w' := by
  have o0 : Only [] w (w.alloc (.cells #[.int .u8 0, .int .u8 0, .int .u8 0, .int .u8 0] 40)) := (Only.refl [] w).alloc _
  have hO := of_any1 (w.alloc (.cells #[.int .u8 0, .int .u8 0, .int .u8 0, .int .u8 0] 40)) s hs (hT.keep o0)
  rw [show (w.alloc (.cells #[.int .u8 0, .int .u8 0, .int .u8 0, .int .u8 0] 40)).heap.size = w.heap.size + 1 by simp] at hO
  have hOH := Lib.hid hO
  have hv := Lib.hid (ofN_lt (bt_lt s))
  have hnew := Lib.hid (heap_alloc_new w (.cells #[.int .u8 0, .int .u8 0, .int .u8 0, .int .u8 0] 40))
  have o0H := Lib.hid o0
  clear hO o0
  generalize ofN (bt s) = v at *
  clear hT hs
  go_enter Tryd.func18, Tryd.ntmps18
  go_wp2_with (go_at_call 13; (with_reducible refine (hOH.out).mono ?_); rintro e w1 ⟨rfl, o1⟩; have hblk : Hid (w1.heap[w.heap.size]? = some (.cells (row4 v 0) 40)) := Lib.hid (o1.keep hnew.out (by simp)); have o1H := Lib.hid (o0H.out.trans o1 (by simp)); clear o1 hOH)
  go_loopw [4, 9] (fun s4 s9 wr => ∃ i : Nat, i ≤ 4 ∧ s9 = .int .i64 i ∧ s4 = .int .u32 (sh8 v i : Nat) ∧ Hid (wr.heap[w.heap.size]? = some (.cells (row4 v i) 40)) ∧ Hid (Only [] w wr)) (fun _ s9 _ => 4 - (intOf s9).toNat)
  case atStart => exact ⟨0, by omega, rfl, rfl, hblk, o1H⟩
  case round =>
    obtain ⟨i, hi, rfl, rfl, hb, hon⟩ := hrel
    by_cases hil : i < 4
    · have hce : wr.cell? ⟨w.heap.size, i, none⟩ = some (.int .u8 0) := by
        rw [Lib.cell_of_heap hb.out i, row4_at, if_pos hil]
      have hfz : wr.frozen? ⟨w.heap.size, i, none⟩ = false := by simp [World.frozen?, hb.out]
      obtain ⟨hs1, hs2⟩ := sh8_step hv.out hil
      have hs2H := Lib.hid hs2
      have hs1H := Lib.hid hs1
      have hwk := wrap_small (x := (i : Int) + 1) (by omega)
      have hilH := Lib.hid hil
      have hlt : decide ((i : Int) < 4) = true := decide_eq_true (by omega)
      clear hs1 hs2
      go_wp2_with fail
      rw [hs1H.out, hs2H.out]
      refine ⟨⟨i + 1, by have := hilH.out; omega, by go_num, rfl, Lib.hid ?_, Lib.hid (hon.out.set (p := ⟨w.heap.size, i, none⟩) (Or.inr (Nat.le_refl _)) _)⟩, by have := hilH.out; simp [intOf]; omega⟩
      rw [Joins.block_setCell hb.out, row4_set hilH.out]
    · have hi4 : i = 4 := by omega
      subst hi4
      have hcv := row4_conv hb.out
      clear hil
      go_wp2_with fail
      go_ret
      exact ⟨rfl, hon.out⟩
theorem seal_any (s : ByteArray) (hs : s.size ≤ 1099511627776) (w : World) (hT : Tab w) : Calls Tryd.prog 15 #[.string s] w fun e w' => e = .returned (.string (sealB s)) ∧ Only [] w w' := by
  have hO := Lib.hid (tail_any s hs w hT)
  unfold sealB
  have hz : Hid (∀ v, (sumB v).size = 4) := Lib.hid (fun _ => rfl)
  generalize ofN (bt s) = v at *
  have hz4 := hz.out v
  generalize sumB v = t at *
  have hb : s.size + t.size ≤ 9223372036854775807 := by omega
  clear hz hz4
  go_enter Tryd.func15, Tryd.ntmps15
  go_wp2_with (go_at_call 18; (with_reducible refine (hO.out).mono ?_); rintro e w1 ⟨rfl, o1⟩; have o1H := Lib.hid o1; clear o1)
  go_ret
  exact ⟨rfl, o1H.out⟩
theorem fits_tail {s : ByteArray} (h4 : 4 ≤ s.size) : fitsB s = ((s.extract (s.size - 4) s.size).toList == (sumB (ofN (bt (s.extract 0 (s.size - 4))))).toList) := by
  have hsplit : s = s.extract 0 (s.size - 4) ++ s.extract (s.size - 4) s.size := by
    rw [ByteArray.extract_append_extract]
    simp
  unfold fitsB sealB
  rw [decide_eq_true h4, Bool.true_and]
  obtain ⟨p, hp⟩ : ∃ p, p = s.extract 0 (s.size - 4) := ⟨_, rfl⟩
  obtain ⟨q, hq⟩ : ∃ q, q = s.extract (s.size - 4) s.size := ⟨_, rfl⟩
  rw [← hp, ← hq] at hsplit ⊢
  rw [hsplit, Lib.toList_data, Lib.toList_data, Lib.toList_data, Lib.toList_data]
  rw [Bool.eq_iff_iff]
  simp only [beq_iff_eq, ByteArray.data_append, Array.toList_append, List.append_cancel_left_eq]
  exact eq_comm
set_option maxHeartbeats 4000000 in
theorem fits_any (s : ByteArray) (hs : s.size ≤ 1099511627776) (w : World) (hT : Tab w) : Calls Tryd.prog 16 #[.string s] w fun e w' => e = .returned (.bool (fitsB s)) ∧ Only [] w w' := by
  by_cases h4 : 4 ≤ s.size
  · have hw4 := wrap_small (x := (s.size : Int) - 4) (by omega)
    have hfb := fits_tail h4
    obtain ⟨k, hk⟩ : ∃ k, k = s.size - 4 := ⟨_, rfl⟩
    rw [← hk] at hfb
    rw [hfb]
    have hki : (s.size : Int) - 4 = (k : Int) := by omega
    have hS := Lib.hid (fun W (hW : Hid (Only [] w W)) => tail_any (s.extract 0 k) (by simp; omega) W (hT.keep hW.out))
    have h0 : Hid (Only [] w w.drew) := Lib.hid ((Only.refl [] w).drew)
    have hJ : Hid (∀ a b, Hid (Only [] w a) → Only [] a b → Hid (Only [] w b)) := Lib.hid (fun a b x y => Lib.hid (x.out.trans y (by simp)))
    have hks : k ≤ s.size := by omega
    have hksi : (k : Int) ≤ (s.size : Int) := by omega
    clear hfb hT hk
    go_enter Tryd.func16, Tryd.ntmps16
    go_upto_region 2 with fail
    have hd : decide ((0 : Int) ≤ (k : Int)) = true := decide_eq_true (by omega)
    have hd2 : (0 : Int) ≤ (k : Int) := by omega
    clear hki hw4 h4 hs
    go_region_held3 (fun w' => Hid (Only [] w w')) (first | exact h0 | assumption | exact hJ.out _ _ (by assumption) (by assumption))
      (first
      | (go_at_call 18; (with_reducible refine (hS.out _ (by assumption)).mono ?_); rintro e w1 ⟨rfl, o1⟩))
    all_goals go_wp2_with fail
    all_goals go_ret
    all_goals exact ⟨rfl, (h0.out.trans o1 (by simp))⟩
  · obtain ⟨z, hz⟩ : ∃ z, z = (s.size : Int) - 4 := ⟨_, rfl⟩
    have hd : decide ((0 : Int) ≤ z) = false := decide_eq_false (by omega)
    have hfb : fitsB s = false := by unfold fitsB; rw [decide_eq_false h4]; rfl
    have hw4 := wrap_small (x := (s.size : Int) - 4) (by omega)
    rw [← hz] at hw4
    have hki : (s.size : Int) - 4 = z := hz.symm
    rw [hfb]
    clear hfb hT hz
    go_enter Tryd.func16, Tryd.ntmps16
    go_upto_region 2 with fail
    clear hki hw4 h4 hs
    go_quiet (fail)
    go_wp2_with fail
    go_ret
    exact ⟨rfl, (Only.refl _ _).drewN _⟩
end Go.Proofs.YtbbhjhnfjkfklaaDoor
