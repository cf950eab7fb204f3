/-
  Rows of texts as they are handed over; the law's own far; what fits. No condition but the lengths that Go's own strings have.
-/
import Derived.Test.YtbbhjhnfjkfklaaDoorC
import Derived.Deep.CutBlock
import Derived.BigRegion
namespace Go.Proofs.YtbbhjhnfjkfklaaDoor
open Go.RowKit

def KeysAt (w : World) (B : Nat) (A : Option Addr) (K : List ByteArray) : Prop := ∀ i x, K[i]? = some x → ∃ a, A = some a ∧ a.block < B ∧ w.cell? (a.add i) = some (.string x)
theorem KeysAt.on {w w' : World} {A : Option Addr} {K : List ByteArray} {B : Nat} (h : KeysAt w B A K) (hb : Below B w w') : KeysAt w' B A K := by
  intro i x hx
  obtain ⟨a, rfl, h1, h2⟩ := h i x hx
  exact ⟨a, rfl, h1, (hb.cell (by rw [add_block]; exact h1)).trans h2⟩
theorem keys_none (w : World) (B : Nat) (A : Option Addr) : KeysAt w B A [] := fun i x h => by simp at h
theorem keys_one (w : World) (x : ByteArray) : KeysAt (w.alloc (.cells #[.string x] 9)) (w.heap.size + 1) (some ⟨w.heap.size, 0, none⟩) [x] := fun i y h => by
  cases i with
  | zero =>
    simp at h
    subst h
    exact ⟨_, rfl, by simp, Lib.cell_of_heap (heap_alloc_new w _) 0⟩
  | succ i => simp at h
theorem run_ixK (a : Addr) (k n c : Nat) (hk : k < n) (w : World) : Sem.run Tryd.prog (Instr.indexAt 32 (.slice (some a) n c) (.int .i64 (k : Int))) w = .ok (.pointer (some (a.add k))) w := by
  go_simp
def longS (x : ByteArray) : Bool := decide (2000 < x.size)
def farS (K : List ByteArray) : Bool := K.any longS || decide (20 < K.length)
theorem farS_no {K : List ByteArray} (h : farS K = false) : (∀ k ∈ K, k.size ≤ 2000) ∧ K.length ≤ 20 := by
  unfold farS at h
  rw [Bool.or_eq_false_iff] at h
  refine ⟨fun k hk => ?_, by have := of_decide_eq_false h.2; omega⟩
  have := (List.any_eq_false.1 h.1) k hk
  unfold longS at this
  have := of_decide_eq_false (Bool.eq_false_iff.2 this)
  omega
set_option maxHeartbeats 4000000 in
theorem far_any {w : World} {B : Nat} {A : Option Addr} {c : Nat} {l : List ByteArray} (h : KeysAt w B A l) (hB : B ≤ w.heap.size) (hl : l.length ≤ 140737488355328) (hs : ∀ o ∈ l, o.size ≤ maxLen) :
    Calls Tryd.prog 6 #[.slice A l.length c] w fun e w' => e = .returned (.bool (farS l)) ∧ Only [] w w' := by
  have hH := Lib.hid h
  have hsH := Lib.hid hs
  have hend : Hid ((∀ j x, j < l.length → l[j]? = some x → longS x = false) → farS l = decide (20 < l.length)) := Lib.hid (fun hq => by
    unfold farS
    rw [List.any_eq_false.2 (fun o ho => by
      obtain ⟨j, hj⟩ := List.getElem?_of_mem ho
      rw [hq j o (List.getElem?_eq_some_iff.1 hj).1 hj]
      exact Bool.false_ne_true)]
    simp)
  have hhit : Hid (∀ o ∈ l, longS o = true → farS l = true) := Lib.hid (fun o ho hq => by
    unfold farS
    rw [List.any_eq_true.2 ⟨o, ho, hq⟩]
    rfl)
  have hget : Hid (∀ i, i < l.length → ∃ y, l[i]? = some y) := Lib.hid (fun i hi => ⟨_, List.getElem?_eq_getElem hi⟩)
  have hBH := Lib.hid hB
  generalize hfv : farS l = fv at *
  clear h hs hfv hB
  generalize l.length = n at *
  go_enter Tryd.func6, Tryd.ntmps6
  go_wp2_with fail
  go_loopw [4, 7] (fun s4 s7 wr => ∃ i : Nat, i ≤ n ∧ s7 = .int .i64 i ∧ Hid (∀ j x, j < i → l[j]? = some x → longS x = false) ∧ Hid (Only [] w wr)) (fun _ s7 _ => n - (intOf s7).toNat)
  case atStart => exact ⟨0, by omega, rfl, Lib.hid (fun j x hj => by omega), Lib.hid (Only.refl _ _)⟩
  case round =>
    obtain ⟨i, hi, rfl, hpre, hon⟩ := hrel
    by_cases hil : i < n
    · obtain ⟨y, hy⟩ := hget.out i hil
      obtain ⟨a, rfl, ha, x0⟩ := hH.out.on (hon.out.below hBH.out (by simp)) i y hy
      have hix := run_ixK a i n c hil
      have hsz := hsH.out y (List.mem_of_getElem? hy)
      have hilH := Lib.hid hil
      have hyH := Lib.hid hy
      have hlt : decide ((i : Int) < (n : Int)) = true := decide_eq_true (by omega)
      have hltn : decide (i < n) = true := decide_eq_true hil
      have hwk := wrap_small (x := (i : Int) + 1) (by omega)
      clear hy
      by_cases hlg : 2000 < y.size
      · have hv : fv = true := hhit.out _ (List.mem_of_getElem? hyH.out) (decide_eq_true hlg)
        have hd : decide ((2000 : Int) < (y.size : Int)) = true := decide_eq_true (by omega)
        have hd2 : decide (2000 < y.size) = true := decide_eq_true hlg
        have hvH := Lib.hid hv
        clear hv hlg hil hsz
        go_wp2_with fail
        go_ret
        exact ⟨ret_bool hvH.out.symm, hon.out⟩
      · have hd : decide ((2000 : Int) < (y.size : Int)) = false := decide_eq_false (by omega)
        have hd2 : decide (2000 < y.size) = false := decide_eq_false hlg
        have hno : Hid (longS y = false) := Lib.hid (decide_eq_false hlg)
        clear hlg hil hsz
        go_wp2_with fail
        go_roundw
        case rel =>
          refine ⟨i + 1, by have := hilH.out; omega, by go_num, Lib.hid (fun j x hj hx => ?_), hon⟩
          by_cases e : j = i
          · subst e
            rw [hyH.out] at hx
            cases hx
            exact hno.out
          · exact hpre.out j x (by omega) hx
        case measure => have := hilH.out; simp [intOf]; omega
    · have hin : i = n := by omega
      subst hin
      have hv := hend.out (fun j x hj hx => hpre.out j x hj hx)
      have hvH := Lib.hid hv
      clear hv
      go_wp2_with fail
      go_ret
      exact ⟨ret_bool (by rw [hvH.out]; exact decide_eq_decide.2 (by omega)), hon.out⟩
/-- Whether a text has its sum behind. -/
def fitsB (s : ByteArray) : Bool := decide (4 ≤ s.size) && ((sealB (s.extract 0 (s.size - 4))).toList == s.toList)
theorem bt_inj {s t : ByteArray} (h : bt s = bt t) : s = t := by
  have e : s.data.toList = t.data.toList := by
    unfold bt at h
    exact (List.map_inj_right (fun a b hab => UInt8.toNat_inj.1 hab)).1 h
  cases s; cases t
  simp only at e
  congr 1
  exact Array.toList_inj.1 e
theorem bt_sum (v : Nat) : bt (sumB v) = le4 v := by
  unfold bt sumB le4
  simp [UInt8.toNat_ofNat']
theorem bt_seal (s : ByteArray) : bt (sealB s) = sealN (bt s) := by
  unfold sealB sealN
  rw [bt_app, bt_sum]
theorem seal_size (s : ByteArray) : (sealB s).size = s.size + 4 := by
  unfold sealB
  rw [ByteArray.size_append]
  rfl
theorem fits_some {s : ByteArray} (h : fitsB s = true) : ∃ p, s = sealB p := by
  unfold fitsB at h
  rw [Bool.and_eq_true] at h
  exact ⟨_, (ba_eq (by simpa using h.2)).symm⟩
theorem fits_seal (s : ByteArray) : fitsB (sealB s) = true := by
  unfold fitsB
  rw [seal_size, decide_eq_true (by omega)]
  have e : (sealB s).extract 0 (s.size + 4 - 4) = s := by
    unfold sealB
    rw [show s.size + 4 - 4 = s.size by omega]
    apply ByteArray.ext
    simp
  rw [e]
  simp
end Go.Proofs.YtbbhjhnfjkfklaaDoor
