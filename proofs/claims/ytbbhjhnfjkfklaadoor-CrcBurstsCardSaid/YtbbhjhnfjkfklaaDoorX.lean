/-
  The law Parts: a sum goes on where it was; what is sealed fits. No condition but the lengths that Go's own strings have.
-/
import Derived.Test.YtbbhjhnfjkfklaaDoorW
namespace Go.Proofs.YtbbhjhnfjkfklaaDoor
open Go.RowKit

def catB (K : List ByteArray) : ByteArray := K.foldl (· ++ ·) ⟨#[]⟩
theorem catB_snoc (K : List ByteArray) (s : ByteArray) : catB (K ++ [s]) = catB K ++ s := by unfold catB; rw [List.foldl_append]; rfl
theorem keys_ind {p : List ByteArray → Prop} (h0 : p []) (h1 : ∀ l o, p l → p (l ++ [o])) (l : List ByteArray) : p l := by
  have : ∀ m : List ByteArray, p m.reverse := fun m => by
    induction m with
    | nil => exact h0
    | cons a m ih => rw [List.reverse_cons]; exact h1 _ _ ih
  rw [← List.reverse_reverse l]
  exact this _
theorem bt_cat (K : List ByteArray) : bt (catB K) = K.flatMap bt := by
  refine keys_ind (p := fun K => bt (catB K) = K.flatMap bt) rfl (fun l o h => ?_) K
  rw [catB_snoc, bt_app, h, List.flatMap_append]
  simp
theorem cat_size (K : List ByteArray) : (∀ k ∈ K, k.size ≤ 2000) → (catB K).size ≤ 2000 * K.length := by
  refine keys_ind (p := fun K => (∀ k ∈ K, k.size ≤ 2000) → (catB K).size ≤ 2000 * K.length) (fun _ => Nat.le_refl _) (fun l o h hk => ?_) K
  have h1 := h (fun k hm => hk k (List.mem_append_left _ hm))
  have h2 := hk o (by simp)
  rw [catB_snoc, ByteArray.size_append, List.length_append]
  simp only [List.length_cons, List.length_nil]
  omega
set_option maxHeartbeats 8000000 in
theorem parts_any (w : World) (A : Option Addr) (c : Nat) (K : List ByteArray) (hK : KeysAt w w.heap.size A K) (hsz : ∀ k ∈ K, k.size ≤ maxLen) (hl : K.length ≤ 140737488355328) (hT : Tab w) : Calls Tryd.prog 4 #[.slice A K.length c] w fun e w' => e = .returned (.bool true) ∧ Below w.heap.size w w' := by
  have hF := Lib.hid (far_any (c := c) hK (Nat.le_refl _) hl hsz)
  have hTH := Lib.hid hT
  clear hT
  cases hf : farS K with
  | true =>
    rw [hf] at hF
    clear hK hsz hl hf
    generalize K.length = n at *
    go_enter Tryd.func4, Tryd.ntmps4
    go_wp2_with (first
      | (go_at_call 6; (with_reducible refine (hF.out).mono ?_); rintro e w1 ⟨rfl, o1⟩; have o1H := Lib.hid o1; clear o1)
      | (go_at_call 7; (with_reducible refine (alive_any _ (hTH.out.keep o1H.out)).mono ?_); rintro e w2 ⟨rfl, o2⟩))
    go_ret
    exact ⟨rfl, (only_nil o1H.out o2).below (Nat.le_refl _) (by simp)⟩
  | false =>
    rw [hf] at hF
    obtain ⟨hk2, hl2⟩ := farS_no hf
    have hsm : Hid (∀ i, (catB (K.take i)).size ≤ 40000) := Lib.hid (fun i => by
      have := cat_size (K.take i) (fun k hk => hk2 k (List.mem_of_mem_take hk))
      rw [List.length_take] at this
      omega)
    have hst : Hid (∀ i y, K[i]? = some y → catB (K.take (i + 1)) = catB (K.take i) ++ y) := Lib.hid (fun i y hy => by
      rw [List.take_add_one, hy]
      exact catB_snoc _ _)
    have hfin : Hid (catB (K.take K.length) = catB K) := Lib.hid (by rw [List.take_length])
    have hall : Hid ((catB K).size ≤ 40000) := Lib.hid (by have := hsm.out K.length; rwa [hfin.out] at this)
    have hget : Hid (∀ i, i < K.length → ∃ y, K[i]? = some y) := Lib.hid (fun i hi => ⟨_, List.getElem?_eq_getElem hi⟩)
    have hOf := Lib.hid (fun W (ho : Only [] w W) => of_any (c := c) (hK.on (ho.below (Nat.le_refl _) (by simp))) ho.size (by omega) (fun k hk => by have := hk2 k hk; omega) (hTH.out.keep ho))
    rw [← bt_cat] at hOf
    have hKH := Lib.hid hK
    have hk2H := Lib.hid hk2
    obtain ⟨T, hTe⟩ : ∃ T, T = catB K := ⟨_, rfl⟩
    rw [← hTe] at hfin hall hOf
    clear hK hsz hl hf hTe hk2
    generalize K.length = n at *
    have hl2H := Lib.hid hl2
    go_enter Tryd.func4, Tryd.ntmps4
    go_wp2_with (first
      | (go_at_call 6; (with_reducible refine (hF.out).mono ?_); rintro e w1 ⟨rfl, o1⟩; have o1H := Lib.hid o1; clear o1 hF))
    go_loopw [3, 11] (fun s3 s11 wr => ∃ i : Nat, i ≤ n ∧ s11 = .int .i64 i ∧ s3 = .string (catB (K.take i)) ∧ w1 = wr) (fun _ s11 _ => n - (intOf s11).toNat)
    case atStart => exact ⟨0, by omega, rfl, rfl, rfl⟩
    case round =>
      obtain ⟨i, hi, rfl, rfl, rfl⟩ := hrel
      have hsi := hsm.out i
      by_cases hil : i < n
      · obtain ⟨y, hy⟩ := hget.out i hil
        obtain ⟨a, rfl, ha, d0⟩ := hKH.out.on (o1H.out.below (Nat.le_refl _) (by simp)) i y hy
        have hix := run_ixK a i n c hil
        have hy2 := hk2H.out y (List.mem_of_getElem? hy)
        have hs1 := Lib.hid (hst.out i y hy)
        have hlt : decide ((i : Int) < (n : Int)) = true := decide_eq_true (by omega)
        have hltn : decide (i < n) = true := decide_eq_true hil
        have hwk := wrap_small (x := (i : Int) + 1) (by omega)
        obtain ⟨G, hG⟩ : ∃ G, G = catB (K.take i) := ⟨_, rfl⟩
        rw [← hG] at hsi hs1 ⊢
        have hcat : G.size + y.size ≤ 9223372036854775807 := by omega
        have hilH := Lib.hid hil
        clear hy hG hil
        go_wp2_with fail
        go_roundw
        case rel => exact ⟨i + 1, by have := hilH.out; omega, by go_num, by rw [hs1.out], trivial⟩
        case measure => have := hilH.out; simp [intOf]; omega
      · have hin : i = n := by omega
        subst hin
        rw [hfin.out]
        have hO1 := Lib.hid (hOf.out w1 o1H.out)
        have h6 : Hid (T.size ≤ 1099511627776) := Lib.hid (by have := hall.out; omega)
        clear hsi hil
        go_wp2_with (first
          | (go_at_call 13; (with_reducible refine (hO1.out).mono ?_); rintro e w2 ⟨rfl, o2⟩; have o2H := Lib.hid (only_nil o1H.out o2); have hO2 := Lib.hid (of_one w2 T h6.out (hTH.out.keep (only_nil o1H.out o2))); clear o2 hO1)
          | (go_at_call 13; (with_reducible refine (hO2.out).mono ?_); rintro e w3 ⟨rfl, o3⟩; have o3H := Lib.hid (only_nil o2H.out o3); clear o3 hO2)
          | (go_at_call 15; (with_reducible refine (seal_any T h6.out _ (hTH.out.keep o3H.out)).mono ?_); rintro e w4 ⟨rfl, o4⟩; have o4H := Lib.hid (only_nil o3H.out o4); have hFi := fits_any (sealB T) (by rw [seal_size]; have := hall.out; omega) w4 (hTH.out.keep (only_nil o3H.out o4)); rw [fits_seal] at hFi; have hFiH := Lib.hid hFi; clear o4 hFi)
          | (go_at_call 16; (with_reducible refine (hFiH.out).mono ?_); rintro e w5 ⟨rfl, o5⟩; have o5H := Lib.hid (only_nil o4H.out o5); clear o5)
          | (go_at_call 7; (with_reducible refine (alive_any _ (hTH.out.keep o5H.out)).mono ?_); rintro e w6 ⟨rfl, o6⟩))
        go_ret
        exact ⟨rfl, (only_nil o5H.out o6).below (Nat.le_refl _) (by simp)⟩
end Go.Proofs.YtbbhjhnfjkfklaaDoor
