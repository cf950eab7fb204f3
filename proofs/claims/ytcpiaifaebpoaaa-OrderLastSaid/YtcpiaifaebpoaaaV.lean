/-
  An order of the call's own: what was there when the call began lies as it lay. Premises: keys of at most so many bytes as the model's texts have; fewer than a million keys.
-/
import Derived.Test.YtcpiaifaebpoaaaU
import Derived.Test.YtcpiaifaebpoaaaL
import Derived.Deep.CutBlock
import Derived.BigRegion
namespace Go.Proofs.Ytcpiaifaebpoaaa
open Go.RowKit

def Pl (w0 w : World) (p : Nat) (O : List Nat) (L : List ByteArray) : Prop := Ord w p O L ∧ Only [] w0 w ∧ ∀ b ∈ O, w0.heap.size ≤ b
section
variable {w0 w : World} {p : Nat} {O : List Nat} {L : List ByteArray}
theorem Pl.nodup (h : Pl w0 w p O L) : L.Nodup := h.1.nodup
theorem Pl.most (h : Pl w0 w p O L) : Only [] w0 w := h.2.1
theorem Pl.lt (h : Pl w0 w p O L) {b : Nat} (hb : b ∈ O) : b < w.heap.size := h.1.lt hb
theorem Pl.ge (h : Pl w0 w p O L) {b : Nat} (hb : b ∈ O) : w0.heap.size ≤ b := h.2.2 b hb
theorem Pl.same {w' : World} (h : Pl w0 w p O L) (ho : Only [] w w') : Pl w0 w' p O L := ⟨h.1.same ho, h.2.1.trans ho (by simp), h.2.2⟩
theorem pl_new (ho : Only [] w0 w) : Calls Try.prog 8 #[] w fun e w' => ∃ p O, e = .returned (.pointer (some ⟨p, 0, none⟩)) ∧ Pl w0 w' p O [] ∧ Only [] w w' := by
  refine (new_any w).mono ?_
  rintro e w' ⟨rfl, h1, h2⟩
  exact ⟨_, _, rfl, ⟨h1, ho.trans h2 (by simp), fun b hb => by rw [List.mem_singleton.1 hb]; exact ho.size⟩, h2⟩
theorem Pl.step {w' : World} {O' : List Nat} {L' : List ByteArray} (h : Pl w0 w p O L) (k : Ord w' p O' L') (m : Move O w w' O') : Pl w0 w' p O' L' := by
  have hs := h.2.1.size
  exact ⟨k, h.2.1.trans m.1 (fun x hx => Or.inr (h.2.2 x hx)), fun b hb => (m.2 b hb).elim (h.2.2 b) (fun e => by omega)⟩
theorem Pl.touch (h : Pl w0 w p O L) (hl : L.length < 1000000) (key : ByteArray) (hkey : key.size ≤ maxLen) :
    Calls Try.prog 11 #[.pointer (some ⟨p, 0, none⟩), .string key] w fun e w' => e = .returned (.bool (!hasK L key)) ∧ ∃ O', Pl w0 w' p O' (tipK L key) ∧ Move O w w' O' := by
  refine (ord_touch h.1 hl key hkey).mono ?_
  rintro e w' ⟨rfl, O', k1, k2⟩
  exact ⟨rfl, O', h.step k1 k2, k2⟩
theorem Pl.drop (h : Pl w0 w p O L) (key : ByteArray) (hkey : key.size ≤ maxLen) :
    Calls Try.prog 9 #[.pointer (some ⟨p, 0, none⟩), .string key] w fun e w' => e = .returned (.bool (hasK L key)) ∧ ∃ O', Pl w0 w' p O' (goK L key) ∧ Move O w w' O' := by
  refine (ord_drop h.1 key hkey).mono ?_
  rintro e w' ⟨rfl, O', k1, k2⟩
  exact ⟨rfl, O', h.step k1 k2, k2⟩
theorem Pl.has (h : Pl w0 w p O L) (key : ByteArray) (hkey : key.size ≤ maxLen) :
    Calls Try.prog 17 #[.pointer (some ⟨p, 0, none⟩), .string key] w fun e w' => e = .returned (.bool (hasK L key)) ∧ Only [] w w' :=
  (ord_has h.1 key hkey).mono fun _ _ ⟨he, hw⟩ => ⟨he, hw ▸ Only.refl [] _⟩
theorem Pl.oldest (h : Pl w0 w p O L) : Calls Try.prog 13 #[.pointer (some ⟨p, 0, none⟩)] w fun e w' => e = .returned (.tuple #[.string (L.headD ⟨#[]⟩), .bool (decide (0 < L.length))]) ∧ Only [] w w' :=
  (ord_oldest h.1).mono fun _ _ ⟨he, hw⟩ => ⟨he, hw ▸ Only.refl [] _⟩
theorem Pl.len (h : Pl w0 w p O L) : Calls Try.prog 14 #[.pointer (some ⟨p, 0, none⟩)] w fun e w' => e = .returned (.int .i64 (L.length : Nat)) ∧ Only [] w w' :=
  (ord_len h.1).mono fun _ _ ⟨he, hw⟩ => ⟨he, hw ▸ Only.refl [] _⟩
theorem Pl.all (h : Pl w0 w p O L) : Calls Try.prog 16 #[.pointer (some ⟨p, 0, none⟩)] w fun e w' => ∃ v', e = .returned v' ∧ RowT w' w.heap.size v' L ∧ Only [] w w' := ord_all h.1
end
end Go.Proofs.Ytcpiaifaebpoaaa
