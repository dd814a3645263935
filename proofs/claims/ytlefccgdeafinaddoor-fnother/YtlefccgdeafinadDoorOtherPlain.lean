/- Letters great or small, blanks about a value. Plain, no program. -/
import Derived.Test.YtlefccgdeafinadDoorScriptPlain
namespace Go.Proofs.YtlefccgdeafinadDoor
open Go.RowKit
def keyL : List ByteArray := [⟨#[88, 45, 75, 101, 121]⟩, ⟨#[120, 45, 107, 101, 121]⟩, ⟨#[88, 45, 75, 69, 89]⟩]
def getA : List UInt8 := [71, 69, 84, 32, 47, 97, 32, 72, 84, 84, 80, 47, 49, 46, 49]
def xkey : ByteArray := ⟨#[120, 45, 107, 101, 121]⟩
def vw : ByteArray := ⟨#[118, 32, 119]⟩
theorem key_ok : ∀ z ∈ keyL, lowL z.data.toList = xkey.data.toList ∧ (∀ x ∈ z.data.toList, x ≠ 58 ∧ x ≠ 13 ∧ x ≠ 10 ∧ x.toNat < 128) ∧ z.size = 5 := by decide
theorem vw_trim : ∀ a < 4, ∀ b < 4, Lib.trimB (List.replicate a 32 ++ ([118, 32, 119] ++ List.replicate b 32)) 32 = [118, 32, 119] := by decide
theorem xkey_ok : fieldOkS (xkey, vw) = true := by decide +kernel
theorem getA_ok : (decide (1 ≤ (⟨getA.toArray⟩ : ByteArray).size) && plainS ⟨getA.toArray⟩ 80) = true := by decide +kernel
theorem head_xkey : headOkS ⟨getA.toArray⟩ [(xkey, vw)] = true := by decide +kernel
theorem getA_no : NoEnd getA := by unfold NoEnd; decide
/-- The value with blanks about it. -/
def valL (a b : Nat) : List UInt8 := List.replicate a 32 ++ ([118, 32, 119] ++ List.replicate b 32)
theorem valL_no (a b : Nat) : ∀ x ∈ valL a b, x ≠ 13 ∧ x ≠ 10 ∧ x.toNat < 128 := by
  intro x hx
  unfold valL at hx
  rcases List.mem_append.1 hx with hx | hx
  · rw [(List.mem_replicate.1 hx).2]; decide
  · rcases List.mem_append.1 hx with hx | hx
    · simp at hx
      rcases hx with rfl | rfl | rfl <;> decide
    · rw [(List.mem_replicate.1 hx).2]; decide
theorem line_xkey {z : ByteArray} (hz : z ∈ keyL) {a b : Nat} (ha : a < 4) (hb : b < 4) : LineF (z.data.toList ++ 58 :: valL a b) (xkey, vw) ∧ NoEnd (z.data.toList ++ 58 :: valL a b) := by
  obtain ⟨h1, h2, _⟩ := key_ok z hz
  refine ⟨⟨z.data.toList, valL a b, rfl, fun x hx => (h2 x hx).1, ?_, xkey_ok⟩, ?_⟩
  · have e1 : (⟨(lowL z.data.toList).toArray⟩ : ByteArray) = xkey := by rw [h1]
    have e2 : trimT ⟨(valL a b).toArray⟩ = vw := by
      unfold trimT
      rw [show (⟨(valL a b).toArray⟩ : ByteArray).data.toList = valL a b from rfl]
      unfold valL
      rw [vw_trim a ha b hb]
      rfl
    rw [e1, e2]
  · intro x hx
    rcases List.mem_append.1 hx with hx | hx
    · exact ⟨(h2 x hx).2.1, (h2 x hx).2.2.1⟩
    · rcases List.mem_cons.1 hx with rfl | hx
      · decide
      · exact ⟨(valL_no a b x hx).1, (valL_no a b x hx).2.1⟩
end Go.Proofs.YtlefccgdeafinadDoor
