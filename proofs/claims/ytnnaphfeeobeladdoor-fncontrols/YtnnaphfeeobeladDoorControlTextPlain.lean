/- The words that tell it. Plain, no program. -/
import Derived.Test.YtnnaphfeeobeladDoorControlPlain
import Derived.Test.YtnnaphfeeobeladDoorBase
namespace Go.Proofs.YtnnaphfeeobeladDoor
open Go.RowKit Go.Sort
/-- The words that tell it. -/
def wordsC (c : Ct) : List ByteArray :=
  (if c.ns = true then [⟨noStoreL.toArray⟩] else []) ++ (if c.nc = true then [⟨noCacheL.toArray⟩] else []) ++
    (if inN c.ma 0 999999 = true then [⟨maxAgeL.toArray⟩ ++ ⟨(decOf c.ma).toArray⟩] else []) ++ (if inN c.sh 0 999999 = true then [⟨sMaxL.toArray⟩ ++ ⟨(decOf c.sh).toArray⟩] else [])
def joinK (P : List ByteArray) : Nat → ByteArray
  | 0 => ⟨#[]⟩
  | k + 1 => (if 0 < k then joinK P k ++ ⟨#[44, 32]⟩ else joinK P k) ++ P.getD k ⟨#[]⟩
def textC (c : Ct) : ByteArray := joinK (wordsC c) (wordsC c).length
theorem joinK_size {P : List ByteArray} (h : ∀ p ∈ P, p.size ≤ 48) : ∀ k, (joinK P k).size ≤ 50 * k
  | 0 => by show (0 : Nat) ≤ _; omega
  | k + 1 => by
    have ih := joinK_size h k
    have hp : (P.getD k ⟨#[]⟩).size ≤ 48 := by
      rw [List.getD_eq_getElem?_getD]
      by_cases hk : k < P.length
      · rw [List.getElem?_eq_getElem hk]; exact h _ (List.getElem_mem hk)
      · rw [List.getElem?_eq_none (by omega)]; show (0 : Nat) ≤ _; omega
    rw [joinK, ByteArray.size_append]
    split
    · rw [ByteArray.size_append]
      have : (⟨#[44, 32]⟩ : ByteArray).size = 2 := rfl
      omega
    · omega
theorem digF_len10 : ∀ (f n : Nat) (s : List UInt8), (digF f n s).length ≤ f + s.length
  | 0, n, s => by simp [digF]
  | f + 1, n, s => by
    unfold digF
    split
    · omega
    · have := digF_len10 f (n / 10) (fig (n % 10) :: s)
      simp only [List.length_cons] at this
      omega
theorem decOf_short {x : Int} (h : 0 ≤ x ∧ x ≤ 999999) : (⟨(decOf x).toArray⟩ : ByteArray).size ≤ 32 := by
  have : (decOf x).length ≤ 32 := by
    have := digF_len10 20 x.natAbs []
    simp only [List.length_nil] at this
    unfold decOf
    split
    · simp
    · split
      · simp only [List.length_cons]; omega
      · omega
  show (decOf x).toArray.size ≤ 32
  simpa using this
end Go.Proofs.YtnnaphfeeobeladDoor
