/- The words of a line: the walk over the other text. -/
import Derived.Test.YtednbcdomkhhmajDoorParts
namespace Go.Proofs.YtednbcdomkhhmajDoor
open Go.RowKit Go.Sort

theorem prL_yes {s : ByteArray} (h : s.size ≤ 600) (hp : ∀ b ∈ s.data.toList, 32 ≤ b.toNat ∧ b.toNat ≤ 126) (hl : (Lib.fields s.data.toList).length ≤ 10) : prOk s = true ∧ prL s = (Lib.fields s.data.toList).map txt := by
  have : prOk s = true := by simp [prOk, h, allPl_of hp, hl]
  exact ⟨this, by simp [prL, this]⟩

theorem ret_vb {v : Value} {b c : Bool} (h : b = c) : Ending.returned (.tuple #[v, .bool b]) = .returned (.tuple #[v, .bool c]) := by rw [h]

set_option maxHeartbeats 2000000 in
set_option maxRecDepth 100000 in
theorem specParts_any (s : ByteArray) (w : World) (hs : s.size ≤ 1048576) :
    Calls Tryd.prog 7 #[.string s] w fun e w' => ∃ v, e = .returned (.tuple #[v, .bool (prOk s)]) ∧ OwnV w' w.heap.size 9 v (strs (prL s)) ∧ Below w.heap.size w w' := by
  by_cases h6 : 600 < s.size
  · have hno : prOk s = false := by simp [prOk]; omega
    rw [hno, prL_no hno]
    go_enter Tryd.func7, Tryd.ntmps7
    go_wp2
    go_ret2
    exact ⟨_, rfl, World.ownsRow_made w #[] 0 (Nat.le_refl _) (by simp [maxLen]) (by simp), (Below.refl _ _).alloc (Nat.le_refl _) _⟩
  · go_enter Tryd.func7, Tryd.ntmps7
    go_wp2
    go_loopw [4, 5, 6] (fun v bg i wr => Box (∃ (k g : Nat) (P : List ByteArray), k ≤ s.size + 1 ∧ g ≤ k ∧ (s.size < k → k ≤ g) ∧ i = .int .i64 k ∧ bg = .int .i64 g ∧ P.length ≤ k ∧ Hid (prAt s.data.toList P g k) ∧ Hid (∀ b ∈ s.data.toList.take k, 32 ≤ b.toNat ∧ b.toNat ≤ 126) ∧ OwnV wr w.heap.size 9 v (strs P) ∧ Below w.heap.size w wr))
      (fun _ _ i _ => s.size + 1 - (intOf i).toNat)
    case atStart => exact ⟨⟨0, 0, [], by omega, by omega, by omega, rfl, rfl, by simp, prAt_start _, by simp [Hid], World.ownsRow_made w #[] 0 (Nat.le_refl _) (by simp [maxLen]) (by simp), (Below.refl _ _).alloc (Nat.le_refl _) _⟩⟩
    case round =>
      obtain ⟨k, g, P, hk, hg, hkg, rfl, rfl, hP, hat, hpl, hown, hbel⟩ := hrel.out
      have hsz := hbel.size
      have HL : Hid (s.data.toList.length = s.size) := by show _ = _; simp
      have hPl : (strs P).length ≤ 602 := by rw [strs_length]; omega
      by_cases hlt : k < s.size
      · have HT : Hid (s.data.toList.take (k + 1) = s.data.toList.take k ++ [s[k]]) := by
          show _ = _
          rw [List.take_succ_eq_append_getElem (by simpa using hlt)]; rfl
        obtain ⟨b, hb⟩ : ∃ b, s[k] = b := ⟨_, rfl⟩
        have HM : Hid (b ∈ s.data.toList) := mem_at hlt hb
        have HA : Hid (s.data.toList[k]'(by simpa using hlt) = b) := at_list hlt hb
        have hbl : b.toNat < 256 := b.toNat_lt
        have HP' : Hid (32 ≤ b.toNat ∧ b.toNat ≤ 126 → ∀ c ∈ s.data.toList.take (k + 1), 32 ≤ c.toNat ∧ c.toNat ≤ 126) := by
          intro hbb c hc
          rw [HT.out, hb, List.mem_append] at hc
          rcases hc with hc | hc
          · exact hpl.out c hc
          · simp at hc; subst hc; exact hbb
        rcases (show b.toNat < 32 ∨ 126 < b.toNat ∨ b.toNat = 32 ∨ (33 ≤ b.toNat ∧ b.toNat ≤ 126) by omega) with g1 | g1 | g1 | ⟨g1, g2⟩
        · have HN : Hid (prOk s = false) := prOk_no HM.out (by omega)
          go_wp2
          go_ret2
          exact ⟨_, ret_vb HN.out.symm, by rw [prL_no HN.out]; exact World.ownsRow_made _ #[] 0 hsz (by simp [maxLen]) (by simp), hbel.alloc hsz _⟩
        · have HN : Hid (prOk s = false) := prOk_no HM.out (by omega)
          go_wp2
          go_ret2
          exact ⟨_, ret_vb HN.out.symm, by rw [prL_no HN.out]; exact World.ownsRow_made _ #[] 0 hsz (by simp [maxLen]) (by simp), hbel.alloc hsz _⟩
        · have hb32 : ((b.toNat : Int) != 32) = false := by simp; omega
          have hb33 : 32 ≤ b.toNat := by omega
          have hb34 : b.toNat ≤ 126 := by omega
          have G1 : Hid (b.toNat = 32) := g1
          clear g1
          by_cases hgk : g < k
          · have hsl := fun w => run_slice_string (P := Tryd.prog) (w := w) 9 s .i64 .i64 (g : Int) (k : Int) Tryd.underlying9 (by omega) (by omega) (by omega)
            simp only [Int.toNat_natCast] at hsl
            go_wp2_with (at_builtin; refine wpList_snocV rfl (.tmp 48) (.tmp 53) 24 rfl w.heap.size 9 Tryd.underlying24 (.string ⟨#[]⟩) 16 Tryd.info9 rfl _ (strs P) rfl hown (.string (s.extract g k)) rfl rfl (by omega) (by omega) hsz ?_; intro v' w1 hown' hne' hbel' hsz')
            go_roundw
            case rel =>
              try ((repeat apply Exists.intro); refine ⟨?_, rfl⟩)
              exact ⟨⟨k + 1, k + 1, P ++ [s.extract g k], by omega, by omega, by omega, by go_num, by go_num, by simp; omega, prAt_blank hat.out hgk (by simpa using hlt) HA.out G1.out, HP'.out ⟨hb33, hb34⟩, by rw [strs_append]; exact hown', hbel' _ hbel⟩⟩
            case measure => simp [intOf]; omega
          · go_wp2
            go_roundw
            case rel =>
              try ((repeat apply Exists.intro); refine ⟨?_, rfl⟩)
              have hgk2 : g = k := by omega
              exact ⟨⟨k + 1, k + 1, P, by omega, by omega, by omega, by go_num, by go_num, by omega, prAt_skip (hgk2 ▸ hat.out) (by simpa using hlt) HA.out G1.out, HP'.out ⟨hb33, hb34⟩, hown, hbel⟩⟩
            case measure => simp [intOf]; omega
        · have hb32 : ((b.toNat : Int) != 32) = true := by simp; omega
          go_wp2
          go_roundw
          case rel =>
            try ((repeat apply Exists.intro); refine ⟨?_, rfl⟩)
            exact ⟨⟨k + 1, g, P, by omega, by omega, by omega, by go_num, by go_num, by omega, prAt_word hat.out hg (by simpa using hlt) HA.out (by omega) (by omega), HP'.out ⟨by omega, g2⟩, hown, hbel⟩⟩
          case measure => simp [intOf]; omega
      · have hd : decide ((k : Int) < (s.size : Int)) = false := by simp; omega
        have HALL : Hid (∀ b ∈ s.data.toList, 32 ≤ b.toNat ∧ b.toNat ≤ 126) := by
          have := hpl.out
          rw [List.take_of_length_le (by have := HL.out; omega)] at this
          exact this
        by_cases hke : k ≤ s.size
        · by_cases hgk : g < k
          · have hsl := fun w => run_slice_string (P := Tryd.prog) (w := w) 9 s .i64 .i64 (g : Int) (k : Int) Tryd.underlying9 (by omega) (by omega) (by omega)
            simp only [Int.toNat_natCast] at hsl
            go_wp2_with (at_builtin; refine wpList_snocV rfl (.tmp 48) (.tmp 53) 24 rfl w.heap.size 9 Tryd.underlying24 (.string ⟨#[]⟩) 16 Tryd.info9 rfl _ (strs P) rfl hown (.string (s.extract g k)) rfl rfl (by omega) (by omega) hsz ?_; intro v' w1 hown' hne' hbel' hsz')
            go_roundw
            case rel =>
              try ((repeat apply Exists.intro); refine ⟨?_, rfl⟩)
              exact ⟨⟨k + 1, k + 1, P ++ [s.extract g k], by omega, by omega, by omega, by go_num, by go_num, by simp; omega, prAt_end hat.out hgk (by have := HL.out; omega), fun b hb => HALL.out b (List.mem_of_mem_take hb), by rw [strs_append]; exact hown', hbel' _ hbel⟩⟩
            case measure => simp [intOf]; omega
          · go_wp2
            go_roundw
            case rel =>
              try ((repeat apply Exists.intro); refine ⟨?_, rfl⟩)
              have hgk2 : g = k := by omega
              exact ⟨⟨k + 1, k + 1, P, by omega, by omega, by omega, by go_num, by go_num, by omega, prAt_end0 (hgk2 ▸ hat.out) (by have := HL.out; omega), fun b hb => HALL.out b (List.mem_of_mem_take hb), hown, hbel⟩⟩
            case measure => simp [intOf]; omega
        · have HD : Hid (P = (Lib.fields s.data.toList).map txt) := prAt_done hat.out (by have := HL.out; omega) (by omega)
          obtain ⟨ad, cap, hv, _⟩ := hown.shape
          rw [strs_length] at hv
          subst hv
          by_cases h10 : 10 < P.length
          · have HN : Hid (prOk s = false) := by
              show _ = _
              have : ¬ (Lib.fields s.data.toList).length ≤ 10 := by
                have := congrArg List.length HD.out
                simp at this
                omega
              simp [prOk, this]
            go_wp2
            go_ret2
            exact ⟨_, ret_vb HN.out.symm, by rw [prL_no HN.out]; exact World.ownsRow_made _ #[] 0 hsz (by simp [maxLen]) (by simp), hbel.alloc hsz _⟩
          · have HY : Hid (prOk s = true ∧ prL s = (Lib.fields s.data.toList).map txt) := prL_yes (by omega) HALL.out (by
              have := congrArg List.length HD.out
              simp at this
              omega)
            go_wp2
            go_ret2
            exact ⟨_, ret_vb HY.out.1.symm, by rw [HY.out.2, ← HD.out]; exact hown, hbel⟩
end Go.Proofs.YtednbcdomkhhmajDoor
