/- Texts that stand in one: PolPlain, PolSizes2, PolSpec. -/
import Derived.Test.YtbcjkinalghokatDoorSumTabJ
import Derived.Test.YtbcjkinalghokatDoorPolVarJ
import Derived.Test.YtbcjkinalghokatDoorStrsJ
import Derived.Test.YtbcjkinalghokatDoorIntsJ
namespace Go.Proofs.YtbcjkinalghokatDoor
open Go.RowKit

/-- When there is no room in the window: w what is left of it, first who was first. -/
def pushP (w main : List ByteArray) (sk : Sk) (first : ByteArray) : Pol × ByteArray :=
  if main.length < 4 then (⟨w, main ++ [first], sk⟩, noKey)
  else if guessS sk (main.getD 0 noKey) < guessS sk first then (⟨w, main.tail ++ [first], sk⟩, main.getD 0 noKey)
  else (⟨w, main, sk⟩, first)
def touchP (P : Pol) (key : ByteArray) : Pol × ByteArray :=
  if (okP P && keyOk key) = true then
    if inL P.win key = true then (⟨without P.win key ++ [key], P.main, bumpS P.sk key⟩, noKey)
    else if inL P.main key = true then (⟨P.win, without P.main key ++ [key], bumpS P.sk key⟩, noKey)
    else if P.win.length + 1 ≤ 2 then (⟨P.win ++ [key], P.main, bumpS P.sk key⟩, noKey)
    else pushP (P.win ++ [key]).tail P.main (bumpS P.sk key) (P.win.getD 0 noKey)
  else (P, noKey)

/-- What a push leaves, when the window was right. -/
theorem touchP_right {P : Pol} {key : ByteArray} (hP : okP P = true) (hk : keyOk key = true) :
    okP (touchP P key).1 = true ∧ hasP (touchP P key).1 key = true ∧ ((touchP P key).2 ≠ noKey → hasP (touchP P key).1 (touchP P key).2 = false ∧ hasP P (touchP P key).2 = true) ∧
      (touchP P key).1.win.length + (touchP P key).1.main.length + (if (touchP P key).2 = noKey then 0 else 1) = P.win.length + P.main.length + (if hasP P key = true then 0 else 1) := by
  obtain ⟨win, main, sk⟩ := P
  obtain ⟨h1, h2, h3, h4, h5, h6, h7, h8⟩ := okP_iff.1 hP
  dsimp only at h1 h2 h3 h4 h5 h6 h7 h8
  have hsk := bumpS_ok key h8
  have e : touchP ⟨win, main, sk⟩ key = if inL win key = true then (⟨without win key ++ [key], main, bumpS sk key⟩, noKey) else if inL main key = true then (⟨win, without main key ++ [key], bumpS sk key⟩, noKey) else if win.length + 1 ≤ 2 then (⟨win ++ [key], main, bumpS sk key⟩, noKey) else pushP (win ++ [key]).tail main (bumpS sk key) (win.getD 0 noKey) := by
    unfold touchP
    rw [hP, hk]
    rfl
  rw [e]
  clear e
  generalize bumpS sk key = sk' at hsk ⊢
  by_cases hw : inL win key = true
  · have hw' := inL_iff.1 hw
    have hl := without_length h3 hw'
    rw [if_pos hw]
    have hs : hasP ⟨win, main, sk⟩ key = true := by simp [hasP, hw]
    refine ⟨okP_iff.2 ⟨?_, h2, nodup_snoc.2 ⟨without_nodup h3, fun h => (without_mem.1 h).2 rfl⟩, h4, ?_, by simp; omega, h7, hsk⟩, by simp [hasP, inL], fun h => absurd rfl h, ?_⟩
    · intro z hz
      rcases List.mem_append.1 hz with hz | hz
      · exact h1 z (without_mem.1 hz).1
      · rw [List.mem_singleton.1 hz]; exact hk
    · intro z hz
      rcases List.mem_append.1 hz with hz | hz
      · exact h5 z (without_mem.1 hz).1
      · rw [List.mem_singleton.1 hz]; exact h5 key hw'
    · rw [hs]; simp; omega
  rw [if_neg hw]
  have hwf := inL_false.1 (by simpa using hw)
  by_cases hm : inL main key = true
  · have hm' := inL_iff.1 hm
    have hl := without_length h4 hm'
    rw [if_pos hm]
    have hs : hasP ⟨win, main, sk⟩ key = true := by simp [hasP, hm]
    refine ⟨okP_iff.2 ⟨h1, ?_, h3, nodup_snoc.2 ⟨without_nodup h4, fun h => (without_mem.1 h).2 rfl⟩, ?_, h6, by simp; omega, hsk⟩, by simp [hasP, inL], fun h => absurd rfl h, ?_⟩
    · intro z hz
      rcases List.mem_append.1 hz with hz | hz
      · exact h2 z (without_mem.1 hz).1
      · rw [List.mem_singleton.1 hz]; exact hk
    · intro z hz hmz
      rcases List.mem_append.1 hmz with hmz | hmz
      · exact h5 z hz (without_mem.1 hmz).1
      · rw [List.mem_singleton.1 hmz] at hz; exact hwf hz
    · rw [hs]; simp; omega
  rw [if_neg hm]
  have hmf := inL_false.1 (by simpa using hm)
  have hs : hasP ⟨win, main, sk⟩ key = false := by simp only [hasP, inL_false.2 hwf, inL_false.2 hmf, Bool.or_false]
  by_cases hl : win.length + 1 ≤ 2
  · rw [if_pos hl]
    refine ⟨okP_iff.2 ⟨?_, h2, nodup_snoc.2 ⟨h3, hwf⟩, h4, ?_, by simp; omega, h7, hsk⟩, by simp [hasP, inL], fun h => absurd rfl h, ?_⟩
    · intro z hz
      rcases List.mem_append.1 hz with hz | hz
      · exact h1 z hz
      · rw [List.mem_singleton.1 hz]; exact hk
    · intro z hz
      rcases List.mem_append.1 hz with hz | hz
      · exact h5 z hz
      · rw [List.mem_singleton.1 hz]; exact hmf
    · rw [hs]; simp; omega
  rw [if_neg hl]
  obtain ⟨f, s, rfl⟩ : ∃ f s, win = [f, s] := by
    match win, h6, hl with
    | [f, s], _, _ => exact ⟨f, s, rfl⟩
    | [], _, h => simp at h
    | [_], _, h => simp at h
    | _ :: _ :: _ :: _, h, _ => simp at h
  have hf := h1 f (by simp)
  have hfs : f ≠ s := by intro e; subst e; simp at h3
  have hfk : f ≠ key := by intro e; subst e; simp at hwf
  have hsk2 : s ≠ key := by intro e; subst e; simp at hwf
  have hfm := h5 f (by simp)
  have hsm := h5 s (by simp)
  have e2 : ([f, s] ++ [key]).tail = [s, key] := rfl
  have e3 : ([f, s] : List ByteArray).getD 0 noKey = f := rfl
  rw [e2, e3]
  have w1 : ∀ z ∈ [s, key], keyOk z = true := by
    intro z hz
    simp only [List.mem_cons, List.not_mem_nil, or_false] at hz
    rcases hz with rfl | rfl
    · exact h1 _ (by simp)
    · exact hk
  have w2 : ([s, key] : List ByteArray).Nodup := by simp [hsk2]
  have w3 : ∀ z ∈ [s, key], z ∉ main ∧ z ≠ f := by
    intro z hz
    simp only [List.mem_cons, List.not_mem_nil, or_false] at hz
    rcases hz with rfl | rfl
    · exact ⟨hsm, fun e => hfs e.symm⟩
    · exact ⟨hmf, fun e => hfk e.symm⟩
  unfold pushP
  by_cases h4l : main.length < 4
  · rw [if_pos h4l]
    refine ⟨okP_iff.2 ⟨w1, ?_, w2, nodup_snoc.2 ⟨h4, hfm⟩, ?_, by simp, by simp; omega, hsk⟩, by simp [hasP, inL], fun h => absurd rfl h, ?_⟩
    · intro z hz
      rcases List.mem_append.1 hz with hz | hz
      · exact h2 z hz
      · rw [List.mem_singleton.1 hz]; exact hf
    · intro z hz hmz
      rcases List.mem_append.1 hmz with hmz | hmz
      · exact (w3 z hz).1 hmz
      · exact (w3 z hz).2 (List.mem_singleton.1 hmz)
    · rw [hs]; simp; omega
  rw [if_neg h4l]
  by_cases hg : guessS sk' (main.getD 0 noKey) < guessS sk' f
  · rw [if_pos hg]
    obtain ⟨m0, mr, rfl⟩ : ∃ m0 mr, main = m0 :: mr := by
      cases main with
      | nil => simp at h4l
      | cons a r => exact ⟨a, r, rfl⟩
    have e4 : (m0 :: mr : List ByteArray).getD 0 noKey = m0 := rfl
    rw [e4]
    have hm0 := h2 m0 (by simp)
    rw [List.nodup_cons] at h4
    have hm0f : m0 ≠ f := by intro e; subst e; exact hfm (by simp)
    refine ⟨okP_iff.2 ⟨w1, ?_, w2, nodup_snoc.2 ⟨h4.2, fun h => hfm (List.mem_cons_of_mem _ h)⟩, ?_, by simp, by simp at h7 ⊢; omega, hsk⟩, by simp [hasP, inL], fun _ => ⟨?_, ?_⟩, ?_⟩
    · intro z hz
      rcases List.mem_append.1 hz with hz | hz
      · exact h2 z (by simp at hz; simp [hz])
      · rw [List.mem_singleton.1 hz]; exact hf
    · intro z hz hmz
      rcases List.mem_append.1 hmz with hmz | hmz
      · exact (w3 z hz).1 (by simp at hmz; simp [hmz])
      · exact (w3 z hz).2 (List.mem_singleton.1 hmz)
    · have a1 : inL [s, key] m0 = false := by
        rw [inL_false]
        intro h
        exact (w3 m0 h).1 (by simp)
      have a2 : inL ((m0 :: mr).tail ++ [f]) m0 = false := by
        rw [inL_false]
        intro h
        rcases List.mem_append.1 h with h | h
        · exact h4.1 h
        · exact hm0f (List.mem_singleton.1 h)
      simp only [hasP, a1, a2, Bool.or_false]
    · have : inL (m0 :: mr) m0 = true := inL_iff.2 (by simp)
      simp only [hasP, this, Bool.or_true]
    · rw [hs, if_neg (keyOk_ne hm0)]; simp
  · rw [if_neg hg]
    refine ⟨okP_iff.2 ⟨w1, h2, w2, h4, fun z hz => (w3 z hz).1, by simp, h7, hsk⟩, by simp [hasP, inL], fun _ => ⟨?_, ?_⟩, ?_⟩
    · have a1 : inL [s, key] f = false := by
        rw [inL_false]
        intro h
        exact (w3 f h).2 rfl
      simp only [hasP, a1, inL_false.2 hfm, Bool.or_false]
    · have : inL [f, s] f = true := inL_iff.2 (by simp)
      simp only [hasP, this, Bool.true_or]
    · rw [hs, if_neg (keyOk_ne hf)]; simp
end Go.Proofs.YtbcjkinalghokatDoor

namespace Go.Proofs.YtbcjkinalghokatDoor
open Go.RowKit
theorem touchP_sz {P : Pol} (key : ByteArray) (h : PolSz P) : PolSz (touchP P key).1 := by
  by_cases h1 : okP P = true
  · by_cases h2 : keyOk key = true
    · exact okP_sz (touchP_right h1 h2).1
    · unfold touchP
      rw [if_neg (by simp [h2])]
      exact h
  · unfold touchP
    rw [if_neg (by simp [h1])]
    exact h
end Go.Proofs.YtbcjkinalghokatDoor

namespace Go.Proofs.YtbcjkinalghokatDoor
open Go.RowKit Go.Sort

theorem bytes_nk {z key : ByteArray} (h : ¬ z = key) : (z.toList == key.toList) = false := by
  rw [ByteArray.toList_eq, ByteArray.toList_eq, beq_eq_false_iff_ne]
  intro e
  exact h (ByteArray.ext (Array.toList_inj.1 e))
theorem inL_take {l : List ByteArray} {s : ByteArray} {k : Nat} (hk : k < l.length) (h : inL (l.take k) s = false) (hn : ¬ l[k] = s) : inL (l.take (k + 1)) s = false := by
  rw [inL_false] at h ⊢
  rw [List.take_succ_eq_append_getElem hk]
  intro hm
  rcases List.mem_append.1 hm with hm | hm
  · exact h hm
  · exact hn (List.mem_singleton.1 hm).symm
theorem Tryd.infoSK : (Tryd.prog.info? 9).map (fun i => (i.zero, i.size, i.bytes)) = some (some (.string ⟨#[]⟩), 1, 16) := by kernel_rfl
set_option maxHeartbeats 2000000 in
theorem l13In_any (w : World) (a : Option Addr) (c : Nat) (L : List ByteArray) (s : ByteArray) (hA : LAt w a L w.heap.size) (hm : L.length ≤ 10000000) :
    Calls Tryd.prog 17 #[.slice a L.length c, .string s] w fun e w' => e = .returned (.bool (inL L s)) ∧ w' = w := by
  go_enter Tryd.func17, Tryd.ntmps17
  go_wp2
  go_loopw [5] (fun i wr => Box (∃ (k : Nat), k ≤ L.length ∧ i = .int .i64 k ∧ Hid (inL (L.take k) s = false) ∧ w = wr))
    (fun i _ => L.length - (intOf i).toNat)
  case atStart => exact ⟨⟨0, by omega, rfl, rfl, rfl⟩⟩
  case round =>
    obtain ⟨k, hk, rfl, HN, rfl⟩ := hrel.out
    by_cases hlt : k < L.length
    · obtain ⟨g, off, rfl, hg, hc⟩ := hA k hlt
      have hi1 : (0 : Int) ≤ (k : Int) := by omega
      have hi2 : (k : Int) < (L.length : Int) := by omega
      by_cases hz : L[k] = s
      · have HT : Hid (inL L s = true) := inL_iff.2 (by rw [← hz]; exact List.getElem_mem hlt)
        rw [hz] at hc
        clear hrel hz hA
        go_wp2
        go_ret
        exact ⟨by rw [HT.out]; rfl, rfl⟩
      · have HT : Hid (inL (L.take (k + 1)) s = false) := inL_take hlt HN.out hz
        have hz1 := bytes_nk hz
        obtain ⟨z, hzz⟩ : ∃ z, L[k] = z := ⟨_, rfl⟩
        rw [hzz] at hc hz1
        clear hrel hz hzz hA
        go_wp2
        go_roundw
        case rel =>
          try ((repeat apply Exists.intro); refine ⟨?_, rfl⟩)
          exact ⟨⟨k + 1, by omega, by go_num, HT, by first | rfl | trivial⟩⟩
        case measure => simp [intOf]; omega
    · go_wp2
      go_ret
      have hke : k = L.length := by omega
      have := HN.out
      rw [hke, List.take_length] at this
      exact ⟨by rw [this]; rfl, rfl⟩
theorem l13Key_any (w : World) (s : ByteArray) (hs : s.size ≤ 10000000) :
    Calls Tryd.prog 15 #[.string s] w fun e w' => e = .returned (.bool (keyOk s)) ∧ w' = w := by
  have c := in_any (s.size : Int) 1 30 w
  have e : inN (s.size : Int) 1 30 = keyOk s := by
    unfold inN keyOk
    by_cases h : 1 ≤ s.size ∧ s.size ≤ 30
    · rw [decide_eq_true h, decide_eq_true (by omega)]
    · rw [decide_eq_false h, decide_eq_false (by omega)]
  rw [e] at c
  clear e
  go_enter Tryd.func15, Tryd.ntmps15
  go_wp2_with (go_at_call 36; refine c.mono ?_; rintro e w' ⟨rfl, rfl⟩)
  go_ret
  exact ⟨rfl, rfl⟩
theorem without_take {l : List ByteArray} {s : ByteArray} {k : Nat} (hk : k < l.length) : without (l.take (k + 1)) s = without (l.take k) s ++ if l[k] = s then [] else [l[k]] := by
  unfold without
  rw [List.take_succ_eq_append_getElem hk, List.filter_append]
  by_cases h : l[k] = s <;> simp [h]
set_option maxHeartbeats 2000000 in
theorem l13Without_any (w : World) (a : Option Addr) (c : Nat) (L : List ByteArray) (s : ByteArray) (hA : LAt w a L w.heap.size) (hm : L.length ≤ 10000000) :
    Calls Tryd.prog 18 #[.slice a L.length c, .string s] w fun e w' => ∃ v, e = .returned v ∧ v ≠ .slice none 0 0 ∧ OwnV w' w.heap.size 9 v (strs (without L s)) ∧ Below w.heap.size w w' := by
  go_enter Tryd.func18, Tryd.ntmps18
  go_wp2
  go_loopw [5, 6] (fun v i wr => Box (∃ (k : Nat), k ≤ L.length ∧ i = .int .i64 k ∧ v ≠ .slice none 0 0 ∧ OwnV wr w.heap.size 9 v (strs (without (L.take k) s)) ∧ Below w.heap.size w wr))
    (fun _ i _ => L.length - (intOf i).toNat)
  case atStart => exact ⟨⟨0, by omega, rfl, by simp, World.ownsRow_made w #[] 0 (Nat.le_refl _) (by simp [maxLen]) (by simp), (Below.refl _ _).alloc (Nat.le_refl _) _⟩⟩
  case round =>
    obtain ⟨k, hk, rfl, hne, hown, hbel⟩ := hrel.out
    by_cases hlt : k < L.length
    · obtain ⟨g, off, rfl, hg, hc⟩ := (hA.below hbel (Nat.le_refl _)) k hlt
      have hwl : (without (L.take k) s).length ≤ k := by
        refine Nat.le_trans (List.length_filter_le _ _) ?_
        rw [List.length_take]
        omega
      have HT : Hid (without (L.take (k + 1)) s = without (L.take k) s ++ if L[k] = s then [] else [L[k]]) := without_take hlt
      have hi1 : (0 : Int) ≤ (k : Int) := by omega
      have hi2 : (k : Int) < (L.length : Int) := by omega
      obtain ⟨z, hzz⟩ : ∃ z, L[k] = z := ⟨_, rfl⟩
      rw [hzz] at hc HT
      have hsl := strs_length (without (L.take k) s)
      have hbs := hbel.size
      obtain ⟨M, hM⟩ : ∃ M, without (L.take k) s = M := ⟨_, rfl⟩
      rw [hM] at HT hown hwl hsl
      clear hrel hzz hA hM
      by_cases hz : z = s
      · rw [if_pos hz, List.append_nil] at HT
        subst hz
        go_wp2
        go_roundw
        case rel =>
          try ((repeat apply Exists.intro); refine ⟨?_, rfl⟩)
          exact ⟨⟨k + 1, by omega, by go_num, hne, by rw [HT.out]; exact hown, hbel⟩⟩
        case measure => simp [intOf]; omega
      · rw [if_neg hz] at HT
        have hz1 := bytes_nk hz
        go_wp2_with (at_builtin; refine wpList_snocV rfl (.tmp 20) (.tmp 25) 22 rfl w.heap.size 9 Tryd.underlying22 (.string ⟨#[]⟩) 16 Tryd.infoSK rfl _ (strs M) rfl hown (.string z) rfl rfl (by omega) (by omega) (by omega) ?_; intro v' w4 hown' hne' hbel' hsz')
        go_roundw
        case rel =>
          try ((repeat apply Exists.intro); refine ⟨?_, rfl⟩)
          exact ⟨⟨k + 1, by omega, by go_num, hne', by rw [HT.out]; simpa [strs] using hown', hbel.trans (hbel' _ (Below.refl _ _))⟩⟩
        case measure => simp [intOf]; omega
    · go_wp2
      go_ret
      have hke : k = L.length := by omega
      rw [hke, List.take_length] at hown
      exact ⟨_, rfl, hne, hown, hbel⟩
end Go.Proofs.YtbcjkinalghokatDoor
