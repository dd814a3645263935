/- Texts that stand in one: TellPlain, HallTell, DiskPlain, AtPlain, KeptPlain, ActPlain, FolderPlain, FindPlain. -/
import Derived.Test.YtcaakommnglnbaaGreatDoorFetRowsJ
import Derived.Test.YtcaakommnglnbaaGreatDoorHallKitJ
import Derived.Test.YtcaakommnglnbaaGreatDoorDelCli
import Derived.Shelf.Abstract
import Derived.Test.YtcaakommnglnbaaGreatDoorFilesJ
import Derived.Maps.Own
import Derived.Maps.OwnSet
import Derived.Maps.Ext
import Derived.Sort.Walk0
import Derived.Sort.KeysCollected
import Derived.Test.YtcaakommnglnbaaGreatDoorEntPlainJ
namespace Go.Proofs.YtcaakommnglnbaaGreatDoor
open Go.RowKit
/-- Who waits for the fetch at this place. -/
def waitsB (k : Int) (c : Cli) : Bool := (c.st == 1) && (c.fe == k + 1)
def tellF (k : Int) (F : Cli → Cli) (c : Cli) : Cli := if waitsB k c = true then F c else c
/-- All who wait are told. -/
def tellX (L : List Cli) (k : Int) (F : Cli → Cli) : List Cli := L.map (tellF k F)
def tellTo (L : List Cli) (k : Int) (F : Cli → Cli) (n : Nat) : List Cli := (L.take n).map (tellF k F) ++ L.drop n
theorem tellTo_zero (L : List Cli) (k : Int) (F : Cli → Cli) : tellTo L k F 0 = L := by simp [tellTo]
theorem tellTo_all (L : List Cli) (k : Int) (F : Cli → Cli) : tellTo L k F L.length = tellX L k F := by simp [tellTo, tellX]
theorem tellTo_len (L : List Cli) (k : Int) (F : Cli → Cli) (n : Nat) : (tellTo L k F n).length = L.length := by
  unfold tellTo
  rw [List.length_append, List.length_map, List.length_take, List.length_drop]
  omega
theorem tellTo_at (L : List Cli) (k : Int) (F : Cli → Cli) (n : Nat) (h : n < L.length) : (tellTo L k F n)[n]'(by rw [tellTo_len]; exact h) = L[n] := by
  unfold tellTo
  rw [List.getElem_append_right (by simp; omega)]
  simp
  congr 1
  omega
theorem tellTo_succ (L : List Cli) (k : Int) (F : Cli → Cli) (n : Nat) (h : n < L.length) : tellTo L k F (n + 1) = (tellTo L k F n).set n (tellF k F L[n]) := by
  have hd : L.drop n = L[n] :: L.drop (n + 1) := List.drop_eq_getElem_cons h
  have hl : ((L.take n).map (tellF k F)).length = n := by rw [List.length_map, List.length_take]; omega
  unfold tellTo
  rw [hd, List.set_append_right _ _ (by omega), hl, Nat.sub_self, List.set_cons_zero, List.take_succ_eq_append_getElem h, List.map_append, List.append_assoc]
  rfl
end Go.Proofs.YtcaakommnglnbaaGreatDoor

namespace Go.Proofs.YtcaakommnglnbaaGreatDoor
open Go.RowKit Go.Sort
set_option maxRecDepth 100000 in
set_option maxHeartbeats 8000000 in
theorem tellWaiting_any (g : Nat) (lb : Array Value) (F : Cli → Cli) (eg : ∀ args w, (callFunc g args).run Tryz.prog w = .ok (.enter g args) w) (w : World) (lo T : Nat) (X : Pc) (R : Prx) (k : Nat) (H : HallAt w lo T X R) (hk : k ≤ 1048576) (hm : R.cls.length ≤ 1048576)
    (hp : ∀ (W : World) (G c : Nat) (L' : List Cli) (j : Nat) (hj : j < L'.length), X.c = .slice (some ⟨G, 0, none⟩) L'.length c → Tch (fun b => b = G) w W → OwnCli W lo 93 X.c L' →
      Calls Tryz.prog g (#[.pointer (some ⟨G, j * 7, none⟩)] ++ lb) W fun e w' => e = .returned (.tuple #[]) ∧ Tch (fun b => b = G) W w' ∧ OwnCli w' lo 93 X.c (L'.set j (F L'[j]))) :
    Calls Tryz.prog 76 #[.pointer (some ⟨T, 0, none⟩), .int .i64 (k : Int), .func (.func g) #[] lb] w fun e w' => e = .returned (.tuple #[]) ∧ Tch (fun b => X.c.ownBlock = some b) w w' ∧ OwnCli w' lo 93 X.c (tellX R.cls k F) := by
  obtain ⟨hB, hO, hle⟩ := H
  have hc := hO.c
  obtain ⟨a, c, hXc, hA⟩ := hc.at
  obtain ⟨L, hL⟩ : ∃ L, R.cls = L := ⟨_, rfl⟩
  rw [hL] at hc hXc hA hm ⊢
  have hT : ¬ (X.c.ownBlock = some T) := fun e => by
    obtain ⟨cs, h1⟩ := hc.type T e
    have h2 : w.heap[T]? = _ := hB
    rw [h2] at h1
    simp only [Option.some.injEq, Obj.cells.injEq] at h1
    exact absurd h1.2.1 (by decide)
  by_cases h0 : L.length = 0
  · have hnil : L = [] := List.length_eq_zero_iff.1 h0
    subst hnil
    have b7 := hB.cells.2.2.2.2.2.2.2.1
    rw [hXc] at b7
    have HC : Hid (OwnCli w lo 93 X.c (tellX [] k F)) := hc
    clear hp hO hc hA hXc h0 hB
    go_enter Tryz.func76, Tryz.ntmps76
    go_wp2_with fail
    go_loopw [6, 14] (fun _ i wr => Box (i = .int .i64 0 ∧ wr = w)) (fun _ _ _ => 0)
    case atStart => exact ⟨⟨rfl, rfl⟩⟩
    case round =>
      obtain ⟨rfl, hw⟩ := hrel.out
      subst hw
      go_wp2_with fail
      exact bodyPost_end (results_none rfl _ _ _) rfl ⟨rfl, Tch.of_below (Below.refl _ _), HC.out⟩
  obtain ⟨G, hG, hGs, hGl⟩ : ∃ G, a = some ⟨G, 0, none⟩ ∧ G < w.heap.size ∧ lo ≤ G := by
    have h := hc
    rw [hXc] at h
    exact row7_addr h (by omega)
  subst hG
  have hTG : ¬ (T = G) := fun e => hT (by rw [hXc, e]; rfl)
  have HP : Hid (∀ (W : World) (L' : List Cli) (j : Nat) (hj : j < L'.length), L'.length = L.length → Tch (fun b => b = G) w W → OwnCli W lo 93 X.c L' → Calls Tryz.prog g (#[.pointer (some ⟨G, j * 7, none⟩)] ++ lb) W fun e w' => e = .returned (.tuple #[]) ∧ Tch (fun b => b = G) W w' ∧ OwnCli w' lo 93 X.c (L'.set j (F L'[j]))) := fun W L' j hj hl ht ho => hp W G c L' j hj (by rw [hl]; exact hXc) ht ho
  have HBX : Hid (∀ W, Tch (fun b => b = G) w W → W.cell? ⟨T, 7, none⟩ = some (.slice (some ⟨G, 0, none⟩) L.length c)) := fun W ht => by
    have h := (hB.kept (ht.2 T hB.lt hTG)).cells.2.2.2.2.2.2.2.1
    rw [hXc] at h
    exact h
  have b7 := HBX.out w (Tch.of_below (Below.refl _ _))
  have HXC : Hid (X.c = .slice (some ⟨G, 0, none⟩) L.length c) := hXc
  have HOB : Hid (∀ b, X.c.ownBlock = some b ↔ b = G) := fun b => by rw [hXc]; simp [Value.ownBlock]; exact eq_comm
  have HC0 : Hid (OwnCli w lo 93 X.c L) := hc
  clear hp hO hc hA hXc hB hle hT hTG hGs hGl hL
  go_enter Tryz.func76, Tryz.ntmps76
  go_wp2_with fail
  clear b7
  go_loopw [6, 14] (fun _ i wr => Box (∃ n : Nat, n ≤ L.length ∧ i = .int .i64 n ∧ Tch (fun b => b = G) w wr ∧ OwnCli wr lo 93 X.c (tellTo L k F n)))
    (fun _ i _ => L.length - (intOf i).toNat)
  case atStart => exact ⟨⟨0, by omega, rfl, Tch.of_below (Below.refl _ _), by rw [tellTo_zero]; exact HC0.out⟩⟩
  case round =>
    obtain ⟨n, hn, rfl, ht, ho⟩ := hrel.out
    obtain ⟨wo, hwo⟩ : ∃ wo, wo = wr := ⟨_, rfl⟩
    subst hwo
    have HT : Hid (Tch (fun b => b = G) w wo) := ht
    have HO : Hid (OwnCli wo lo 93 X.c (tellTo L k F n)) := ho
    have b7 := HBX.out wo ht
    clear hrel ht ho
    by_cases hlt : n < L.length
    · have ho' := HO.out
      rw [HXC.out] at ho'
      have hce := ho'.cellP n (by rw [tellTo_len]; exact hlt)
      rw [tellTo_at L k F n hlt] at hce
      obtain ⟨x, hx⟩ : ∃ x, L[n] = x := ⟨_, rfl⟩
      rw [hx] at hce
      obtain ⟨q0, q1, q2, q3, q4, q5, q6⟩ := hce
      have HX : Hid (tellTo L k F (n + 1) = (tellTo L k F n).set n (tellF k F x)) := by show _ = _; rw [tellTo_succ L k F n hlt, hx]
      have cP := HP.out wo (tellTo L k F n) n (by rw [tellTo_len]; exact hlt) (tellTo_len _ _ _ _) HT.out HO.out
      rw [tellTo_at L k F n hlt, hx] at cP
      have HAT : Hid ((tellTo L k F n).set n x = tellTo L k F n) := by
        show _ = _
        have h1 := tellTo_at L k F n hlt
        rw [← hx, ← h1]
        exact List.set_getElem_self _
      have hi1 : (0 : Int) ≤ (n : Int) := by omega
      have hi3 : (n : Int) < (L.length : Int) := by omega
      have HK : Hid (n < L.length) := hlt
      obtain ⟨y1, hy1⟩ : ∃ b, (x.st == 1) = b := ⟨_, rfl⟩
      obtain ⟨y2, hy2⟩ : ∃ b, (x.fe == (k : Int) + 1) = b := ⟨_, rfl⟩
      have HW : Hid (tellF k F x = if (y1 && y2) = true then F x else x) := by show _ = _; unfold tellF waitsB; rw [hy1, hy2]
      clear ho' hx hlt
      cases y1 with
      | false =>
        have HF : Hid (OwnCli wo lo 93 X.c (tellTo L k F (n + 1))) := by
          show OwnCli _ _ _ _ _
          rw [HX.out, HW.out]
          simp only [Bool.false_and, Bool.false_eq_true, if_false]
          rw [HAT.out]
          exact HO.out
        clear cP
        go_wp2_with fail
        go_roundw
        case rel =>
          try ((repeat apply Exists.intro); refine ⟨?_, rfl⟩)
          exact ⟨⟨n + 1, by have := HK.out; omega, by go_num, HT.out, HF.out⟩⟩
        case measure => have := HK.out; simp [intOf]; omega
      | true =>
        cases y2 with
        | false =>
          have HF : Hid (OwnCli wo lo 93 X.c (tellTo L k F (n + 1))) := by
            show OwnCli _ _ _ _ _
            rw [HX.out, HW.out]
            simp only [Bool.and_false, Bool.false_eq_true, if_false]
            rw [HAT.out]
            exact HO.out
          clear cP
          go_wp2_with fail
          go_roundw
          case rel =>
            try ((repeat apply Exists.intro); refine ⟨?_, rfl⟩)
            exact ⟨⟨n + 1, by have := HK.out; omega, by go_num, HT.out, HF.out⟩⟩
          case measure => have := HK.out; simp [intOf]; omega
        | true =>
          go_wp2_with (go_at_fn g; refine cP.mono ?_; rintro e w2 ⟨rfl, ht2, ho2⟩)
          have HF : Hid (OwnCli w2 lo 93 X.c (tellTo L k F (n + 1))) := by
            show OwnCli _ _ _ _ _
            rw [HX.out, HW.out]
            exact ho2
          have HT2 : Hid (Tch (fun b => b = G) w w2) := HT.out.trans ht2
          clear cP ho2 ht2
          try go_wp2_with fail
          go_roundw
          case rel =>
            try ((repeat apply Exists.intro); refine ⟨?_, rfl⟩)
            exact ⟨⟨n + 1, by have := HK.out; omega, by go_num, HT2.out, HF.out⟩⟩
          case measure => have := HK.out; simp [intOf]; omega
    · have hi3 : ¬ (n : Int) < (L.length : Int) := by omega
      have HF : Hid (OwnCli wo lo 93 X.c (tellX L k F)) := by
        show OwnCli _ _ _ _ _
        rw [← tellTo_all, show L.length = n by omega]
        exact HO.out
      clear hlt hn
      go_wp2_with fail
      exact bodyPost_end (results_none rfl _ _ _) rfl ⟨rfl, HT.out.weak (fun b hb => (HOB.out b).2 hb), HF.out⟩
end Go.Proofs.YtcaakommnglnbaaGreatDoor

namespace Go.Proofs.YtcaakommnglnbaaGreatDoor
open Go.RowKit

def nOk (s : ByteArray) : Bool := decide (1 ≤ s.size ∧ s.size ≤ 8)
def fOk (f : Fil) : Bool := nOk f.nm && (decide (f.tx.size ≤ 20000) && decide (0 ≤ f.kp ∧ f.kp ≤ f.tx.size))
def ltS (a b : ByteArray) : Bool := Op.bytesLess a.toList b.toList

/-- The file at k is right, and stands behind the one ahead of it. -/
def rOk (L : List Fil) : Nat → Bool
  | 0 => match L[0]? with | some f => fOk f | none => false
  | m + 1 => match L[m + 1]?, L[m]? with | some f, some p => fOk f && ltS p.nm f.nm | _, _ => false
def okTo (L : List Fil) : Nat → Bool
  | 0 => true
  | k + 1 => okTo L k && rOk L k
def dOk (L : List Fil) : Bool := decide (L.length ≤ 30) && okTo L L.length

theorem rOk_zero {L : List Fil} {f : Fil} (h : 0 < L.length) (hf : L[0] = f) : rOk L 0 = fOk f := by
  simp [rOk, List.getElem?_eq_getElem h, hf]
theorem rOk_succ {L : List Fil} {f p : Fil} {m : Nat} (h : m + 1 < L.length) (hf : L[m + 1] = f) (hp : L[m] = p) : rOk L (m + 1) = (fOk f && ltS p.nm f.nm) := by
  simp [rOk, List.getElem?_eq_getElem h, List.getElem?_eq_getElem (show m < L.length by omega), hf, hp]
theorem okTo_false {L : List Fil} {k : Nat} (h : rOk L k = false) : ∀ n, k < n → okTo L n = false
  | 0, hn => by omega
  | n + 1, hn => by
    by_cases e : k = n
    · subst e; simp [okTo, h]
    · simp [okTo, okTo_false h n (by omega)]
theorem dOk_false {L : List Fil} {k : Nat} (h : rOk L k = false) (hk : k < L.length) : dOk L = false := by simp [dOk, okTo_false h _ hk]
theorem dOk_true {L : List Fil} (hl : L.length ≤ 30) (h : okTo L L.length = true) : dOk L = true := by simp [dOk, hl, h]
theorem dOk_long {L : List Fil} (hl : ¬ L.length ≤ 30) : dOk L = false := by simp [dOk, hl]
theorem okTo_succ {L : List Fil} {k : Nat} (h : okTo L k = true) (hr : rOk L k = true) : okTo L (k + 1) = true := by simp [okTo, h, hr]
end Go.Proofs.YtcaakommnglnbaaGreatDoor

namespace Go.Proofs.YtcaakommnglnbaaGreatDoor
open Go.RowKit

def eqS (a b : ByteArray) : Bool := a.toList == b.toList
def pos (L : List Fil) (nm : ByteArray) : Option Nat := L.findIdx? fun f => eqS f.nm nm
/-- The place as the program tells it. -/
def posV (o : Option Nat) : Int := match o with | some k => (k : Int) | none => -1
def fileAt (L : List Fil) (nm : ByteArray) : ByteArray × Bool := match L.find? (fun f => eqS f.nm nm) with | some f => (f.tx, true) | none => (⟨#[]⟩, false)

/-- None of the first k bears the name. -/
def NoneTo (L : List Fil) (nm : ByteArray) (k : Nat) : Prop := ∀ j (h : j < L.length), j < k → eqS L[j].nm nm = false
theorem NoneTo.zero (L : List Fil) (nm : ByteArray) : NoneTo L nm 0 := fun j _ h => by omega
theorem NoneTo.succ {L : List Fil} {nm : ByteArray} {k : Nat} (h : NoneTo L nm k) (hk : k < L.length) {f : Fil} (hf : L[k] = f) (he : eqS f.nm nm = false) : NoneTo L nm (k + 1) := by
  intro j hj hlt
  by_cases e : j = k
  · subst e; rw [hf]; exact he
  · exact h j hj (by omega)
theorem pos_some {L : List Fil} {nm : ByteArray} {k : Nat} (h : NoneTo L nm k) (hk : k < L.length) {f : Fil} (hf : L[k] = f) (he : eqS f.nm nm = true) : pos L nm = some k := by
  unfold pos
  rw [List.findIdx?_eq_some_iff_getElem]
  exact ⟨hk, by rw [hf]; exact he, fun j hj => by simpa using h j (by omega) hj⟩
theorem pos_none {L : List Fil} {nm : ByteArray} (h : NoneTo L nm L.length) : pos L nm = none := by
  unfold pos
  rw [List.findIdx?_eq_none_iff]
  intro f hf
  obtain ⟨j, hj, rfl⟩ := List.getElem_of_mem hf
  exact h j hj hj
theorem fileAt_some {L : List Fil} {nm : ByteArray} {k : Nat} (h : NoneTo L nm k) (hk : k < L.length) {f : Fil} (hf : L[k] = f) (he : eqS f.nm nm = true) : fileAt L nm = (f.tx, true) := by
  unfold fileAt
  have : L.find? (fun f => eqS f.nm nm) = some f := by
    rw [List.find?_eq_some_iff_getElem]
    exact ⟨he, k, hk, hf, fun j hj => by simpa using h j (by omega) hj⟩
  rw [this]
theorem fileAt_none {L : List Fil} {nm : ByteArray} (h : NoneTo L nm L.length) : fileAt L nm = (⟨#[]⟩, false) := by
  unfold fileAt
  have : L.find? (fun f => eqS f.nm nm) = none := by
    rw [List.find?_eq_none]
    intro f hf
    obtain ⟨j, hj, rfl⟩ := List.getElem_of_mem hf
    simp [h j hj hj]
  rw [this]
/-- What a place says of the file there. -/
theorem pos_at {L : List Fil} {nm : ByteArray} {k : Nat} (h : pos L nm = some k) : ∃ hk : k < L.length, eqS L[k].nm nm = true ∧ fileAt L nm = (L[k].tx, true) := by
  unfold pos at h
  rw [List.findIdx?_eq_some_iff_getElem] at h
  obtain ⟨hk, he, hn⟩ := h
  exact ⟨hk, he, fileAt_some (fun j hj hlt => by simpa using hn j hlt) hk rfl he⟩
theorem pos_not {L : List Fil} {nm : ByteArray} (h : pos L nm = none) : fileAt L nm = (⟨#[]⟩, false) := by
  unfold pos at h
  rw [List.findIdx?_eq_none_iff] at h
  exact fileAt_none fun j hj _ => h _ (List.getElem_mem hj)
end Go.Proofs.YtcaakommnglnbaaGreatDoor

namespace Go.Proofs.YtcaakommnglnbaaGreatDoor
open Go.RowKit

theorem okTo_at {L : List Fil} : ∀ {n j : Nat}, okTo L n = true → j < n → rOk L j = true
  | 0, j, _, h => by omega
  | n + 1, j, hk, h => by
    simp only [okTo, Bool.and_eq_true] at hk
    by_cases e : j = n
    · subst e; exact hk.2
    · exact okTo_at hk.1 (by omega)
theorem rOk_fOk {L : List Fil} {j : Nat} (hj : j < L.length) (h : rOk L j = true) : fOk L[j] = true := by
  cases j with
  | zero => rw [rOk_zero hj rfl] at h; exact h
  | succ m => rw [rOk_succ hj rfl rfl, Bool.and_eq_true] at h; exact h.1
theorem dOk_at {L : List Fil} (h : dOk L = true) {j : Nat} (hj : j < L.length) : fOk L[j] = true := by
  simp only [dOk, Bool.and_eq_true] at h
  exact rOk_fOk hj (okTo_at h.2 hj)
theorem dOk_len {L : List Fil} (h : dOk L = true) : L.length ≤ 30 := by
  simp only [dOk, Bool.and_eq_true, decide_eq_true_eq] at h
  exact h.1
theorem fOk_kp {f : Fil} (h : fOk f = true) : 0 ≤ f.kp ∧ f.kp ≤ f.tx.size := by
  simp only [fOk, Bool.and_eq_true, decide_eq_true_eq] at h
  exact h.2.2
theorem fOk_tx {f : Fil} (h : fOk f = true) : f.tx.size ≤ 20000 := by
  simp only [fOk, Bool.and_eq_true, decide_eq_true_eq] at h
  exact h.2.1
theorem fOk_nm {f : Fil} (h : fOk f = true) : 1 ≤ f.nm.size ∧ f.nm.size ≤ 8 := by
  simp only [fOk, nOk, Bool.and_eq_true, decide_eq_true_eq] at h
  exact h.1

def wholeF (f : Fil) : Bool := decide (f.kp = f.tx.size)
def aK (L : List Fil) : Bool := dOk L && L.all wholeF
def KeptTo (L : List Fil) (k : Nat) : Prop := ∀ j (h : j < L.length), j < k → wholeF L[j] = true
theorem KeptTo.zero (L : List Fil) : KeptTo L 0 := fun j _ h => by omega
theorem KeptTo.succ {L : List Fil} {k : Nat} (h : KeptTo L k) (hk : k < L.length) {f : Fil} (hf : L[k] = f) (he : wholeF f = true) : KeptTo L (k + 1) := by
  intro j hj hlt
  by_cases e : j = k
  · subst e; rw [hf]; exact he
  · exact h j hj (by omega)
theorem aK_true {L : List Fil} (hd : dOk L = true) (h : KeptTo L L.length) : aK L = true := by
  unfold aK
  rw [hd, Bool.true_and, List.all_eq_true]
  intro f hf
  obtain ⟨j, hj, rfl⟩ := List.getElem_of_mem hf
  exact h j hj hj
theorem aK_false {L : List Fil} {k : Nat} (hk : k < L.length) {f : Fil} (hf : L[k] = f) (he : wholeF f = false) : aK L = false := by
  unfold aK
  have : L.all wholeF = false := by
    rw [List.all_eq_false]
    exact ⟨f, by rw [← hf]; exact List.getElem_mem hk, by simp [he]⟩
  rw [this, Bool.and_false]
theorem aK_bad {L : List Fil} (hd : dOk L = false) : aK L = false := by simp [aK, hd]
end Go.Proofs.YtcaakommnglnbaaGreatDoor

namespace Go.Proofs.YtcaakommnglnbaaGreatDoor
open Go.RowKit

/-- The files whose names are not nm. -/
def woL (L : List Fil) (nm : ByteArray) : List Fil := L.filter fun f => !eqS f.nm nm
/-- A file put in its place. -/
def putL (L : List Fil) (f : Fil) : List Fil := (L.filter fun g => ltS g.nm f.nm) ++ [f] ++ (L.filter fun g => !(ltS g.nm f.nm || eqS g.nm f.nm))

theorem filter_take_on {L : List Fil} {p : Fil → Bool} {k : Nat} (hk : k < L.length) {f : Fil} (hf : L[k] = f) (hp : p f = true) : (L.take (k + 1)).filter p = (L.take k).filter p ++ [f] := by
  rw [List.take_succ_eq_append_getElem hk, List.filter_append, hf]; simp [hp]
theorem filter_take_off {L : List Fil} {p : Fil → Bool} {k : Nat} (hk : k < L.length) {f : Fil} (hf : L[k] = f) (hp : p f = false) : (L.take (k + 1)).filter p = (L.take k).filter p := by
  rw [List.take_succ_eq_append_getElem hk, List.filter_append, hf]; simp [hp]
theorem filter_take_len (L : List Fil) (p : Fil → Bool) (k : Nat) : ((L.take k).filter p).length ≤ k := Nat.le_trans (List.length_filter_le _ _) (by rw [List.length_take]; omega)
theorem woL_len (L : List Fil) (nm : ByteArray) : (woL L nm).length ≤ L.length := List.length_filter_le _ _
end Go.Proofs.YtcaakommnglnbaaGreatDoor

namespace Go.Proofs.YtcaakommnglnbaaGreatDoor
open Go.RowKit

theorem toList_data' (a : ByteArray) : a.toList = a.data.toList := ByteArray.toList_eq a
theorem before_less : ∀ (x y : List UInt8), bytesBefore x y = Op.bytesLess x y
  | [], [] => by simp [bytesBefore, Op.bytesLess]
  | _ :: _, [] => by simp [bytesBefore, Op.bytesLess]
  | [], _ :: _ => by simp [bytesBefore, Op.bytesLess]
  | a :: x, b :: y => by simp [bytesBefore, Op.bytesLess, before_less x y]
theorem before_lt (a b : ByteArray) : (Lit.string a.data.toList).before (.string b.data.toList) = ltS a b := by
  simp only [Lit.before, ltS, before_less, toList_data']
theorem same_eq (a b : ByteArray) : (Lit.string a.data.toList).sameKey (.string b.data.toList) = eqS a b := by
  simp only [Lit.sameKey, eqS, toList_data']
theorem eqS_iff {a b : ByteArray} : eqS a b = true ↔ a = b := by
  unfold eqS
  rw [beq_iff_eq, toList_data', toList_data']
  constructor
  · intro h; cases a; cases b; simp at h; simp [h]
  · rintro rfl; rfl
theorem eqS_ne {a b : ByteArray} : eqS a b = false ↔ a ≠ b := by rw [← Bool.not_eq_true, eqS_iff]
theorem eqS_refl (a : ByteArray) : eqS a a = true := eqS_iff.2 rfl
theorem ltS_irr (a : ByteArray) : ltS a a = false := by rw [← before_lt]; exact WideAt.bytes_irrefl _
theorem ltS_trans {a b c : ByteArray} (h : ltS a b = true) (k : ltS b c = true) : ltS a c = true := by
  rw [← before_lt] at *
  exact WideShapes.bytes_trans _ _ _ h k
theorem ltS_total {a b : ByteArray} (h : a ≠ b) : ltS a b = true ∨ ltS b a = true := by
  rw [← before_lt, ← before_lt]
  exact WideAt.bytes_total _ _ (fun e => h (by cases a; cases b; simp at e; simp [e]))
theorem ltS_asym {a b : ByteArray} (h : ltS a b = true) : ltS b a = false := by
  cases k : ltS b a with
  | false => rfl
  | true => have := ltS_trans h k; rw [ltS_irr] at this; cases this
theorem ltS_ne {a b : ByteArray} (h : ltS a b = true) : eqS a b = false := by
  rw [eqS_ne]; rintro rfl; rw [ltS_irr] at h; cases h
/-- Neither less nor alike: it stands behind. -/
theorem gtS_iff {a b : ByteArray} : (!(ltS a b || eqS a b)) = ltS b a := by
  by_cases e : a = b
  · subst e; simp [eqS_refl, ltS_irr]
  · have he : eqS a b = false := eqS_ne.2 e
    rcases ltS_total e with h | h
    · simp [h, ltS_asym h]
    · simp [h, he, ltS_asym h]

/-- A right list of files rises. -/
def Rise (L : List Fil) : Prop := L.Pairwise fun p q => ltS p.nm q.nm = true
theorem dOk_rise {L : List Fil} (h : dOk L = true) : Rise L := by
  unfold Rise
  have hstep : ∀ m (hm : m + 1 < L.length), ltS L[m].nm L[m + 1].nm = true := by
    intro m hm
    simp only [dOk, Bool.and_eq_true] at h
    have := okTo_at h.2 hm
    rw [rOk_succ hm rfl rfl, Bool.and_eq_true] at this
    exact this.2
  have hall : ∀ j i, (hij : i < j) → (hj : j < L.length) → ltS (L[i]'(by omega)).nm L[j].nm = true := by
    intro j
    induction j with
    | zero => intro i hij; omega
    | succ j ih =>
      intro i hij hj
      by_cases e : i = j
      · subst e; exact hstep i hj
      · exact ltS_trans (ih i (by omega) (by omega)) (hstep j hj)
  rw [List.pairwise_iff_getElem]
  intro i j hi hj hij
  exact hall j i hij hj
theorem rise_dOk {L : List Fil} (hl : L.length ≤ 30) (hr : Rise L) (hf : ∀ f ∈ L, fOk f = true) : dOk L = true := by
  refine dOk_true hl ?_
  have : ∀ n, n ≤ L.length → okTo L n = true := by
    intro n
    induction n with
    | zero => intro _; rfl
    | succ n ih =>
      intro hn
      refine okTo_succ (ih (by omega)) ?_
      cases n with
      | zero => rw [rOk_zero (by omega) rfl]; exact hf _ (List.getElem_mem _)
      | succ m =>
        rw [rOk_succ (by omega) rfl rfl, Bool.and_eq_true]
        refine ⟨hf _ (List.getElem_mem _), ?_⟩
        exact (List.pairwise_iff_getElem.1 hr) m (m + 1) (by omega) (by omega) (by omega)
  exact this _ (Nat.le_refl _)

/-- The files of a map with their blocks, in the order of their names. -/
def entD (p : Fil × Nat) : Lit × DataW Unit := (.string p.1.nm.data.toList, .lit (.int .i64 (p.2 : Int)))
def mOf (M : List (Fil × Nat)) : DataW Unit := .map (M.map entD)
def putMF (M : List (Fil × Nat)) (p : Fil × Nat) : List (Fil × Nat) := (M.filter fun q => ltS q.1.nm p.1.nm) ++ [p] ++ (M.filter fun q => !(ltS q.1.nm p.1.nm || eqS q.1.nm p.1.nm))
def woM (M : List (Fil × Nat)) (nm : ByteArray) : List (Fil × Nat) := M.filter fun q => !eqS q.1.nm nm
def edM (M : List (Fil × Nat)) (f : Fil) : List (Fil × Nat) := M.map fun q => if eqS q.1.nm f.nm then (f, q.2) else q
theorem putM_fst (M : List (Fil × Nat)) (p : Fil × Nat) : (putMF M p).map (·.1) = putL (M.map (·.1)) p.1 := by
  simp [putMF, putL, List.filter_map, Function.comp_def]
theorem woM_fst (M : List (Fil × Nat)) (nm : ByteArray) : (woM M nm).map (·.1) = woL (M.map (·.1)) nm := by
  simp [woM, woL, List.filter_map, Function.comp_def]

theorem ins_filter {x : Lit × DataW Unit} : ∀ (l : List (Lit × DataW Unit)), (∀ p ∈ l, ∀ q ∈ l, x.1.before p.1 = true → p.1.before q.1 = true → x.1.before q.1 = true) → l.Pairwise (fun p q => p.1.before q.1 = true) →
    (∀ p ∈ l, p.1.before x.1 = !x.1.before p.1) → DataW.insert x l = (l.filter fun p => p.1.before x.1) ++ [x] ++ (l.filter fun p => x.1.before p.1)
  | [], _, _, _ => by simp [DataW.insert]
  | y :: r, ht, hs, hx => by
    have hy := hx y (by simp)
    rw [List.pairwise_cons] at hs
    cases hb : x.1.before y.1 with
    | true =>
      rw [hb] at hy
      have hall : ∀ p ∈ r, x.1.before p.1 = true := fun p hp => ht y (by simp) p (by simp [hp]) hb (hs.1 p hp)
      have h1 : r.filter (fun p => p.1.before x.1) = [] := by
        rw [List.filter_eq_nil_iff]
        intro p hp
        rw [hx p (by simp [hp]), hall p hp]
        simp
      have h2 : r.filter (fun p => x.1.before p.1) = r := List.filter_eq_self.2 hall
      simp [DataW.insert, hb, hy, h1, h2]
    | false =>
      rw [hb] at hy
      have ih := ins_filter r (fun p hp q hq => ht p (by simp [hp]) q (by simp [hq])) hs.2 (fun p hp => hx p (by simp [hp]))
      simp [DataW.insert, hb, hy, ih]

/-- A map's entries rise. -/
def RiseM (M : List (Fil × Nat)) : Prop := M.Pairwise fun p q => ltS p.1.nm q.1.nm = true
theorem riseM_fst {M : List (Fil × Nat)} : RiseM M ↔ Rise (M.map (·.1)) := by simp [RiseM, Rise, List.pairwise_map]
theorem riseM_of_canon {M : List (Fil × Nat)} (h : Maps.Canon (mOf M)) : RiseM M := by
  obtain ⟨es, he, hp, _⟩ := h
  simp only [mOf, DataW.map.injEq] at he
  rw [← he, List.pairwise_map] at hp
  refine hp.imp ?_
  intro p q hpq
  rw [← before_lt]
  exact hpq

theorem mOf_put {M : List (Fil × Nat)} (h : RiseM M) (f : Fil) (g : Nat) : (mOf M).put (.string f.nm.data.toList) (.lit (.int .i64 (g : Int))) = mOf (putMF M (f, g)) := by
  have hs : ∀ p : Fil × Nat, (entD p).1.sameKey (.string f.nm.data.toList) = eqS p.1.nm f.nm := fun p => same_eq _ _
  have e1 : (M.map entD).filter (fun p => !p.1.sameKey (.string f.nm.data.toList)) = (M.filter fun q => !eqS q.1.nm f.nm).map entD := by
    rw [List.filter_map]
    congr 1
    refine List.filter_congr fun p _ => ?_
    simp [hs]
  unfold mOf DataW.put
  simp only
  rw [e1, ins_filter]
  · unfold putMF
    simp only [DataW.map.injEq, List.map_append, List.map_cons, List.map_nil, List.filter_map, List.filter_filter]
    congr 1
    · congr 1
      refine congrArg _ (List.filter_congr fun p _ => ?_)
      simp only [Function.comp]
      rw [show (entD p).1.before (.string f.nm.data.toList) = ltS p.1.nm f.nm from before_lt _ _]
      cases hl : ltS p.1.nm f.nm with
      | false => simp
      | true => simp [ltS_ne hl]
    · refine congrArg _ (List.filter_congr fun p _ => ?_)
      simp only [Function.comp]
      rw [show (Lit.string f.nm.data.toList).before (entD p).1 = ltS f.nm p.1.nm from before_lt _ _, gtS_iff]
      cases hl : ltS f.nm p.1.nm with
      | false => simp
      | true => simp [show eqS p.1.nm f.nm = false from eqS_ne.2 fun e => by rw [e, ltS_irr] at hl; cases hl]
  · intro p hp q hq h1 h2
    obtain ⟨p', _, rfl⟩ := List.mem_map.1 hp
    obtain ⟨q', _, rfl⟩ := List.mem_map.1 hq
    exact WideShapes.bytes_trans _ _ _ h1 h2
  · rw [List.pairwise_map]
    refine (List.Pairwise.filter _ h).imp ?_
    intro p q hpq
    exact (before_lt _ _).trans hpq
  · intro p hp
    obtain ⟨p', hp', rfl⟩ := List.mem_map.1 hp
    have hne := (List.mem_filter.1 hp').2
    have hne' : eqS p'.1.nm f.nm = false := by simpa using hne
    rw [show (entD p').1.before (.string f.nm.data.toList) = ltS p'.1.nm f.nm from before_lt _ _, show (Lit.string f.nm.data.toList).before (entD p').1 = ltS f.nm p'.1.nm from before_lt _ _, ← gtS_iff (a := p'.1.nm) (b := f.nm)]
    simp [hne']
theorem mOf_del (M : List (Fil × Nat)) (nm : ByteArray) : (mOf M).del (.string nm.data.toList) = mOf (woM M nm) := by
  unfold mOf DataW.del woM
  simp only [DataW.map.injEq]
  rw [List.filter_map]
  congr 1
  refine List.filter_congr fun p _ => ?_
  simp only [Function.comp]
  rw [show (entD p).1.sameKey (.string nm.data.toList) = eqS p.1.nm nm from same_eq _ _]
theorem mOf_at (M : List (Fil × Nat)) (nm : ByteArray) (z : DataW Unit) : (mOf M).atKey (.string nm.data.toList) z = match M.find? (fun q => eqS q.1.nm nm) with | some p => .lit (.int .i64 (p.2 : Int)) | none => z := by
  unfold mOf DataW.atKey
  simp only
  rw [List.find?_map]
  have : ((fun p : Lit × DataW Unit => p.1.sameKey (.string nm.data.toList)) ∘ entD) = fun q : Fil × Nat => eqS q.1.nm nm := by
    funext p
    exact same_eq _ _
  rw [this]
  cases M.find? (fun q => eqS q.1.nm nm) <;> rfl
theorem mOf_edit (M : List (Fil × Nat)) (f : Fil) : mOf (edM M f) = mOf M := by
  unfold mOf edM
  simp only [DataW.map.injEq, List.map_map]
  refine List.map_congr_left fun p _ => ?_
  simp only [Function.comp]
  split
  · rename_i h
    rw [eqS_iff] at h
    simp [entD, h]
  · rfl
theorem mOf_size (M : List (Fil × Nat)) : Maps.size (mOf M) = M.length := by simp [mOf, Maps.size]
end Go.Proofs.YtcaakommnglnbaaGreatDoor

namespace Go.Proofs.YtcaakommnglnbaaGreatDoor
open Go.RowKit
/-- The entries among texts. -/
def entsOf (xs : List ByteArray) : List En := xs.filterMap fun x => if reOk x = true then some (reE x) else none
theorem ents_yes {x : ByteArray} (xs : List ByteArray) (h : reOk x = true) : entsOf (xs ++ [x]) = entsOf xs ++ [reE x] := by simp [entsOf, h]
theorem ents_no {x : ByteArray} (xs : List ByteArray) (h : reOk x = false) : entsOf (xs ++ [x]) = entsOf xs := by simp [entsOf, h]
theorem ents_len (xs : List ByteArray) : (entsOf xs).length ≤ xs.length := List.length_filterMap_le _ _
/-- An entry in its place. -/
def insE (L : List En) (e : En) : List En := (L.filter fun x => ltS x.key e.key) ++ e :: (L.filter fun x => ltS e.key x.key)
def findE (es : List En) : List En := es.foldl insE []
theorem findE_snoc (es : List En) (e : En) : findE (es ++ [e]) = insE (findE es) e := by simp [findE]
/-- A later one takes the place of one of its key. -/
def posE (L : List En) (k : ByteArray) : Option Nat := L.findIdx? fun x => decide (x.key = k)
def updE (L : List En) (e : En) : List En := match posE L e.key with | some j => L.set j e | none => L ++ [e]
def lastE (es : List En) : List En := es.foldl updE []
theorem lastE_snoc (es : List En) (e : En) : lastE (es ++ [e]) = updE (lastE es) e := by simp [lastE]

def UpK (L : List En) : Prop := L.Pairwise fun x y => ltS x.key y.key = true
def ApartK (L : List En) : Prop := L.Pairwise fun x y => x.key ≠ y.key
theorem UpK.apart {L : List En} (h : UpK L) : ApartK L := h.imp fun {x y} hxy e => by rw [e, ltS_irr] at hxy; cases hxy
theorem mem_insE {L : List En} {e x : En} : x ∈ insE L e ↔ x = e ∨ (x ∈ L ∧ x.key ≠ e.key) := by
  unfold insE
  simp only [List.mem_append, List.mem_cons, List.mem_filter]
  constructor
  · rintro (⟨h1, h2⟩ | h | ⟨h1, h2⟩)
    · exact .inr ⟨h1, fun e => by rw [e, ltS_irr] at h2; cases h2⟩
    · exact .inl h
    · exact .inr ⟨h1, fun e => by rw [e, ltS_irr] at h2; cases h2⟩
  · rintro (h | ⟨h1, h2⟩)
    · exact .inr (.inl h)
    · rcases ltS_total h2 with h | h
      · exact .inl ⟨h1, h⟩
      · exact .inr (.inr ⟨h1, h⟩)
theorem insE_up {L : List En} (h : UpK L) (e : En) : UpK (insE L e) := by
  unfold UpK insE
  rw [List.pairwise_append]
  refine ⟨h.filter _, ?_, ?_⟩
  · rw [List.pairwise_cons]
    exact ⟨fun x hx => (List.mem_filter.1 hx).2, h.filter _⟩
  · intro x hx y hy
    have hx2 := (List.mem_filter.1 hx).2
    rcases List.mem_cons.1 hy with rfl | hy
    · exact hx2
    · exact ltS_trans hx2 (List.mem_filter.1 hy).2
theorem findE_up (es : List En) : UpK (findE es) := by
  have go : ∀ (es L : List En), UpK L → UpK (es.foldl insE L) := by
    intro es
    induction es with
    | nil => intro L h; exact h
    | cons e es ih => intro L h; exact ih _ (insE_up h e)
  exact go es [] List.Pairwise.nil
theorem posE_some {L : List En} {k : ByteArray} {j : Nat} (h : posE L k = some j) : ∃ hj : j < L.length, L[j].key = k := by
  unfold posE at h
  rw [List.findIdx?_eq_some_iff_getElem] at h
  obtain ⟨hj, h1, _⟩ := h
  exact ⟨hj, by simpa using h1⟩
theorem posE_none {L : List En} {k : ByteArray} (h : posE L k = none) : ∀ x ∈ L, x.key ≠ k := by
  unfold posE at h
  rw [List.findIdx?_eq_none_iff] at h
  intro x hx
  simpa using h x hx
theorem apart_at {L : List En} (h : ApartK L) {i j : Nat} (hi : i < L.length) (hj : j < L.length) (he : L[i].key = L[j].key) : i = j := by
  rcases Nat.lt_trichotomy i j with hlt | heq | hlt
  · exact absurd he (List.pairwise_iff_getElem.1 h i j hi hj hlt)
  · exact heq
  · exact absurd he.symm (List.pairwise_iff_getElem.1 h j i hj hi hlt)
theorem mem_updE {L : List En} (h : ApartK L) {e x : En} : x ∈ updE L e ↔ x = e ∨ (x ∈ L ∧ x.key ≠ e.key) := by
  unfold updE
  cases hp : posE L e.key with
  | none =>
    have hn := posE_none hp
    simp only [List.mem_append, List.mem_singleton]
    constructor
    · rintro (h | h)
      · exact .inr ⟨h, hn x h⟩
      · exact .inl h
    · rintro (h | ⟨h, _⟩)
      · exact .inr h
      · exact .inl h
  | some j =>
    obtain ⟨hj, hk⟩ := posE_some hp
    show x ∈ L.set j e ↔ _
    constructor
    · intro hm
      obtain ⟨i, hi, hx⟩ := List.getElem_of_mem hm
      rw [List.length_set] at hi
      rw [List.getElem_set] at hx
      split at hx
      · exact .inl hx.symm
      · rename_i hne
        refine .inr ⟨by rw [← hx]; exact List.getElem_mem hi, fun he => hne ?_⟩
        rw [← hx] at he
        exact (apart_at h hj hi (by rw [hk, he]))
    · rintro (rfl | ⟨hm, hne⟩)
      · exact List.mem_set hj _
      · obtain ⟨i, hi, hx⟩ := List.getElem_of_mem hm
        have hij : j ≠ i := by rintro rfl; exact hne (by rw [← hx, hk])
        have : (L.set j e)[i]'(by rw [List.length_set]; exact hi) = x := by rw [List.getElem_set_ne hij]; exact hx
        rw [← this]
        exact List.getElem_mem _
theorem updE_apart {L : List En} (h : ApartK L) (e : En) : ApartK (updE L e) := by
  unfold updE
  cases hp : posE L e.key with
  | none =>
    have hn := posE_none hp
    show ApartK (L ++ [e])
    unfold ApartK
    rw [List.pairwise_append]
    exact ⟨h, by simp, fun x hx y hy => by rw [List.mem_singleton.1 hy]; exact hn x hx⟩
  | some j =>
    obtain ⟨hj, hk⟩ := posE_some hp
    show ApartK (L.set j e)
    unfold ApartK
    rw [List.pairwise_iff_getElem]
    intro i l hi hl hil
    rw [List.length_set] at hi hl
    have hb := List.pairwise_iff_getElem.1 h i l hi hl hil
    rw [List.getElem_set, List.getElem_set]
    split
    · split
      · omega
      · rename_i h1 h2
        subst h1
        rw [← hk]; exact hb
    · split
      · rename_i h1 h2
        subst h2
        rw [← hk]; exact hb
      · exact hb
theorem lastE_apart (es : List En) : ApartK (lastE es) := by
  have go : ∀ (es L : List En), ApartK L → ApartK (es.foldl updE L) := by
    intro es
    induction es with
    | nil => intro L h; exact h
    | cons e es ih => intro L h; exact ih _ (updE_apart h e)
  exact go es [] List.Pairwise.nil
theorem last_find (es : List En) : ∀ x, x ∈ lastE es ↔ x ∈ findE es := by
  have go : ∀ (es L M : List En), ApartK L → (∀ x, x ∈ L ↔ x ∈ M) → ∀ x, x ∈ es.foldl updE L ↔ x ∈ es.foldl insE M := by
    intro es
    induction es with
    | nil => intro L M _ h; exact h
    | cons e es ih =>
      intro L M hL h
      refine ih _ _ (updE_apart hL e) fun x => ?_
      rw [mem_updE hL, mem_insE, h x]
  exact go es [] [] List.Pairwise.nil fun x => Iff.rfl
/-- Two lists that ascend and have the same entries are one. -/
theorem up_ext : ∀ {L M : List En}, UpK L → UpK M → (∀ x, x ∈ L ↔ x ∈ M) → L = M
  | [], [], _, _, _ => rfl
  | [], y :: M, _, _, h => absurd ((h y).2 (by simp)) (by simp)
  | x :: L, [], _, _, h => absurd ((h x).1 (by simp)) (by simp)
  | x :: L, y :: M, hL, hM, h => by
    obtain ⟨hL1, hL2⟩ := List.pairwise_cons.1 hL
    obtain ⟨hM1, hM2⟩ := List.pairwise_cons.1 hM
    have hxy : x = y := by
      rcases List.mem_cons.1 ((h x).1 (by simp)) with e | hx
      · exact e
      · rcases List.mem_cons.1 ((h y).2 (by simp)) with e | hy
        · exact e.symm
        · have h1 := hL1 y hy
          have h2 := hM1 x hx
          have := ltS_asym h1
          rw [h2] at this
          cases this
    subst hxy
    congr 1
    refine up_ext hL2 hM2 fun z => ?_
    have hz := h z
    simp only [List.mem_cons] at hz
    constructor
    · intro hm
      rcases hz.1 (.inr hm) with e | hm'
      · subst e; have := hL1 z hm; rw [ltS_irr] at this; cases this
      · exact hm'
    · intro hm
      rcases hz.2 (.inr hm) with e | hm'
      · subst e; have := hM1 z hm; rw [ltS_irr] at this; cases this
      · exact hm'
/-- Whatever is sorted of what came last is what is found. -/
theorem sorted_find {es D : List En} (hp : D.Perm (lastE es)) (hs : D.Pairwise fun x y => ltS y.key x.key = false) : D = findE es := by
  have hap : ApartK D := (hp.pairwise_iff (fun {x y} h e => h e.symm)).2 (lastE_apart es)
  have hup : UpK D := by
    refine List.Pairwise.imp₂ ?_ hap hs
    intro x y h1 h2
    rcases ltS_total h1 with h | h
    · exact h
    · rw [h] at h2; cases h2
  exact up_ext hup (findE_up es) fun x => (hp.mem_iff).trans (last_find es x)
theorem insE_len (L : List En) (e : En) : (insE L e).length ≤ L.length + 1 := by
  have hd : ∀ L : List En, (L.filter fun x => ltS x.key e.key).length + (L.filter fun x => ltS e.key x.key).length ≤ L.length := by
    intro L
    induction L with
    | nil => simp
    | cons x L ih =>
      simp only [List.filter_cons, List.length_cons]
      cases h1 : ltS x.key e.key
      · cases h2 : ltS e.key x.key <;> simp <;> omega
      · have h2 := ltS_asym h1
        rw [h2]
        simp
        omega
  have := hd L
  unfold insE
  rw [List.length_append, List.length_cons]
  omega
theorem findE_len (es : List En) : (findE es).length ≤ es.length := by
  have go : ∀ (es L : List En), (es.foldl insE L).length ≤ L.length + es.length := by
    intro es
    induction es with
    | nil => intro L; simp
    | cons e es ih =>
      intro L
      have h1 := ih (insE L e)
      have h2 := insE_len L e
      simp only [List.foldl_cons, List.length_cons]
      omega
  have := go es []
  unfold findE
  simpa using this
theorem updE_len (L : List En) (e : En) : (updE L e).length ≤ L.length + 1 := by
  unfold updE
  cases posE L e.key <;> simp
theorem lastE_len (es : List En) : (lastE es).length ≤ es.length := by
  have go : ∀ (es L : List En), (es.foldl updE L).length ≤ L.length + es.length := by
    intro es
    induction es with
    | nil => intro L; simp
    | cons e es ih =>
      intro L
      have h1 := ih (updE L e)
      have h2 := updE_len L e
      simp only [List.foldl_cons, List.length_cons]
      omega
  have := go es []
  unfold lastE
  simpa using this
end Go.Proofs.YtcaakommnglnbaaGreatDoor
