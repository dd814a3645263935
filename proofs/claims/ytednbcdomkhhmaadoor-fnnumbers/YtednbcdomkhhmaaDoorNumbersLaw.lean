/- The walk of the law on numbers and texts that are read back. -/
import Derived.Test.YtednbcdomkhhmaaDoorTrip
import Derived.Test.YtednbcdomkhhmaaDoorDrawWords
import Derived.Test.YtednbcdomkhhmaaDoorVarImpl
import Derived.Test.YtednbcdomkhhmaaDoorReadVar
import Derived.Test.YtednbcdomkhhmaaDoorDecimalImpl
import Derived.Test.YtednbcdomkhhmaaDoorReadDec
import Derived.Test.YtednbcdomkhhmaaDoorShortImpl
import Derived.Test.YtednbcdomkhhmaaDoorReadShortImpl
import Derived.Test.YtednbcdomkhhmaaDoorHexImpl
import Derived.Test.YtednbcdomkhhmaaDoorUnhexImpl
namespace Go.Proofs.YtednbcdomkhhmaaDoor
open Go.RowKit

theorem trip_var (m : Nat) (w : World) (hm : m ≤ 1000000000) :
    Calls Tryd.prog 7 #[.string ((⟨#[120]⟩ : ByteArray) ++ (⟨(varF 8 m).toArray⟩ : ByteArray) ++ (⟨#[121]⟩ : ByteArray)), .int .i64 1] w fun e w' => e = .returned (.tuple #[.int .i64 m, .int .i64 ((varF 8 m).length + 1), .bool true]) ∧ w = w' := by
  have hl := varF_length 8 m
  have hsz : ((⟨#[120]⟩ : ByteArray) ++ (⟨(varF 8 m).toArray⟩ : ByteArray) ++ (⟨#[121]⟩ : ByteArray)).size = (varF 8 m).length + 2 := by simp [ByteArray.size]
  have hd : ((⟨#[120]⟩ : ByteArray) ++ (⟨(varF 8 m).toArray⟩ : ByteArray) ++ (⟨#[121]⟩ : ByteArray)).data.toList = 120 :: (varF 8 m ++ [121]) := by simp
  have hr := rvF_varF (t := 120 :: (varF 8 m ++ [121])) (r := [121]) (a := 1) hm (by simp)
  have c := implReadVar_in ((⟨#[120]⟩ : ByteArray) ++ (⟨(varF 8 m).toArray⟩ : ByteArray) ++ (⟨#[121]⟩ : ByteArray)) 1 w (by omega) (by omega)
  rw [hd, hr] at c
  refine c.mono ?_
  rintro e w' ⟨rfl, rfl⟩
  refine ⟨?_, rfl⟩
  simp
  omega

theorem decOf_len {m : Nat} (hm : m ≤ 1000000000) : (decOf (m : Int)).length ≤ 10 := by
  have := rdF_decOf hm
  rw [← sdF_eq] at this
  unfold sdF at this
  split at this
  · rename_i h; exact h.1
  · cases this

theorem trip_dec (m : Nat) (w : World) (hm : m ≤ 1000000000) :
    Calls Tryd.prog 8 #[.string ⟨(decOf (m : Int)).toArray⟩] w fun e w' => e = .returned (.tuple #[.int .i64 m, .bool true]) ∧ Below w.heap.size w w' := by
  have hl := decOf_len hm
  have c := implReadDecimal_any ⟨(decOf (m : Int)).toArray⟩ w (by simp [ByteArray.size]; omega)
  rw [show (⟨(decOf (m : Int)).toArray⟩ : ByteArray).data.toList = decOf (m : Int) by simp, rdF_decOf hm] at c
  exact c

theorem trip_short (T : ByteArray) (w : World) (hT : T.size ≤ 300) :
    Calls Tryd.prog 12 #[.string (shText T), .int .i64 0] w fun e w' => e = .returned (.tuple #[.string T, .int .i64 ((shText T).size : Nat), .bool true]) ∧ Below w.heap.size w w' := by
  have hl := varF_length 8 T.size
  have hs : shText T = ⟨(varF 8 T.size).toArray⟩ ++ T := by unfold shText; rw [if_pos (by omega)]
  have hd : (shText T).data.toList = varF 8 T.size ++ T.data.toList := by rw [hs]; simp
  have hsz : (shText T).size = (varF 8 T.size).length + T.size := by rw [hs, ByteArray.size_append', ByteArray.size_mk', List.size_toArray]
  have hr : rv (shText T).data.toList 0 = some (T.size, (varF 8 T.size).length) := by
    have h1 := rv_in (s := shText T) (a := 0) (by omega)
    have h2 := rvF_varF (t := (shText T).data.toList) (r := T.data.toList) (a := 0) (n := T.size) (by omega) (by rw [hd]; simp)
    rw [show ((0 : Nat) : Int) = 0 from rfl] at h1
    rw [h1, h2]
    simp
  have hn : rvN (shText T).data.toList 0 = T.size := by simp [rvN, hr]
  have he : rvE (shText T).data.toList 0 = (varF 8 T.size).length := by simp [rvE, hr]
  have ho : rsOk (shText T) 0 = true := by simp [rsOk, rvOk, hr, hn, he]; omega
  have ht : rsText (shText T) 0 = T := by
    simp only [rsText, ho, if_true, hn, he]
    apply ByteArray.ext
    apply Array.ext'
    rw [ByteArray.data_extract]
    have : (shText T).data.toList.extract (varF 8 T.size).length ((varF 8 T.size).length + T.size) = T.data.toList := by
      rw [hd]
      simp only [List.extract, Nat.add_sub_cancel_left, List.drop_left']
      exact List.take_of_length_le (by simp)
    simpa using this
  have hE : rsE (shText T) 0 = (shText T).size := by simp only [rsE, ho, if_true, hn, he]; omega
  have c := implReadShort_any (shText T) 0 w (by omega)
  rw [ho, ht, hE] at c
  exact c

theorem trip_hex (T : ByteArray) (w : World) (hT : T.size ≤ 300) :
    Calls Tryd.prog 14 #[.string (hxText T)] w fun e w' => e = .returned (.tuple #[.string T, .bool true]) ∧ Below w.heap.size w w' := by
  have hs : hxText T = ⟨(figs T.data.toList).toArray⟩ := by unfold hxText; rw [if_pos (by omega)]
  have hd : (hxText T).data.toList = figs T.data.toList := by rw [hs]
  have hl := figs_length T.data.toList
  have hsz : (hxText T).size = 2 * T.size := by rw [hs, ByteArray.size_mk', List.size_toArray, hl]; simp
  have c := implUnhex_in (hxText T) w (by omega) (by omega)
  rw [hd, unF_figs] at c
  have e : (⟨((some T.data.toList).getD []).toArray⟩ : ByteArray) = T := by simp
  rw [e] at c
  exact c

theorem short_yes (T : ByteArray) (w : World) (hT : T.size ≤ 300) :
    Calls Tryd.prog 11 #[.string T] w fun e w' => e = .returned (.tuple #[.string (shText T), .bool true]) ∧ Below w.heap.size w w' := by
  have c := implShort_any T w (by omega)
  rw [show shOk T = true by simp [shOk]; omega] at c
  exact c
theorem hex_yes (T : ByteArray) (w : World) (hT : T.size ≤ 300) :
    Calls Tryd.prog 13 #[.string T] w fun e w' => e = .returned (.tuple #[.string (hxText T), .bool true]) ∧ Below w.heap.size w w' := by
  have c := implHex_any T w (by omega)
  rw [show hxOk T = true by simp [hxOk]; omega] at c
  exact c

theorem big_any (ca : Option Addr) (n cap : Nat) (w : World) (hn : n ≤ 9223372036854775807) :
    Calls Tryd.prog 4 #[.slice ca n cap] w fun e w' => e = .returned (.bool (decide (1048576 < n))) ∧ w = w' := by
  go_enter Tryd.func4, Tryd.ntmps4
  go_wp2
  go_ret
  exact ⟨by rw [show decide ((1048576 : Int) < (n : Int)) = decide (1048576 < n) by simp; omega]; rfl, rfl⟩

set_option maxHeartbeats 4000000 in
set_option maxRecDepth 100000 in
theorem numbers_walk (ca : Option Addr) (n cap : Nat) (w : World) (hcode : CodeAt w ca n w.heap.size) (hlen : n ≤ maxLen) (htab : Lib.TabIs Tryd.prog w "internal/strconv.uint64pow10" .u64 Lib.pow10Tab) :
    Calls Tryd.prog 3 #[.slice ca n cap] w fun e w' => e = .returned (.bool true) ∧ Below w.heap.size w w' := by
  unfold maxLen at hlen
  by_cases hn : n ≤ 1048576
  · have c1 := drawVarText_any w ca n cap hcode hn
    have C2 : Hid (∀ w', Below w.heap.size w w' → Calls Tryd.prog 10 #[.slice ca n cap] w' fun e w'' => ∃ s : ByteArray, s.size ≤ 1048576 ∧ e = .returned (.string s) ∧ Below w'.heap.size w' w'') := by
      intro w' hb
      refine drawHex_any w' ca n cap (fun j hj => ?_) hn
      obtain ⟨b, off, z, h1, h2, h3, h4⟩ := hcode j hj
      exact ⟨b, off, z, h1, Nat.lt_of_lt_of_le h2 hb.size, (hb.cell (p := ⟨b, off + j, none⟩) h2).trans h3, h4⟩
    have C3 : Hid (∀ (m : Nat) w', m ≤ 1000000000 → Below w.heap.size w w' → Calls Tryd.prog 9 #[.int .i64 m] w' fun e w'' => e = .returned (.string ⟨(decOf (m : Int)).toArray⟩) ∧ Below w'.heap.size w' w'') := fun m w' hm hb => implDecimal_any m w' (by omega) (by omega) (tab_below gPow htab hb)
    clear hcode htab
    go_enter Tryd.func3, Tryd.ntmps3
    have cb := big_any ca n cap w hlen
    rw [show decide (1048576 < n) = false by simp; omega] at cb
    go_wp2_with fail
    refine cb.mono ?_
    rintro e w' ⟨rfl, rfl⟩
    go_wp2_with fail
    refine c1.mono ?_
    rintro e w1 ⟨z, hz1, hz2, rfl, hb1⟩
    clear c1 cb
    rcases (show z < 0 ∨ (0 ≤ z ∧ 1000000000 < z) ∨ (0 ≤ z ∧ z ≤ 1000000000) by omega) with g | ⟨g, g'⟩ | ⟨g, g'⟩
    · go_wp2_with fail
      generalize hN : (12345 : Int) = N
      obtain ⟨m, rfl⟩ : ∃ m : Nat, N = m := ⟨N.toNat, by omega⟩
      have hm : m ≤ 1000000000 := by omega
      clear hN g
      have hv := varF_length 8 m
      refine (implVarText_in m _ hm).mono ?_
      rintro e w2 ⟨rfl, hb2⟩
      have hB2 : Below w.heap.size w w2 := hb1.trans (hb2.mono hb1.size)
      go_wp2_with fail
      refine (trip_var m _ hm).mono ?_
      rintro e w3 ⟨rfl, rfl⟩
      go_wp2_with fail
      refine (C3.out m _ hm hB2).mono ?_
      rintro e w4 ⟨rfl, hb4⟩
      have hB4 : Below w.heap.size w w4 := hB2.trans (hb4.mono hB2.size)
      go_wp2_with fail
      refine (trip_dec m _ hm).mono ?_
      rintro e w5 ⟨rfl, hb5⟩
      have hB5 : Below w.heap.size w w5 := hB4.trans (hb5.mono hB4.size)
      clear hb1 hb2 hB2 hb4 hB4 hb5
      go_wp2_with fail
      refine (C2.out _ hB5).mono ?_
      rintro e w6 ⟨s, hs, rfl, hb6⟩
      have hB6 : Below w.heap.size w w6 := hB5.trans (hb6.mono hB5.size)
      clear hB5 hb6
      by_cases g3 : 300 < s.size
      · go_wp2_with fail
        generalize hT : (⟨#[97, 98, 99]⟩ : ByteArray) = T
        have hT3 : T.size ≤ 300 := by rw [← hT]; decide
        clear hT g3 hs
        refine (short_yes T _ hT3).mono ?_
        rintro e w7 ⟨rfl, hb7⟩
        have hB7 : Below w.heap.size w w7 := hB6.trans (hb7.mono hB6.size)
        go_wp2_with fail
        refine (trip_short T _ hT3).mono ?_
        rintro e w8 ⟨rfl, hb8⟩
        have hB8 : Below w.heap.size w w8 := hB7.trans (hb8.mono hB7.size)
        go_wp2_with fail
        refine (hex_yes T _ hT3).mono ?_
        rintro e w9 ⟨rfl, hb9⟩
        have hB9 : Below w.heap.size w w9 := hB8.trans (hb9.mono hB8.size)
        go_wp2_with fail
        refine (trip_hex T _ hT3).mono ?_
        rintro e w10 ⟨rfl, hb10⟩
        have hB10 : Below w.heap.size w w10 := hB9.trans (hb10.mono hB9.size)
        clear hB6 hb7 hB7 hb8 hB8 hb9 hB9 hb10
        go_wp2
        go_ret
        exact ⟨rfl, hB10⟩
      · obtain ⟨T, rfl⟩ : ∃ T, T = s := ⟨s, rfl⟩
        have hT3 : T.size ≤ 300 := by omega
        go_wp2_with fail
        refine (short_yes T _ hT3).mono ?_
        rintro e w7 ⟨rfl, hb7⟩
        have hB7 : Below w.heap.size w w7 := hB6.trans (hb7.mono hB6.size)
        go_wp2_with fail
        refine (trip_short T _ hT3).mono ?_
        rintro e w8 ⟨rfl, hb8⟩
        have hB8 : Below w.heap.size w w8 := hB7.trans (hb8.mono hB7.size)
        go_wp2_with fail
        refine (hex_yes T _ hT3).mono ?_
        rintro e w9 ⟨rfl, hb9⟩
        have hB9 : Below w.heap.size w w9 := hB8.trans (hb9.mono hB8.size)
        go_wp2_with fail
        refine (trip_hex T _ hT3).mono ?_
        rintro e w10 ⟨rfl, hb10⟩
        have hB10 : Below w.heap.size w w10 := hB9.trans (hb10.mono hB9.size)
        clear hB6 hb7 hB7 hb8 hB8 hb9 hB9 hb10
        go_wp2
        go_ret
        exact ⟨rfl, hB10⟩
    · go_wp2_with fail
      generalize hN : (12345 : Int) = N
      obtain ⟨m, rfl⟩ : ∃ m : Nat, N = m := ⟨N.toNat, by omega⟩
      have hm : m ≤ 1000000000 := by omega
      clear hN g g'
      have hv := varF_length 8 m
      refine (implVarText_in m _ hm).mono ?_
      rintro e w2 ⟨rfl, hb2⟩
      have hB2 : Below w.heap.size w w2 := hb1.trans (hb2.mono hb1.size)
      go_wp2_with fail
      refine (trip_var m _ hm).mono ?_
      rintro e w3 ⟨rfl, rfl⟩
      go_wp2_with fail
      refine (C3.out m _ hm hB2).mono ?_
      rintro e w4 ⟨rfl, hb4⟩
      have hB4 : Below w.heap.size w w4 := hB2.trans (hb4.mono hB2.size)
      go_wp2_with fail
      refine (trip_dec m _ hm).mono ?_
      rintro e w5 ⟨rfl, hb5⟩
      have hB5 : Below w.heap.size w w5 := hB4.trans (hb5.mono hB4.size)
      clear hb1 hb2 hB2 hb4 hB4 hb5
      go_wp2_with fail
      refine (C2.out _ hB5).mono ?_
      rintro e w6 ⟨s, hs, rfl, hb6⟩
      have hB6 : Below w.heap.size w w6 := hB5.trans (hb6.mono hB5.size)
      clear hB5 hb6
      by_cases g3 : 300 < s.size
      · go_wp2_with fail
        generalize hT : (⟨#[97, 98, 99]⟩ : ByteArray) = T
        have hT3 : T.size ≤ 300 := by rw [← hT]; decide
        clear hT g3 hs
        refine (short_yes T _ hT3).mono ?_
        rintro e w7 ⟨rfl, hb7⟩
        have hB7 : Below w.heap.size w w7 := hB6.trans (hb7.mono hB6.size)
        go_wp2_with fail
        refine (trip_short T _ hT3).mono ?_
        rintro e w8 ⟨rfl, hb8⟩
        have hB8 : Below w.heap.size w w8 := hB7.trans (hb8.mono hB7.size)
        go_wp2_with fail
        refine (hex_yes T _ hT3).mono ?_
        rintro e w9 ⟨rfl, hb9⟩
        have hB9 : Below w.heap.size w w9 := hB8.trans (hb9.mono hB8.size)
        go_wp2_with fail
        refine (trip_hex T _ hT3).mono ?_
        rintro e w10 ⟨rfl, hb10⟩
        have hB10 : Below w.heap.size w w10 := hB9.trans (hb10.mono hB9.size)
        clear hB6 hb7 hB7 hb8 hB8 hb9 hB9 hb10
        go_wp2
        go_ret
        exact ⟨rfl, hB10⟩
      · obtain ⟨T, rfl⟩ : ∃ T, T = s := ⟨s, rfl⟩
        have hT3 : T.size ≤ 300 := by omega
        go_wp2_with fail
        refine (short_yes T _ hT3).mono ?_
        rintro e w7 ⟨rfl, hb7⟩
        have hB7 : Below w.heap.size w w7 := hB6.trans (hb7.mono hB6.size)
        go_wp2_with fail
        refine (trip_short T _ hT3).mono ?_
        rintro e w8 ⟨rfl, hb8⟩
        have hB8 : Below w.heap.size w w8 := hB7.trans (hb8.mono hB7.size)
        go_wp2_with fail
        refine (hex_yes T _ hT3).mono ?_
        rintro e w9 ⟨rfl, hb9⟩
        have hB9 : Below w.heap.size w w9 := hB8.trans (hb9.mono hB8.size)
        go_wp2_with fail
        refine (trip_hex T _ hT3).mono ?_
        rintro e w10 ⟨rfl, hb10⟩
        have hB10 : Below w.heap.size w w10 := hB9.trans (hb10.mono hB9.size)
        clear hB6 hb7 hB7 hb8 hB8 hb9 hB9 hb10
        go_wp2
        go_ret
        exact ⟨rfl, hB10⟩
    · obtain ⟨m, rfl⟩ : ∃ m : Nat, z = m := ⟨z.toNat, by omega⟩
      have hm : m ≤ 1000000000 := by omega
      clear g g'
      go_wp2_with fail
      have hv := varF_length 8 m
      refine (implVarText_in m _ hm).mono ?_
      rintro e w2 ⟨rfl, hb2⟩
      have hB2 : Below w.heap.size w w2 := hb1.trans (hb2.mono hb1.size)
      go_wp2_with fail
      refine (trip_var m _ hm).mono ?_
      rintro e w3 ⟨rfl, rfl⟩
      go_wp2_with fail
      refine (C3.out m _ hm hB2).mono ?_
      rintro e w4 ⟨rfl, hb4⟩
      have hB4 : Below w.heap.size w w4 := hB2.trans (hb4.mono hB2.size)
      go_wp2_with fail
      refine (trip_dec m _ hm).mono ?_
      rintro e w5 ⟨rfl, hb5⟩
      have hB5 : Below w.heap.size w w5 := hB4.trans (hb5.mono hB4.size)
      clear hb1 hb2 hB2 hb4 hB4 hb5
      go_wp2_with fail
      refine (C2.out _ hB5).mono ?_
      rintro e w6 ⟨s, hs, rfl, hb6⟩
      have hB6 : Below w.heap.size w w6 := hB5.trans (hb6.mono hB5.size)
      clear hB5 hb6
      by_cases g3 : 300 < s.size
      · go_wp2_with fail
        generalize hT : (⟨#[97, 98, 99]⟩ : ByteArray) = T
        have hT3 : T.size ≤ 300 := by rw [← hT]; decide
        clear hT g3 hs
        refine (short_yes T _ hT3).mono ?_
        rintro e w7 ⟨rfl, hb7⟩
        have hB7 : Below w.heap.size w w7 := hB6.trans (hb7.mono hB6.size)
        go_wp2_with fail
        refine (trip_short T _ hT3).mono ?_
        rintro e w8 ⟨rfl, hb8⟩
        have hB8 : Below w.heap.size w w8 := hB7.trans (hb8.mono hB7.size)
        go_wp2_with fail
        refine (hex_yes T _ hT3).mono ?_
        rintro e w9 ⟨rfl, hb9⟩
        have hB9 : Below w.heap.size w w9 := hB8.trans (hb9.mono hB8.size)
        go_wp2_with fail
        refine (trip_hex T _ hT3).mono ?_
        rintro e w10 ⟨rfl, hb10⟩
        have hB10 : Below w.heap.size w w10 := hB9.trans (hb10.mono hB9.size)
        clear hB6 hb7 hB7 hb8 hB8 hb9 hB9 hb10
        go_wp2
        go_ret
        exact ⟨rfl, hB10⟩
      · obtain ⟨T, rfl⟩ : ∃ T, T = s := ⟨s, rfl⟩
        have hT3 : T.size ≤ 300 := by omega
        go_wp2_with fail
        refine (short_yes T _ hT3).mono ?_
        rintro e w7 ⟨rfl, hb7⟩
        have hB7 : Below w.heap.size w w7 := hB6.trans (hb7.mono hB6.size)
        go_wp2_with fail
        refine (trip_short T _ hT3).mono ?_
        rintro e w8 ⟨rfl, hb8⟩
        have hB8 : Below w.heap.size w w8 := hB7.trans (hb8.mono hB7.size)
        go_wp2_with fail
        refine (hex_yes T _ hT3).mono ?_
        rintro e w9 ⟨rfl, hb9⟩
        have hB9 : Below w.heap.size w w9 := hB8.trans (hb9.mono hB8.size)
        go_wp2_with fail
        refine (trip_hex T _ hT3).mono ?_
        rintro e w10 ⟨rfl, hb10⟩
        have hB10 : Below w.heap.size w w10 := hB9.trans (hb10.mono hB9.size)
        clear hB6 hb7 hB7 hb8 hB8 hb9 hB9 hb10
        go_wp2
        go_ret
        exact ⟨rfl, hB10⟩
  · have cb := big_any ca n cap w hlen
    rw [show decide (1048576 < n) = true by simp; omega] at cb
    go_enter Tryd.func3, Tryd.ntmps3
    go_wp2_with fail
    refine cb.mono ?_
    rintro e w' ⟨rfl, rfl⟩
    go_wp2
    go_ret
    exact ⟨rfl, Below.refl _ _⟩
end Go.Proofs.YtednbcdomkhhmaaDoor
