/- The law on what is read of drawn bodies, walked. -/
import Derived.Test.YtnnaphfeeobelaeDoorBodyOfDraw
import Derived.Test.YtnnaphfeeobelaeDoorReadChunksDrawJ
import Derived.Test.YtnnaphfeeobelaeDoorChunkTextImpl
import Derived.Test.YtnnaphfeeobelaeDoorBodyFieldsJ
import Derived.Test.YtnnaphfeeobelaeDoorReadChSpecJ
import Derived.Test.YtnnaphfeeobelaeDoorBig
namespace Go.Proofs.YtnnaphfeeobelaeDoor
open Go.RowKit Go.Sort
theorem readS_400 (l : List UInt8) : ∀ (f : Nat) (B : List UInt8) (k : Nat), (readS l f B k).1.length ≤ 400
  | 0, _, _ => by simp [readS]
  | f + 1, B, k => by
    unfold readS
    split
    · simp
    · split
      · simp
      · split
        · simp
        · next h3 =>
          split
          · simp
          · split
            · simp
            · split
              · simp
              · split
                · rw [List.length_append]
                  have := List.length_take_le (sizeS l k).1.toNat (l.drop (sizeS l k).2.toNat)
                  omega
                · exact readS_400 l f _ _
set_option maxRecDepth 100000 in
set_option maxHeartbeats 8000000 in
theorem bodiesTold_walk (ca : Option Addr) (n cap : Nat) (w : World) (hcode : CodeAt w ca n w.heap.size) (hlen : n ≤ maxLen) (hT : ErrT w) :
    Calls Tryd.prog 4 #[.slice ca n cap] w fun e w' => e = .returned (.bool true) ∧ Below w.heap.size w w' := by
  unfold maxLen at hlen
  have cb := big_any ca n cap w hlen
  by_cases hn : n ≤ 1048576
  case neg =>
    rw [show decide (1048576 < n) = true by simp; omega] at cb
    clear hT
    go_enter Tryd.func4, Tryd.ntmps4
    go_wp2_with fail
    refine cb.mono ?_
    rintro e w' ⟨rfl, rfl⟩
    go_wp2_with fail
    go_ret
    exact ⟨rfl, Below.refl _ _⟩
  rw [show decide (1048576 < n) = false by simp; omega] at cb
  have HC : Hid (∀ wi, Below w.heap.size w wi → CodeAt wi ca n wi.heap.size) := by
    intro wi hb j hj
    obtain ⟨b, off, z, h1, h2, h3, h4⟩ := hcode j hj
    exact ⟨b, off, z, h1, Nat.lt_of_lt_of_le h2 hb.size, (hb.cell (p := ⟨b, off + j, none⟩) h2).trans h3, h4⟩
  have HE : Hid (∀ wi, Below w.heap.size w wi → ErrT wi) := fun wi hb => hT.on hb (Nat.le_refl _)
  have c1 := drawReadChunks_any w ca n cap hcode hn
  clear hcode hT
  go_enter Tryd.func4, Tryd.ntmps4
  go_wp2_with fail
  refine cb.mono ?_
  rintro e w' ⟨rfl, rfl⟩
  clear cb
  go_wp2_with fail
  refine c1.mono ?_
  rintro e w1 ⟨t, rfl, ht, htm, hb1⟩
  have HB1 : Hid (Below w.heap.size w w1) := hb1
  -- what is read of it
  obtain ⟨R, hR⟩ : ∃ R, chunksS t.data.toList = R := ⟨_, rfl⟩
  have c2 := implReadChunks_any t w1 (by omega) (HE.out w1 hb1)
  rw [htm, hR] at c2
  have C3 : Hid (∀ wi, Calls Tryd.prog 12 #[.string t] wi fun e w' => e = .returned (.tuple #[.string ⟨R.1.toArray⟩, .int .i64 R.2.1, .int .i64 R.2.2]) ∧ Below wi.heap.size wi w') := by
    intro wi
    have h := specReadChunks_any t (by omega) wi
    rw [hR] at h
    exact h
  have hA4 : (⟨R.1.toArray⟩ : ByteArray).size ≤ 400 := by
    have h := readS_400 t.data.toList (t.data.toList.length + 1) [] 0
    have e : R = readS t.data.toList (t.data.toList.length + 1) [] 0 := hR.symm
    rw [← e] at h
    rw [Lib.size_eq]
    exact h
  generalize (⟨R.1.toArray⟩ : ByteArray) = A at c2 C3 hA4
  generalize R.2.1 = x1 at c2 C3
  generalize R.2.2 = y1 at c2 C3
  clear c1 hb1 hR htm
  go_wp2_with fail
  refine c2.mono ?_
  rintro e w2 ⟨rfl, hb2⟩
  have HB2 : Hid (Below w.heap.size w w2) := HB1.out.trans (hb2.mono HB1.out.size)
  clear c2 hb2
  go_wp2_with fail
  refine (C3.out _).mono ?_
  rintro e w3 ⟨rfl, hb3⟩
  have HB3 : Hid (Below w.heap.size w w3) := HB2.out.trans (hb3.mono HB2.out.size)
  have c4 := drawChunkText_any w3 ca n cap (HC.out w3 HB3.out) hn
  clear C3 hb3
  go_wp2_with fail
  refine c4.mono ?_
  rintro e w4 ⟨a4, k4, P, rfl, hP1, hP2, hA, hb4⟩
  have HB4 : Hid (Below w.heap.size w w4) := HB3.out.trans (hb4.mono HB3.out.size)
  have hPm : ∀ p ∈ P, p.size ≤ 1048576 := fun p hp => by have := hP2 p hp; omega
  obtain ⟨S, hS⟩ : ∃ S, (chunkS P).1 = S := ⟨_, rfl⟩
  obtain ⟨Q, hQ⟩ : ∃ Q, (chunkS P).2 = Q := ⟨_, rfl⟩
  have c5 := implChunkText_any w4 a4 k4 P hA (by omega) hPm
  have C6 : Hid (∀ wi, Below w4.heap.size w4 wi → Calls Tryd.prog 14 #[.slice a4 P.length k4] wi fun e w' => e = .returned (.tuple #[.string S, .bool Q]) ∧ Below wi.heap.size wi w') := by
    intro wi hi
    rw [← hS, ← hQ]
    exact specChunkText_any wi a4 k4 P (hA.on hi) (by omega) hPm
  rw [hS, hQ] at c5
  clear c4 hb4 hA hP1 hP2 hPm hS hQ
  go_wp2_with fail
  refine c5.mono ?_
  rintro e w5 ⟨rfl, hb5⟩
  have HB5 : Hid (Below w.heap.size w w5) := HB4.out.trans (hb5.mono HB4.out.size)
  have c6 := C6.out w5 hb5
  clear c5 C6 hb5
  go_wp2_with fail
  refine c6.mono ?_
  rintro e w6 ⟨rfl, hb6⟩
  have HB6 : Hid (Below w.heap.size w w6) := HB5.out.trans (hb6.mono HB5.out.size)
  have c7 := drawBodyOf_any w6 ca n cap (HC.out w6 HB6.out) hn
  clear c6 hb6
  go_wp2_with fail
  refine c7.mono ?_
  rintro e w7 ⟨line, a7, k7, L, u, rfl, hsz, hu, hum, hD, hb7⟩
  have HB7 : Hid (Below w.heap.size w w7) := HB6.out.trans (hb7.mono HB6.out.size)
  obtain ⟨w8, hw8⟩ : ∃ x, w7.alloc (.cells #[.string line, .slice a7 L.length k7] 35) = x := ⟨_, rfl⟩
  have hb8 : Below w7.heap.size w7 w8 := by rw [← hw8]; exact (Below.refl _ _).alloc (Nat.le_refl _) _
  have hX8 : HBx w8 w7.heap.size 35 (.string line) (.slice a7 L.length k7) := by rw [← hw8]; exact HBx.new _ _ _ _
  have HB8 : Hid (Below w.heap.size w w8) := HB7.out.trans (hb8.mono HB7.out.size)
  have hD8 := hD.on hb8
  obtain ⟨V, hV⟩ : ∃ V, bodyS L u.data.toList = V := ⟨_, rfl⟩
  have c8 := implBodyOf_any w8 a7 k7 line L u hD8 hsz (by omega) (HE.out w8 HB8.out)
  rw [body_same hum, hV] at c8
  have C9 : Hid (∀ wi, Below w8.heap.size w8 wi → Calls Tryd.prog 17 #[.agg #[.string line, .slice a7 L.length k7], .string u] wi fun e w' => e = .returned (.tuple #[.string ⟨V.1.toArray⟩, .int .i64 V.2.1, .int .i64 V.2.2]) ∧ Below wi.heap.size wi w') := by
    intro wi hi
    have h := specBodyOf_any wi a7 k7 line L u (hD8.on hi) hsz (by omega)
    rw [hV] at h
    exact h
  have HX : Hid (∀ wi, Below w8.heap.size w8 wi → wi.cell? ⟨w7.heap.size, 0, none⟩ = some (.string line) ∧ wi.cell? ⟨w7.heap.size, 1, none⟩ = some (.slice a7 L.length k7)) := fun wi hi => (hX8.on hi).cells
  obtain ⟨b0, b1⟩ := hX8.cells
  rw [← hw8] at b0 b1
  have HW8 : Hid (w7.alloc (.cells #[.string line, .slice a7 L.length k7] 35) = w8) := hw8
  generalize (⟨V.1.toArray⟩ : ByteArray) = VA at c8 C9
  generalize V.2.1 = x2 at c8 C9
  generalize V.2.2 = y2 at c8 C9
  clear c7 hb7 hsz hu hum hD hb8 hX8 hD8 hV hw8 HC HE
  go_wp2_with fail
  rw [HW8.out] at b0 b1 ⊢
  refine c8.mono ?_
  rintro e w9 ⟨rfl, hb9⟩
  have HB9 : Hid (Below w.heap.size w w9) := HB8.out.trans (hb9.mono HB8.out.size)
  clear b0 b1
  obtain ⟨b0, b1⟩ := HX.out w9 hb9
  have c9 := C9.out w9 hb9
  clear c8 C9 HX hb9
  go_wp2_with fail
  refine c9.mono ?_
  rintro e w10 ⟨rfl, hb10⟩
  have HB10 : Hid (Below w.heap.size w w10) := HB9.out.trans (hb10.mono HB9.out.size)
  have h1 : (A.toList == A.toList) = true := by simp
  have h2 : (S.toList == S.toList) = true := by simp
  have h3 : (VA.toList == VA.toList) = true := by simp
  have h4 : (Q == Q) = true := by simp
  have h5 : (x1 == x1) = true := by simp
  have h6 : (y1 == y1) = true := by simp
  have h7 : (x2 == x2) = true := by simp
  have h8 : (y2 == y2) = true := by simp
  have h9 : (A.size : Int) ≤ 400 := by omega
  clear c9 b0 b1 hb10
  go_wp2_with fail
  go_ret
  exact ⟨rfl, HB10.out⟩
end Go.Proofs.YtnnaphfeeobelaeDoor
