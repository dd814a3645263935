/- Texts that stand in one: ChunkLen, ChunkPart. -/
import Derived.Test.YtnnaphfeeobelaeGreatDoorChunkRestJ
namespace Go.Proofs.YtnnaphfeeobelaeGreatDoor
open Go.RowKit Go.Sort
theorem figsAt_drop (l : List UInt8) (k : Nat) : figsAt (l.drop k) 0 = figsAt l k := by
  unfold figsAt
  rw [dropC_at, dropC_at, Nat.add_zero, Nat.zero_add]
set_option maxHeartbeats 4000000 in
theorem length_any (w0 : World) (T : Nat) (t : ByteArray) (k : Nat) (v : Value) (B : List UInt8) (w : World) (H : Rc w0 T t k v B w) (hk : k ≤ t.size) (ht : t.size ≤ 1048576) (hB : B.length ≤ 400) (l : List UInt8) (hl : t.data.toList = l) :
    Calls Tryz.prog 94 #[.pointer (some ⟨T, 0, none⟩)] w fun e w' =>
      (l.length ≤ k ∧ e = .returned (.tuple #[.int .i64 0, flt 1]) ∧ ∃ k', Rc w0 T t k' v B w')
      ∨ (k < l.length ∧ ((figsAt l k).1 = 0 ∨ 400 < B.length + (figsAt l k).2) ∧ e = .returned (.tuple #[.int .i64 0, flt 2]) ∧ ∃ k', Rc w0 T t k' v B w')
      ∨ (k < l.length ∧ ¬ ((figsAt l k).1 = 0 ∨ 400 < B.length + (figsAt l k).2) ∧ endS l (k + (figsAt l k).1) < 0 ∧ (∃ n, e = .returned (.tuple #[.int .i64 n, flt 2])) ∧ ∃ k', Rc w0 T t k' v B w')
      ∨ (k < l.length ∧ ¬ ((figsAt l k).1 = 0 ∨ 400 < B.length + (figsAt l k).2) ∧ endS l (k + (figsAt l k).1) = 0 ∧ (∃ n, e = .returned (.tuple #[.int .i64 n, flt 1])) ∧ ∃ k', Rc w0 T t k' v B w')
      ∨ (k < l.length ∧ ¬ ((figsAt l k).1 = 0 ∨ 400 < B.length + (figsAt l k).2) ∧ 0 < endS l (k + (figsAt l k).1) ∧ e = .returned (.tuple #[.int .i64 ((figsAt l k).2 : Nat), .nilIface]) ∧ Rc w0 T t (k + (figsAt l k).1 + 2) v B w') := by
  have hsz : t.size = l.length := by rw [← hl]; exact Lib.size_eq t
  have c1 := rest_any w T t k v H.box hk
  have hx : (t.extract k t.size).data.toList = l.drop k := by
    rw [Lib.extract_data, hl, List.take_of_length_le]
    rw [List.length_drop]
    omega
  obtain ⟨s, hs⟩ : ∃ s, t.extract k t.size = s := ⟨_, rfl⟩
  rw [hs] at c1 hx
  have em := emptyT s
  have hss : s.size = l.length - k := by rw [Lib.size_eq, hx, List.length_drop]
  have C2 : Hid (∀ wi, Calls Tryz.prog 113 #[.string s] wi fun e w' => e = .returned (.tuple #[.int .i64 ((figsAt l k).2 : Nat), .int .i64 ((figsAt l k).1 : Nat)]) ∧ w' = wi) := by
    intro wi
    have h := figsAhead_any s wi
    rw [hx, figsAt_drop] at h
    exact h
  have HH : Hid (Rc w0 T t k v B w) := H
  have hin := figsAt_in l k (by omega)
  have hle := figsAt_le l k
  have HL : Hid (t.data.toList = l) := hl
  obtain ⟨a, c, rfl⟩ := H.own.shape
  clear H hs hx hl
  by_cases h0 : l.length ≤ k
  · rw [decide_eq_true (by omega)] at em
    have HE : Hid (l.length ≤ k) := h0
    clear hss h0 C2 hin hle hsz
    go_enter Tryz.func94, Tryz.ntmps94
    go_wp2_with fail
    refine c1.mono ?_
    rintro e w1 ⟨rfl, hb1⟩
    have H1 := HH.out.next hb1
    clear c1 HH hb1
    go_wp2_with fail
    go_ret2
    exact .inl ⟨HE.out, rfl, _, H1⟩
  rw [decide_eq_false (by omega)] at em
  have H0 : Hid (k < l.length) := by show _ < _; omega
  obtain ⟨q, hq⟩ : ∃ q, (figsAt l k).1 = q := ⟨_, rfl⟩
  obtain ⟨n, hn⟩ : ∃ n, (figsAt l k).2 = n := ⟨_, rfl⟩
  rw [hq, hn] at C2 hle ⊢
  rw [hq] at hin
  clear hss h0 hq hn
  by_cases h1 : q = 0
  · have q0 : ((q : Int) == 0) = true := by simp [h1]
    have HQ0 : Hid (q = 0) := h1
    clear hin hsz hk h1
    go_enter Tryz.func94, Tryz.ntmps94
    go_wp2_with fail
    refine c1.mono ?_
    rintro e w1 ⟨rfl, hb1⟩
    have H1 := HH.out.next hb1
    clear c1 HH hb1
    go_wp2_with fail
    refine (C2.out _).mono ?_
    rintro e w2 ⟨rfl, hw⟩
    rw [hw]
    clear C2
    go_wp2_with fail
    go_ret2
    exact .inr (.inl ⟨H0.out, .inl HQ0.out, rfl, _, H1⟩)
  have q0 : ((q : Int) == 0) = false := by rw [beq_eq_false_iff_ne]; omega
  by_cases h2 : 400 < B.length + n
  · have h2i : (400 : Int) < (B.length : Int) + (n : Int) := by omega
    have H2 : Hid (400 < B.length + n) := h2
    clear hin hsz hk h1 h2
    go_enter Tryz.func94, Tryz.ntmps94
    go_wp2_with fail
    refine c1.mono ?_
    rintro e w1 ⟨rfl, hb1⟩
    have H1 := HH.out.next hb1
    obtain ⟨x0, x1, x2⟩ := H1.box.cells
    clear c1 HH hb1
    go_wp2_with fail
    refine (C2.out _).mono ?_
    rintro e w2 ⟨rfl, hw⟩
    rw [hw]
    clear C2
    go_wp2_with fail
    go_ret2
    exact .inr (.inl ⟨H0.out, .inr H2.out, rfl, _, H1⟩)
  have h2i : ¬ (400 : Int) < (B.length : Int) + (n : Int) := by omega
  have HQ : Hid (¬ (q = 0 ∨ 400 < B.length + n)) := by show ¬ _; omega
  have HK : Hid (k + q ≤ t.size) := by show _ ≤ _; omega
  have CP : Hid (∀ wi, Rc w0 T t (k + q) (.slice a B.length c) B wi → Calls Tryz.prog 114 #[.pointer (some ⟨T, 0, none⟩)] wi fun e w' =>
      (endS l (k + q) < 0 ∧ e = .returned (flt 2) ∧ Rc w0 T t (k + q) (.slice a B.length c) B w') ∨ (endS l (k + q) = 0 ∧ e = .returned (flt 1) ∧ Rc w0 T t (k + q) (.slice a B.length c) B w') ∨ (0 < endS l (k + q) ∧ e = .returned .nilIface ∧ Rc w0 T t (k + q + 2) (.slice a B.length c) B w')) := by
    intro wi hwi
    have h := passEnd_any w0 T t (k + q) _ B wi hwi HK.out ht
    rw [HL.out] at h
    exact h
  have hki : (k : Int) + (q : Int) ≤ 1048576 := by omega
  clear hin hsz hk h1 h2
  go_enter Tryz.func94, Tryz.ntmps94
  go_wp2_with fail
  refine c1.mono ?_
  rintro e w1 ⟨rfl, hb1⟩
  have H1 := HH.out.next hb1
  obtain ⟨x0, x1, x2⟩ := H1.box.cells
  have z1 := H1.box.thaw 1
  have H2 : Rc w0 T t (k + q) (.slice a B.length c) B (w1.setCell ⟨T, 1, none⟩ (.int .i64 ((k : Int) + (q : Int)))) := H1.setAt (k + q)
  have cP := CP.out _ H2
  clear c1 HH hb1 CP H1 H2
  go_wp2_with fail
  refine (C2.out _).mono ?_
  rintro e w2 ⟨rfl, hw⟩
  rw [hw]
  clear C2
  go_wp2_with fail
  refine cP.mono ?_
  rintro e w3 (⟨he, rfl, hr⟩ | ⟨he, rfl, hr⟩ | ⟨he, rfl, hr⟩)
  · have HE : Hid _ := he
    clear cP he x0 x1 x2 z1
    unfold flt at *
    go_wp2_with fail
    go_ret2
    exact .inr (.inr (.inl ⟨H0.out, HQ.out, HE.out, ⟨_, rfl⟩, _, hr⟩))
  · have HE : Hid _ := he
    clear cP he x0 x1 x2 z1
    unfold flt at *
    go_wp2_with fail
    go_ret2
    exact .inr (.inr (.inr (.inl ⟨H0.out, HQ.out, HE.out, ⟨_, rfl⟩, _, hr⟩)))
  · have HE : Hid _ := he
    clear cP he x0 x1 x2 z1
    go_wp2_with fail
    go_ret2
    exact .inr (.inr (.inr (.inr ⟨H0.out, HQ.out, HE.out, rfl, hr⟩)))
end Go.Proofs.YtnnaphfeeobelaeGreatDoor

namespace Go.Proofs.YtnnaphfeeobelaeGreatDoor
open Go.RowKit Go.Sort
set_option maxHeartbeats 4000000 in
theorem part_any (w0 : World) (T : Nat) (t : ByteArray) (k n : Nat) (v : Value) (B : List UInt8) (w : World) (H : Rc w0 T t k v B w) (hk : k ≤ t.size) (ht : t.size ≤ 1048576) (hB : B.length ≤ 400) (hn : n ≤ 255) (l : List UInt8) (hl : t.data.toList = l) :
    Calls Tryz.prog 95 #[.pointer (some ⟨T, 0, none⟩), .int .i64 (n : Int)] w fun e w' =>
      (l.length < k + n ∧ e = .returned (flt 1) ∧ ∃ k' v' B', Rc w0 T t k' v' B' w')
      ∨ (¬ l.length < k + n ∧ endS l (k + n) < 0 ∧ e = .returned (flt 2) ∧ ∃ k' v' B', Rc w0 T t k' v' B' w')
      ∨ (¬ l.length < k + n ∧ endS l (k + n) = 0 ∧ e = .returned (flt 1) ∧ ∃ k' v' B', Rc w0 T t k' v' B' w')
      ∨ (¬ l.length < k + n ∧ 0 < endS l (k + n) ∧ e = .returned .nilIface ∧ ∃ v', Rc w0 T t (k + n + 2) v' (B ++ (l.drop k).take n) w') := by
  have hsz : t.size = l.length := by rw [← hl]; exact Lib.size_eq t
  have c1 := rest_any w T t k v H.box hk
  have hx : (t.extract k t.size).data.toList = l.drop k := by
    rw [Lib.extract_data, hl, List.take_of_length_le]
    rw [List.length_drop]
    omega
  obtain ⟨s, hs⟩ : ∃ s, t.extract k t.size = s := ⟨_, rfl⟩
  rw [hs] at c1 hx
  have hss : s.size = l.length - k := by rw [Lib.size_eq, hx, List.length_drop]
  have HH : Hid (Rc w0 T t k v B w) := H
  have HL : Hid (t.data.toList = l) := hl
  obtain ⟨a, c, rfl⟩ := H.own.shape
  clear H hs hl
  by_cases h0 : l.length < k + n
  · have h0i : (s.size : Int) < (n : Int) := by omega
    have HE : Hid (l.length < k + n) := h0
    clear hss h0 hsz hx
    go_enter Tryz.func95, Tryz.ntmps95
    go_wp2_with fail
    refine c1.mono ?_
    rintro e w1 ⟨rfl, hb1⟩
    have H1 := HH.out.next hb1
    clear c1 HH hb1
    go_wp2_with fail
    go_ret
    exact .inl ⟨HE.out, rfl, _, _, _, H1⟩
  have h0i : ¬ (s.size : Int) < (n : Int) := by omega
  have H0 : Hid (¬ l.length < k + n) := h0
  have hsl := fun w => run_slice_string_h (P := Tryz.prog) w 9 s Tryz.underlying9 .i64 (n : Int) (by omega) (by omega)
  rw [Int.toNat_natCast] at hsl
  have hex : (s.extract 0 n).data.toList = (l.drop k).take n := by rw [Lib.extract_data, hx, List.drop_zero, Nat.sub_zero]
  have hez : (s.extract 0 n).size ≤ 255 := by rw [ByteArray.size_extract]; omega
  obtain ⟨u, hu⟩ : ∃ u, s.extract 0 n = u := ⟨_, rfl⟩
  rw [hu] at hsl hex hez
  obtain ⟨M, hM⟩ : ∃ M, (l.drop k).take n = M := ⟨_, rfl⟩
  rw [hM] at hex ⊢
  have HK : Hid (k + n ≤ t.size) := by show _ ≤ _; omega
  have CP : Hid (∀ wi v' B', Rc w0 T t (k + n) v' B' wi → Calls Tryz.prog 114 #[.pointer (some ⟨T, 0, none⟩)] wi fun e w' =>
      (endS l (k + n) < 0 ∧ e = .returned (flt 2) ∧ Rc w0 T t (k + n) v' B' w') ∨ (endS l (k + n) = 0 ∧ e = .returned (flt 1) ∧ Rc w0 T t (k + n) v' B' w') ∨ (0 < endS l (k + n) ∧ e = .returned .nilIface ∧ Rc w0 T t (k + n + 2) v' B' w')) := by
    intro wi v' B' hwi
    have h := passEnd_any w0 T t (k + n) _ B' wi hwi HK.out ht
    rw [HL.out] at h
    exact h
  have hki : (k : Int) + (n : Int) ≤ 1048576 := by omega
  have HX : Hid (u.data.toList = M) := hex
  clear hss hsz hx hu hM h0 hex
  go_enter Tryz.func95, Tryz.ntmps95
  go_wp2_with fail
  refine c1.mono ?_
  rintro e w1 ⟨rfl, hb1⟩
  have H1 := HH.out.next hb1
  obtain ⟨x0, x1, x2⟩ := H1.box.cells
  have hs1 := H1.bel.size
  have HX2 : Hid (∀ i, Below w1.heap.size w1 (w1.drewN i)) := fun i => ⟨rfl, rfl, rfl, Nat.le_refl _, fun _ _ => rfl⟩
  clear c1 HH hb1
  go_wp2_with fail
  go_region_law (refine step_text (by rfl) _ _ 22 9 (by rfl) w0.heap.size 5 Tryz.underlying22 Tryz.underlying9 (by kernel_rfl) _ B (by rfl) (by exact H1.own) u (by rfl) (by omega) (by first | exact hs1 | (simp; omega)) ?_; intro a2 c2 w2 hown2 hgr2; have hk2 := H1.gather (hW := HX2.out _) hgr2 hown2; obtain ⟨q0, q1, q2⟩ := hk2.1.cells; have z2 := hk2.1.thaw 2)
  all_goals (
    have HR := hk2.2
    rw [HX.out] at HR
    clear hk2 hown2 hgr2 q0 q1 q2 z2 x0 x1 x2 H1 hsl
    generalize w2.setCell ⟨T, 2, none⟩ (.slice a2 (B.length + u.size) c2) = w3 at HR ⊢
    obtain ⟨x0, x1, x2⟩ := HR.box.cells
    have z1 := HR.box.thaw 1
    have H2 : Rc w0 T t (k + n) (.slice a2 (B.length + u.size) c2) (B ++ M) (w3.setCell ⟨T, 1, none⟩ (.int .i64 ((k : Int) + (n : Int)))) := HR.setAt (k + n)
    have cP := CP.out _ _ _ H2
    clear CP HR H2
    go_wp2_with fail
    refine cP.mono ?_
    rintro e w4 (⟨he, rfl, hr⟩ | ⟨he, rfl, hr⟩ | ⟨he, rfl, hr⟩)
    · have HE : Hid _ := he
      clear cP he x0 x1 x2 z1
      unfold flt at *
      go_wp2_with fail
      go_ret
      exact .inr (.inl ⟨H0.out, HE.out, rfl, _, _, _, hr⟩)
    · have HE : Hid _ := he
      clear cP he x0 x1 x2 z1
      unfold flt at *
      go_wp2_with fail
      go_ret
      exact .inr (.inr (.inl ⟨H0.out, HE.out, rfl, _, _, _, hr⟩))
    · have HE : Hid _ := he
      clear cP he x0 x1 x2 z1
      go_wp2_with fail
      go_ret
      exact .inr (.inr (.inr ⟨H0.out, HE.out, rfl, _, hr⟩)))
end Go.Proofs.YtnnaphfeeobelaeGreatDoor
