/- The law on heads that tell two lengths, walked. -/
import Derived.Test.YtnnaphfeeobelaeDoorSmugPlain
import Derived.Test.YtnnaphfeeobelaeDoorRowLaw
import Derived.Test.YtnnaphfeeobelaeDoorFieldRows
import Derived.Test.YtnnaphfeeobelaeDoorDecimal
import Derived.Test.YtnnaphfeeobelaeDoorDrawTurn
import Derived.Test.YtnnaphfeeobelaeDoorBig
import Derived.Test.YtnnaphfeeobelaeDoorBodyImpl
import Derived.BigQuiet
import Derived.Lib.QuietBelow
namespace Go.Proofs.YtnnaphfeeobelaeDoor
open Go.RowKit Go.Sort
theorem lit2D (w : World) (f g : ByteArray × ByteArray) : DAt (w.alloc (.cells #[.string f.1, .string f.2, .string g.1, .string g.2] 41)) (some ⟨w.heap.size, 0, none⟩) [f, g] (w.alloc (.cells #[.string f.1, .string f.2, .string g.1, .string g.2] 41)).heap.size := by
  have h : OwnD (w.alloc (.cells #[.string f.1, .string f.2, .string g.1, .string g.2] 41)) w.heap.size 41 (.slice (some ⟨w.heap.size, 0, none⟩) 2 2) [f, g] :=
    World.ownsRow_lit (base := w.heap.size) (e := 41) (size := 2) w #[.string f.1, .string f.2, .string g.1, .string g.2] 2 (Nat.le_refl _) (by simp [maxLen]) (by rfl)
  obtain ⟨a9, c9, e9, hD⟩ := h.at
  injection e9 with e1 _ _
  rw [← e1] at hD
  exact hD
theorem sz2 {line : ByteArray} {f g : ByteArray × ByteArray} (h0 : line.size ≤ 100) (h1 : f.1.size + f.2.size ≤ 100) (h2 : g.1.size + g.2.size ≤ 100) : HdSz line [f, g] := by
  unfold HdSz wgtT
  simp
  omega
def zzB : ByteArray := ⟨(List.replicate 99 122).toArray⟩
theorem zzB_len : zzB.data.toList.length = 99 := List.length_replicate
theorem row99_any (w : World) : Calls Tryd.prog 19 #[.int .i64 99, .string ⟨#[122]⟩] w fun e w' => e = .returned (.string zzB) ∧ Below w.heap.size w w' :=
  (row_any w 99 122 (by omega)).mono fun e w' h => ⟨h.1, by rw [h.2]; exact Below.refl _ _⟩
set_option maxRecDepth 100000 in
set_option maxHeartbeats 1600000 in
theorem smuggled_walk (ca : Option Addr) (n cap : Nat) (w : World) (hcode : CodeAt w ca n w.heap.size) (hlen : n ≤ maxLen) (hT : ErrT w) :
    Calls Tryd.prog 5 #[.slice ca n cap] w fun e w' => e = .returned (.bool true) ∧ Below w.heap.size w w' := by
  unfold maxLen at hlen
  have cb := big_any ca n cap w hlen
  by_cases hn : n ≤ 1048576
  case neg =>
    rw [show decide (1048576 < n) = true by simp; omega] at cb
    clear hT
    go_enter Tryd.func5, Tryd.ntmps5
    go_wp2_with fail
    refine cb.mono ?_
    rintro e w' ⟨rfl, rfl⟩
    go_wp2_with fail
    go_ret
    exact ⟨rfl, Below.refl _ _⟩
  rw [show decide (1048576 < n) = false by simp; omega] at cb
  have HBO : Hid (∀ (wi : World) (a : Option Addr) (c : Nat) (line : ByteArray) (L : List (ByteArray × ByteArray)) (t : ByteArray), Below w.heap.size w wi → DAt wi a L wi.heap.size → HdSz line L → t.size ≤ 145 → Calls Tryd.prog 16 #[.agg #[.string line, .slice a L.length c], .string t] wi fun e w' => e = .returned (.tuple #[.string ⟨(bodyS L t.data.toList).1.toArray⟩, .int .i64 (bodyS L t.data.toList).2.1, .int .i64 (bodyS L t.data.toList).2.2]) ∧ Below wi.heap.size wi w') := by
    intro wi a c line L t hb h1 h2 h3
    have h := implBodyOf_any wi a c line L t h1 h2 (by omega) (hT.on hb (Nat.le_refl _))
    rw [body_same (chunks_short (by rw [← Lib.size_eq]; exact h3))] at h
    exact h
  have c1 := drawPlaces_any w ca n cap hcode hn
  clear hcode hT
  go_enter Tryd.func5, Tryd.ntmps5
  go_wp2_with fail
  refine cb.mono ?_
  rintro e w' ⟨rfl, rfl⟩
  clear cb
  go_wp2_with fail
  refine c1.mono ?_
  rintro e w1 ⟨v7, l, rfl, hl, hlz, hown, hb1⟩
  clear c1
  obtain ⟨pa, pc, rfl, hcells⟩ := hown.shape
  obtain ⟨g, rfl, hz0, _, _, hg⟩ := hcells 0 (by rw [ints_length]; omega)
  obtain ⟨g', hgg, hz1, _, _, _⟩ := hcells 1 (by rw [ints_length]; omega)
  simp only [Option.some.injEq, Addr.mk.injEq, and_true] at hgg
  subst hgg
  rw [ints_at (by omega)] at hz0 hz1
  obtain ⟨q0, hq0⟩ : ∃ x, l[0] = x := ⟨_, rfl⟩
  obtain ⟨q1, hq1⟩ : ∃ x, l[1] = x := ⟨_, rfl⟩
  rw [hq0] at hz0
  rw [hq1] at hz1
  have hr0 := hlz q0 (by rw [← hq0]; exact List.getElem_mem _)
  have hr1 := hlz q1 (by rw [← hq1]; exact List.getElem_mem _)
  have hln : (ints l).length = 12 := by rw [ints_length]; exact hl
  rw [hln]
  obtain ⟨a, ha⟩ : ∃ d : Nat, (d : Int) = q0 % 90 := ⟨(q0 % 90).toNat, by omega⟩
  obtain ⟨b, hb⟩ : ∃ d : Nat, (d : Int) = q1 % 90 := ⟨(q1 % 90).toNat, by omega⟩
  have ha9 : a < 90 := by omega
  have hb9 : b < 90 := by omega
  have m0 : q0.tmod 90 = (a : Int) := by rw [Int.tmod_eq_emod_of_nonneg hr0.1]; exact ha.symm
  have m1 : q1.tmod 90 = (b : Int) := by rw [Int.tmod_eq_emod_of_nonneg hr1.1]; exact hb.symm
  obtain ⟨DA, hDA⟩ : ∃ D, decB a = D := ⟨_, rfl⟩
  obtain ⟨DB, hDB⟩ : ∃ D, decB b = D := ⟨_, rfl⟩
  have CA : Hid (∀ wi, Calls Tryd.prog 18 #[.int .i64 (a : Int)] wi fun e w' => e = .returned (.string DA) ∧ Below wi.heap.size wi w') := by intro wi; rw [← hDA]; exact specDecimal_any (a : Int) wi (by omega) (by omega)
  have CB : Hid (∀ wi, Calls Tryd.prog 18 #[.int .i64 (b : Int)] wi fun e w' => e = .returned (.string DB) ∧ Below wi.heap.size wi w') := by intro wi; rw [← hDB]; exact specDecimal_any (b : Int) wi (by omega) (by omega)
  have hAz : DA.size ≤ 3 := by rw [← hDA]; exact decB_size a (by omega)
  have hBz : DB.size ≤ 3 := by rw [← hDB]; exact decB_size b (by omega)
  have HS2 : Hid (∀ t : List UInt8, 90 ≤ t.length → (bodyS [(clN, DA), (clN, DB)] t).2.2 = if a = b then 0 else 2) := by intro t ht; rw [← hDA, ← hDB]; exact smug_two a b (by omega) (by omega) t ht
  have HSB : Hid (∀ t : List UInt8, (bodyS [(clN, DA), (teN, chN)] t).2.2 = 2) := by intro t; rw [← hDA]; exact smug_both a (by omega) t
  have HB1 : Hid (Below w.heap.size w w1) := hb1
  clear hown hcells hlz hl hln hq0 hq1 hb1 hg ha hb hDA hDB hr0 hr1
  go_wp2_with fail
  refine (CA.out _).mono ?_
  rintro e w2 ⟨rfl, hb2⟩
  clear hz0 hz1 m0 m1
  go_wp2_with fail
  refine (CB.out _).mono ?_
  rintro e w3 ⟨rfl, hb3⟩
  have HB3 : Hid (Below w.heap.size w w3) := by
    have h13 : Below w1.heap.size w1 w3 := hb2.trans (hb3.mono hb2.size)
    exact HB1.out.trans (h13.mono HB1.out.size)
  clear hb2 hb3 CB HB1
  go_wp2_with fail
  obtain ⟨w4, hw4⟩ : ∃ x, w3.alloc (.cells #[.string ⟨#[99, 111, 110, 116, 101, 110, 116, 45, 108, 101, 110, 103, 116, 104]⟩, .string DA, .string ⟨#[99, 111, 110, 116, 101, 110, 116, 45, 108, 101, 110, 103, 116, 104]⟩, .string DB] 41) = x := ⟨_, rfl⟩
  obtain ⟨F, hF⟩ : ∃ x, w3.heap.size = x := ⟨_, rfl⟩
  obtain ⟨T, hT⟩ : ∃ x, F + 1 = x := ⟨_, rfl⟩
  obtain ⟨w5, hw5⟩ : ∃ x, w4.alloc (.cells #[.string ⟨#[120]⟩, .slice (some ⟨F, 0, none⟩) 2 2] 35) = x := ⟨_, rfl⟩
  rw [hw4, hF, hT, hw5]
  have hT4 : w4.heap.size = T := by rw [← hT, ← hF, ← hw4]; simp
  have hD4 : DAt w4 (some ⟨F, 0, none⟩) [(clN, DA), (clN, DB)] w4.heap.size := by rw [← hw4, ← hF]; exact lit2D w3 (clN, DA) (clN, DB)
  have b4 : Below w3.heap.size w3 w4 := by rw [← hw4]; exact (Below.refl _ _).alloc (Nat.le_refl _) _
  have b5 : Below w4.heap.size w4 w5 := by rw [← hw5]; exact (Below.refl _ _).alloc (Nat.le_refl _) _
  have hX : w5.heap[T]? = some (.cells #[.string ⟨#[120]⟩, .slice (some ⟨F, 0, none⟩) 2 2] 35 (0, 0)) := by rw [← hw5, ← hT4]; exact heap_alloc_new w4 _
  have x0 : w5.cell? ⟨T, 0, none⟩ = some (.string ⟨#[120]⟩) := by simp [World.cell?, hX]
  have x1 : w5.cell? ⟨T, 1, none⟩ = some (.slice (some ⟨F, 0, none⟩) 2 2) := by simp [World.cell?, hX]
  have HB5 : Hid (Below w.heap.size w w5) := by
    have h35 : Below w3.heap.size w3 w5 := b4.trans (b5.mono b4.size)
    exact HB3.out.trans (h35.mono HB3.out.size)
  obtain ⟨Z, hZ⟩ : ∃ Z : ByteArray, zzB = Z := ⟨_, rfl⟩
  have hZl : Z.data.toList.length = 99 := by rw [← hZ]; exact zzB_len
  have hZz : Z.size ≤ 145 := by rw [Lib.size_eq, hZl]; omega
  have cR : ∀ d os, Calls Tryd.prog 19 #[.int .i64 99, .string ⟨#[122]⟩] (grow (redrawn w5 d) os) fun e w'' => e = .returned (.string Z) ∧ ∃ p : Regrown, w'' = grow (redrawn w5 p.d) p.os := fun d os => Calls.regrown_of (by rw [← hZ]; exact row99_any _)
  have HD5 : Hid (∀ wi, Below w5.heap.size w5 wi → DAt wi (some ⟨F, 0, none⟩) [(clN, DA), (clN, DB)] wi.heap.size) := fun wi hi => (hD4.on b5).on hi
  obtain ⟨B2, hB2⟩ : ∃ B : ByteArray, (⟨(bodyS [(clN, DA), (clN, DB)] Z.data.toList).1.toArray⟩ : ByteArray) = B := ⟨_, rfl⟩
  obtain ⟨y2, hy2⟩ : ∃ y, (bodyS [(clN, DA), (clN, DB)] Z.data.toList).2.1 = y := ⟨_, rfl⟩
  have hc2 := HS2.out Z.data.toList (by omega)
  obtain ⟨t2, ht2⟩ : ∃ t : Int, (if a = b then 0 else 2) = t := ⟨_, rfl⟩
  rw [ht2] at hc2
  have HT2 : Hid ((if a = b then (0 : Int) else 2) = t2) := ht2
  have cB : ∀ d os, Calls Tryd.prog 16 #[.agg #[.string ⟨#[120]⟩, .slice (some ⟨F, 0, none⟩) 2 2], .string Z] (grow (redrawn w5 d) os) fun e w'' => e = .returned (.tuple #[.string B2, .int .i64 y2, .int .i64 t2]) ∧ ∃ p : Regrown, w'' = grow (redrawn w5 p.d) p.os := fun d os => Calls.regrown_of (by
    have h := HBO.out _ (some ⟨F, 0, none⟩) 2 ⟨#[120]⟩ [(clN, DA), (clN, DB)] Z (HB5.out.trans ((below_regrown w5 d os).mono HB5.out.size)) (HD5.out _ (below_regrown w5 d os)) (sz2 (by decide) (by show 14 + DA.size ≤ 100; omega) (by show 14 + DB.size ≤ 100; omega)) hZz
    rw [hB2, hy2, hc2] at h
    exact h)
  have z0 := cell_regrown x0
  have z1 := cell_regrown x1
  clear hw4 hF hT hw5 hT4 hD4 b4 b5 hX x0 x1 hB2 hy2 hc2 ht2 HS2 HD5 hZ hZl hZz HB3
  refine wp_region_quiet_below (by kernel_rfl) (by kernel_rfl) ?_
  repeat (first | go_big_quiet_step (first | with_reducible exact cR _ _ | with_reducible exact cB _ _) | quiet_step (first | with_reducible exact cR _ _ | with_reducible exact cB _ _))
  refine wpQuiet_nil ?_
  intro _ hw'
  obtain ⟨⟨dq, osq⟩, hw''⟩ := hw'
  subst hw''
  obtain ⟨w6, hw6⟩ : ∃ x, grow (redrawn w5 dq) osq = x := ⟨_, rfl⟩
  have HB6 : Hid (Below w.heap.size w w6) := by rw [← hw6]; exact HB5.out.trans ((below_regrown w5 dq osq).mono HB5.out.size)
  rw [hw6]
  clear hw6 cR cB z0 z1 HB5
  go_wp2_with fail
  refine (CA.out _).mono ?_
  rintro e w7 ⟨rfl, hb7⟩
  have HB7 : Hid (Below w.heap.size w w7) := HB6.out.trans (hb7.mono HB6.out.size)
  clear hb7 HB6 CA
  go_wp2_with fail
  obtain ⟨w8, hw8⟩ : ∃ x, w7.alloc (.cells #[.string ⟨#[99, 111, 110, 116, 101, 110, 116, 45, 108, 101, 110, 103, 116, 104]⟩, .string DA, .string ⟨#[116, 114, 97, 110, 115, 102, 101, 114, 45, 101, 110, 99, 111, 100, 105, 110, 103]⟩, .string ⟨#[99, 104, 117, 110, 107, 101, 100]⟩] 41) = x := ⟨_, rfl⟩
  obtain ⟨G, hG⟩ : ∃ x, w7.heap.size = x := ⟨_, rfl⟩
  obtain ⟨w9, hw9⟩ : ∃ x, w8.alloc (.cells #[.string ⟨#[120]⟩, .slice (some ⟨G, 0, none⟩) 2 2] 35) = x := ⟨_, rfl⟩
  rw [hw8, hG, hw9]
  have hD8 : DAt w8 (some ⟨G, 0, none⟩) [(clN, DA), (teN, chN)] w8.heap.size := by rw [← hw8, ← hG]; exact lit2D w7 (clN, DA) (teN, chN)
  have b8 : Below w7.heap.size w7 w8 := by rw [← hw8]; exact (Below.refl _ _).alloc (Nat.le_refl _) _
  have b9 : Below w8.heap.size w8 w9 := by rw [← hw9]; exact (Below.refl _ _).alloc (Nat.le_refl _) _
  have HB9 : Hid (Below w.heap.size w w9) := by
    have h79 : Below w7.heap.size w7 w9 := b8.trans (b9.mono b8.size)
    exact HB7.out.trans (h79.mono HB7.out.size)
  have c9 := HBO.out w9 (some ⟨G, 0, none⟩) 2 ⟨#[120]⟩ [(clN, DA), (teN, chN)] ⟨#[48, 13, 10, 13, 10]⟩ HB9.out (hD8.on b9) (sz2 (by decide) (by show 14 + DA.size ≤ 100; omega) (by decide)) (by decide)
  rw [HSB.out] at c9
  generalize (⟨(bodyS [(clN, DA), (teN, chN)] (⟨#[48, 13, 10, 13, 10]⟩ : ByteArray).data.toList).1.toArray⟩ : ByteArray) = B3 at c9
  generalize (bodyS [(clN, DA), (teN, chN)] (⟨#[48, 13, 10, 13, 10]⟩ : ByteArray).data.toList).2.1 = y3 at c9
  have CN : Hid (∀ wi, Below w.heap.size w wi → Calls Tryd.prog 16 #[.agg #[.string ⟨#[120]⟩, .slice none 0 0], .string ⟨#[97, 98, 99]⟩] wi fun e w' => e = .returned (.tuple #[.string ⟨#[]⟩, .int .i64 0, .int .i64 0]) ∧ Below wi.heap.size wi w') := by
    intro wi hb
    have h := HBO.out wi none 0 ⟨#[120]⟩ [] ⟨#[97, 98, 99]⟩ hb (fun j hj => by simp at hj) (by unfold HdSz wgtT; decide) (by decide)
    rw [smug_none] at h
    exact h
  clear hw8 hG hw9 hD8 b8 b9 HSB HBO HB7
  refine c9.mono ?_
  rintro e w10 ⟨rfl, hb10⟩
  have HB10 : Hid (Below w.heap.size w w10) := HB9.out.trans (hb10.mono HB9.out.size)
  clear c9
  go_wp2_with fail
  refine (CN.out _ HB10.out).mono ?_
  rintro e w11 ⟨rfl, hb11⟩
  have HB11 : Hid (Below w.heap.size w w11) := by
    have h := hb10.trans (hb11.mono hb10.size)
    exact HB9.out.trans (h.mono HB9.out.size)
  clear CN hb10 hb11
  by_cases hab : a = b
  · have ht : t2 = 0 := by rw [← HT2.out, if_pos hab]
    have hne : ((a : Int) != (b : Int)) = false := by simp; omega
    subst ht
    clear HT2 hab
    go_wp2_with fail
    go_ret
    exact ⟨rfl, HB11.out⟩
  · have ht : t2 = 2 := by rw [← HT2.out, if_neg hab]
    have hne : ((a : Int) != (b : Int)) = true := by simp; omega
    subst ht
    clear HT2 hab
    go_wp2_with fail
    go_ret
    exact ⟨rfl, HB11.out⟩
end Go.Proofs.YtnnaphfeeobelaeDoor
