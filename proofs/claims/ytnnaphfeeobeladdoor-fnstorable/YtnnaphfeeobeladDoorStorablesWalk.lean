/- The law on what may be kept, walked. -/
import Derived.Test.YtnnaphfeeobeladDoorStorableDraw
import Derived.Test.YtnnaphfeeobeladDoorStorableSpec
import Derived.Test.YtnnaphfeeobeladDoorStorableImpl
import Derived.Test.YtnnaphfeeobeladDoorDrawTurn
import Derived.Test.YtnnaphfeeobeladDoorBig
import Derived.BigQuiet
import Derived.Lib.QuietBelow
namespace Go.Proofs.YtnnaphfeeobeladDoor
open Go.RowKit Go.Sort
def askL : ByteArray := ⟨#[71, 69, 84, 32, 47, 97, 32, 72, 84, 84, 80, 47, 49, 46, 49]⟩
def tellL : ByteArray := ⟨#[72, 84, 84, 80, 47, 49, 46, 49, 32, 50, 48, 48, 32, 111, 107]⟩
def noL : ByteArray := ⟨#[72, 84, 84, 80, 47, 49, 46, 49, 32, 52, 48, 52, 32, 110, 111]⟩
def auF : ByteArray × ByteArray := (⟨#[97, 117, 116, 104, 111, 114, 105, 122, 97, 116, 105, 111, 110]⟩, ⟨#[120]⟩)
def nsF : ByteArray × ByteArray := (⟨#[99, 97, 99, 104, 101, 45, 99, 111, 110, 116, 114, 111, 108]⟩, ⟨#[110, 111, 45, 115, 116, 111, 114, 101]⟩)
def prF : ByteArray × ByteArray := (⟨#[99, 97, 99, 104, 101, 45, 99, 111, 110, 116, 114, 111, 108]⟩, ⟨#[109, 97, 120, 45, 97, 103, 101, 61, 57, 44, 32, 112, 114, 105, 118, 97, 116, 101]⟩)
theorem stor_yes : storS askL [] tellL [ccF] = true := by kernel_rfl
theorem stor_secret : storS askL [auF] tellL [ccF] = false := by kernel_rfl
theorem stor_asked : storS askL [nsF] tellL [ccF] = false := by kernel_rfl
theorem stor_number : storS askL [] noL [ccF] = false := by kernel_rfl
theorem stor_told : storS askL [] tellL [prF] = false := by kernel_rfl
/-- Where it may be kept it has a life. -/
theorem stor_life {rl sl : ByteArray} {rL sL : List (ByteArray × ByteArray)} (h : storS rl rL sl sL = true) : 0 < lifeC (controlS (fieldOfS sL ccN).1.data.toList) := by
  unfold storS storP at h
  simp only [Bool.and_eq_true, decide_eq_true_eq] at h
  exact h.2
theorem OwnD.lies {w : World} {base g n cap : Nat} {L : List (ByteArray × ByteArray)} (h : OwnD w base 34 (.slice (some ⟨g, 0, none⟩) n cap) L) : DAt w (some ⟨g, 0, none⟩) L w.heap.size := by
  obtain ⟨a9, c9, e9, hD⟩ := h.at
  injection e9 with e1 _ _
  rw [← e1] at hD
  exact hD
theorem OwnD.second {w : World} {base F : Nat} {f g : ByteArray} {x : ByteArray} (h : OwnD w base 34 (.slice (some ⟨F, 0, none⟩) 1 1) [(f, g)]) : OwnD (w.setCell ⟨F, 1, none⟩ (.string x)) base 34 (.slice (some ⟨F, 0, none⟩) 1 1) [(f, x)] := by
  have h1 := World.ownsRow.stored h 1 (.string x)
  exact h1.1
theorem nilD (w : World) : DAt w none [] w.heap.size := fun j hj => by simp at hj
set_option maxRecDepth 100000 in
set_option maxHeartbeats 2000000 in
theorem first_any (w : World) (a : Option Addr) (c : Nat) (line : ByteArray) (L : List (ByteArray × ByteArray)) (hA : DAt w a L w.heap.size) (hz : HdSz line L) :
    Calls Tryd.prog 39 #[.agg #[.string line, .slice a L.length c]] w fun e w' => e = .returned (.string (fieldOfS L ccN).1) ∧ Below w.heap.size w w' := by
  obtain ⟨wb, hwb⟩ : ∃ wb, w.alloc (.cells #[.string line, .slice a L.length c] 27) = wb := ⟨_, rfl⟩
  have hb : Below w.heap.size w wb := by rw [← hwb]; exact (Below.refl _ _).alloc (Nat.le_refl _) _
  have hX : KBy wb w.heap.size (.string line) (.slice a L.length c) := by rw [← hwb]; exact heap_alloc_new w _
  have c1 := specFieldOf_any wb a c line L ccN (hA.on hb) hz (by decide)
  obtain ⟨b0, b1⟩ := hX.cells
  have HB : Hid (Below w.heap.size w wb) := hb
  generalize (fieldOfS L ccN).1 = q at c1 ⊢
  generalize (fieldOfS L ccN).2 = q2 at c1
  clear hb hX hA hz
  go_enter Tryd.func39, Tryd.ntmps39
  go_wp2_with fail
  refine c1.mono ?_
  rintro e w1 ⟨rfl, hb1⟩
  clear c1 b0 b1
  go_wp2_with fail
  go_ret
  exact ⟨rfl, HB.out.trans (hb1.mono HB.out.size)⟩
set_option maxRecDepth 100000 in
set_option maxHeartbeats 16000000 in
theorem storables_walk (ca : Option Addr) (n cap : Nat) (w : World) (hcode : CodeAt w ca n w.heap.size) (hlen : n ≤ maxLen) :
    Calls Tryd.prog 7 #[.slice ca n cap] w fun e w' => e = .returned (.bool true) ∧ Below w.heap.size w w' := by
  unfold maxLen at hlen
  have cb := big_any ca n cap w hlen
  by_cases hn : n ≤ 1048576
  case neg =>
    rw [show decide (1048576 < n) = true by simp; omega] at cb
    go_enter Tryd.func7, Tryd.ntmps7
    go_wp2_with fail
    refine cb.mono ?_
    rintro e w' ⟨rfl, rfl⟩
    go_wp2_with fail
    go_ret
    exact ⟨rfl, Below.refl _ _⟩
  rw [show decide (1048576 < n) = false by simp; omega] at cb
  have c1 := drawStorable_any w ca n cap hcode hn
  have C2 : Hid (∀ w', Below w.heap.size w w' → Calls Tryd.prog 24 #[.slice ca n cap] w' fun e w'' => ∃ (v : Value) (l : List Int), e = .returned v ∧ l.length = 12 ∧ (∀ z ∈ l, 0 ≤ z ∧ z < 10000) ∧ OwnV w'' w'.heap.size 3 v (ints l) ∧ Below w'.heap.size w' w'') := by
    intro w' hb
    refine drawPlaces_any w' ca n cap (fun j hj => ?_) hn
    obtain ⟨b, off, z, h1, h2, h3, h4⟩ := hcode j hj
    exact ⟨b, off, z, h1, Nat.lt_of_lt_of_le h2 hb.size, (hb.cell (p := ⟨b, off + j, none⟩) h2).trans h3, h4⟩
  clear hcode
  go_enter Tryd.func7, Tryd.ntmps7
  go_wp2_with fail
  refine cb.mono ?_
  rintro e w' ⟨rfl, rfl⟩
  clear cb
  go_wp2_with fail
  refine c1.mono ?_
  rintro e w1 ⟨al, bl, a1, a2, x1, x2, L1, L2, rfl, hz1, hz2, hD1, hD2, hb1⟩
  clear c1
  go_wp2_with fail
  obtain ⟨wa, hwa⟩ : ∃ x, w1.alloc (.cells #[.string al, .slice a1 L1.length x1] 27) = x := ⟨_, rfl⟩
  obtain ⟨w2, hw2⟩ : ∃ x, wa.alloc (.cells #[.string bl, .slice a2 L2.length x2] 27) = x := ⟨_, rfl⟩
  obtain ⟨A, hA⟩ : ∃ x, w1.heap.size = x := ⟨_, rfl⟩
  obtain ⟨B, hB⟩ : ∃ x, A + 1 = x := ⟨_, rfl⟩
  rw [hwa, hw2, hA, hB]
  have HV : Hid (Below w.heap.size w w2 ∧ HBx w2 A 27 (.string al) (.slice a1 L1.length x1) ∧ HBx w2 B 27 (.string bl) (.slice a2 L2.length x2) ∧ DAt w2 a1 L1 w2.heap.size ∧ DAt w2 a2 L2 w2.heap.size ∧ A < B) := by
    have ba : Below w1.heap.size w1 wa := by rw [← hwa]; exact (Below.refl _ _).alloc (Nat.le_refl _) _
    have bb : Below wa.heap.size wa w2 := by rw [← hw2]; exact (Below.refl _ _).alloc (Nat.le_refl _) _
    have b12 : Below w1.heap.size w1 w2 := ba.trans (bb.mono ba.size)
    have hK : HBx wa A 27 (.string al) (.slice a1 L1.length x1) := by rw [← hwa, ← hA]; exact HBx.new _ _ _ _
    have sB : wa.heap.size = B := by rw [← hB, ← hA, ← hwa]; simp
    exact ⟨hb1.trans (b12.mono hb1.size), hK.on bb, by rw [← hw2, ← sB]; exact HBx.new _ _ _ _, hD1.on b12, hD2.on b12, by omega⟩
  clear hwa hw2 hA hB
  have HZ : Hid (HdSz al L1 ∧ HdSz bl L2) := ⟨hz1, hz2⟩
  clear hb1 hz1 hz2 hD1 hD2
  obtain ⟨Q, hQ⟩ : ∃ x, storS al L1 bl L2 = x := ⟨_, rfl⟩
  have CI : Hid (∀ wi, Below w2.heap.size w2 wi → Calls Tryd.prog 37 #[.agg #[.string al, .slice a1 L1.length x1], .agg #[.string bl, .slice a2 L2.length x2]] wi fun e w' => e = .returned (.bool Q) ∧ Below wi.heap.size wi w') := by
    intro wi hi; rw [← hQ]; exact implStorable_any wi a1 a2 x1 x2 al bl L1 L2 (HV.out.2.2.2.1.on hi) (HV.out.2.2.2.2.1.on hi) HZ.out.1 HZ.out.2
  have CS : Hid (∀ wi, Below w2.heap.size w2 wi → Calls Tryd.prog 38 #[.agg #[.string al, .slice a1 L1.length x1], .agg #[.string bl, .slice a2 L2.length x2]] wi fun e w' => e = .returned (.bool Q) ∧ Below wi.heap.size wi w') := by
    intro wi hi; rw [← hQ]; exact specStorable_any wi a1 a2 x1 x2 al bl L1 L2 (HV.out.2.2.2.1.on hi) (HV.out.2.2.2.2.1.on hi) HZ.out.1 HZ.out.2
  have CF : Hid (∀ wi, Below w2.heap.size w2 wi → Calls Tryd.prog 39 #[.agg #[.string bl, .slice a2 L2.length x2]] wi fun e w' => e = .returned (.string (fieldOfS L2 ccN).1) ∧ Below wi.heap.size wi w') := fun wi hi => first_any wi a2 x2 bl L2 (HV.out.2.2.2.2.1.on hi) HZ.out.2
  have HFZ : Hid ((fieldOfS L2 ccN).1.size ≤ 1048576) := fieldOfS_size ccN HZ.out.2
  have HLF : Hid (Q = true → 0 < lifeC (controlS (fieldOfS L2 ccN).1.data.toList)) := fun h => stor_life (hQ.trans h)
  generalize (fieldOfS L2 ccN).1 = ff at CF HFZ HLF
  obtain ⟨cf, hcf⟩ : ∃ x, controlS ff.data.toList = x := ⟨_, rfl⟩
  have CK : Hid (∀ wi, Calls Tryd.prog 32 #[.string ff] wi fun e w' => e = .returned (.agg #[.bool cf.ns, .bool cf.nc, .int .i64 cf.ma, .int .i64 cf.sh]) ∧ Below wi.heap.size wi w') := by
    intro wi; rw [← hcf]; exact specControlOf_any ff wi HFZ.out
  have CL : Hid (∀ wi, Calls Tryd.prog 33 #[.agg #[.bool cf.ns, .bool cf.nc, .int .i64 cf.ma, .int .i64 cf.sh]] wi fun e w' => e = .returned (.int .i64 (lifeC cf)) ∧ Below wi.heap.size wi w') := fun wi => implLifetime_any wi cf
  rw [hcf] at HLF
  generalize lifeC cf = y at CL HLF
  clear hQ hcf HFZ HZ
  obtain ⟨p0, p1⟩ := HV.out.2.1.cells
  obtain ⟨p2, p3⟩ := HV.out.2.2.1.cells
  have zp0 := cell_regrown p0
  have zp1 := cell_regrown p1
  have zp2 := cell_regrown p2
  have zp3 := cell_regrown p3
  have cI : ∀ d os, Calls Tryd.prog 37 #[.agg #[.string al, .slice a1 L1.length x1], .agg #[.string bl, .slice a2 L2.length x2]] (grow (redrawn w2 d) os) fun e w'' => e = .returned (.bool Q) ∧ ∃ p : Regrown, w'' = grow (redrawn w2 p.d) p.os := fun d os => Calls.regrown_of (CI.out _ (below_regrown w2 d os))
  have cS : ∀ d os, Calls Tryd.prog 38 #[.agg #[.string al, .slice a1 L1.length x1], .agg #[.string bl, .slice a2 L2.length x2]] (grow (redrawn w2 d) os) fun e w'' => e = .returned (.bool Q) ∧ ∃ p : Regrown, w'' = grow (redrawn w2 p.d) p.os := fun d os => Calls.regrown_of (CS.out _ (below_regrown w2 d os))
  have hqq : (Q != Q) = false := by simp
  clear p0 p1 p2 p3
  refine wp_region_quiet_below (by kernel_rfl) (by kernel_rfl) ?_
  repeat (first | go_big_quiet_step (first | with_reducible exact cI _ _ | with_reducible exact cS _ _) | quiet_step (first | with_reducible exact cI _ _ | with_reducible exact cS _ _))
  refine wpQuiet_nil ?_
  intro _ hw'
  obtain ⟨⟨dq, osq⟩, hw''⟩ := hw'
  subst hw''
  obtain ⟨w3, hw3⟩ : ∃ x, grow (redrawn w2 dq) osq = x := ⟨_, rfl⟩
  have HW : Hid (Below w2.heap.size w2 w3) := by rw [← hw3]; exact below_regrown w2 dq osq
  rw [hw3]
  clear hw3 cI cS zp0 zp1 zp2 zp3 CS
  go_wp2_with fail
  refine (C2.out w3 (HV.out.1.trans (HW.out.mono HV.out.1.size))).mono ?_
  rintro e w4 ⟨v7, l, rfl, hl, hlz, hown, hb4⟩
  have HW : Hid (Below w2.heap.size w2 w4) := HW.out.trans (hb4.mono HW.out.size)
  obtain ⟨pa, pc, rfl, hcells⟩ := hown.shape
  obtain ⟨g, rfl, hz0, _, _, hg⟩ := hcells 0 (by rw [ints_length]; omega)
  rw [ints_at (by omega)] at hz0
  obtain ⟨q0, hq0⟩ : ∃ x, l[0] = x := ⟨_, rfl⟩
  rw [hq0] at hz0
  have hr0 := hlz q0 (by rw [← hq0]; exact List.getElem_mem _)
  have hln : (ints l).length = 12 := by rw [ints_length]; exact hl
  rw [hln]
  have HZ0 : Hid (∀ wi, Below w4.heap.size w4 wi → wi.cell? ⟨g, 0, none⟩ = some (.int .i64 q0)) := fun wi hi => (hi.cell (World.block_lt_of_cell? w4 _ hz0)).trans hz0
  clear hown hcells hlz hl hln hq0 hb4 C2 hg hz0
  -- what is asked, what is told
  go_wp2_with fail
  obtain ⟨w5, hw5⟩ : ∃ x, w4.alloc (.cells #[.string ⟨#[71, 69, 84, 32, 47, 97, 32, 72, 84, 84, 80, 47, 49, 46, 49]⟩, .slice none 0 0] 27) = x := ⟨_, rfl⟩
  obtain ⟨w6, hw6⟩ : ∃ x, w5.alloc (.cells #[.string ⟨#[99, 97, 99, 104, 101, 45, 99, 111, 110, 116, 114, 111, 108]⟩, .string ⟨#[109, 97, 120, 45, 97, 103, 101, 61, 57]⟩] 34) = x := ⟨_, rfl⟩
  obtain ⟨K, hK⟩ : ∃ x, w4.heap.size = x := ⟨_, rfl⟩
  obtain ⟨F, hF'⟩ : ∃ x, K + 1 = x := ⟨_, rfl⟩
  have hF : w5.heap.size = F := by rw [← hF', ← hK, ← hw5]; simp
  obtain ⟨w7, hw7⟩ : ∃ x, w6.alloc (.cells #[.string ⟨#[72, 84, 84, 80, 47, 49, 46, 49, 32, 50, 48, 48, 32, 111, 107]⟩, .slice (some ⟨F, 0, none⟩) 1 1] 27) = x := ⟨_, rfl⟩
  obtain ⟨T, hT'⟩ : ∃ x, K + 1 + 1 = x := ⟨_, rfl⟩
  have hT : w6.heap.size = T := by rw [← hT', ← hK, ← hw6, ← hw5]; simp
  have H7 : Hid (Below w4.heap.size w4 w7 ∧ HBx w7 K 27 (.string askL) (.slice none 0 0) ∧ HBx w7 T 27 (.string tellL) (.slice (some ⟨F, 0, none⟩) 1 1) ∧ OwnD w7 w4.heap.size 34 (.slice (some ⟨F, 0, none⟩) 1 1) [ccF] ∧ K < T ∧ w4.heap.size ≤ K ∧ w4.heap.size ≤ F) := by
    have b5 : Below w4.heap.size w4 w5 := by rw [← hw5]; exact (Below.refl _ _).alloc (Nat.le_refl _) _
    have b6 : Below w5.heap.size w5 w6 := by rw [← hw6]; exact (Below.refl _ _).alloc (Nat.le_refl _) _
    have b7 : Below w6.heap.size w6 w7 := by rw [← hw7]; exact (Below.refl _ _).alloc (Nat.le_refl _) _
    have s5 : w5.heap.size = w4.heap.size + 1 := by rw [← hw5]; simp
    have s6 : w6.heap.size = w5.heap.size + 1 := by rw [← hw6]; simp
    have k5 : HBx w5 K 27 (.string askL) (.slice none 0 0) := by rw [← hw5, ← hK]; exact HBx.new _ _ _ _
    have f6 : OwnD w6 w5.heap.size 34 (.slice (some ⟨F, 0, none⟩) 1 1) [ccF] := by rw [← hw6, ← hF]; exact lit1D w5 ccF
    have b57 : Below w5.heap.size w5 w7 := b6.trans (b7.mono b6.size)
    exact ⟨b5.trans (b57.mono b5.size), k5.on b57, by rw [← hw7, ← hT]; exact HBx.new _ _ _ _, (f6.below b7 (Nat.le_refl _)).mono b5.size, by omega, by omega, by omega⟩
  have cOK := implStorable_any w7 none (some ⟨F, 0, none⟩) 0 1 askL tellL [] [ccF] (nilD w7) (by obtain ⟨a9, c9, e9, hD⟩ := H7.out.2.2.2.1.at; injection e9 with e1 _ _; rw [← e1] at hD; exact hD) (hdSz_small (by decide) (by decide) (by intro f hf; cases hf)) (hdSz_small (by decide) (by decide) (by intro f hf; rw [List.mem_singleton.1 hf]; decide))
  rw [stor_yes] at cOK
  dsimp only [askL, tellL, List.length] at cOK
  rw [hw5, hw6, hK, hT', hF', hw7]
  clear hw5 hw6 hK hF hF' hw7 hT hT'
  refine cOK.mono ?_
  rintro e w8 ⟨rfl, hb8⟩
  have H8 : Hid (Below w4.heap.size w4 w8 ∧ HBx w8 K 27 (.string askL) (.slice none 0 0) ∧ HBx w8 T 27 (.string tellL) (.slice (some ⟨F, 0, none⟩) 1 1) ∧ OwnD w8 w4.heap.size 34 (.slice (some ⟨F, 0, none⟩) 1 1) [ccF] ∧ K < T ∧ w4.heap.size ≤ K ∧ w4.heap.size ≤ F) := by
    obtain ⟨d1, d2, d3, d4, d5, d6, d7⟩ := H7.out
    exact ⟨d1.trans (hb8.mono d1.size), d2.on hb8, d3.on hb8, d4.below hb8 (Nat.le_refl _), d5, d6, d7⟩
  clear cOK hb8 H7
  have HU : Hid (∀ wi, Below w4.heap.size w4 wi → (wi.cell? ⟨A, 0, none⟩ = some (.string al) ∧ wi.cell? ⟨A, 1, none⟩ = some (.slice a1 L1.length x1)) ∧ (wi.cell? ⟨B, 0, none⟩ = some (.string bl) ∧ wi.cell? ⟨B, 1, none⟩ = some (.slice a2 L2.length x2)) ∧ Below w2.heap.size w2 wi ∧ Below w.heap.size w wi) := by
    intro wi hi
    have h2 : Below w2.heap.size w2 wi := HW.out.trans (hi.mono HW.out.size)
    exact ⟨(HV.out.2.1.on h2).cells, (HV.out.2.2.1.on h2).cells, h2, HV.out.1.trans (h2.mono HV.out.1.size)⟩
  clear HV HW
  have hz0 := HZ0.out w8 H8.out.1
  obtain ⟨k0, k1⟩ := H8.out.2.1.cells
  obtain ⟨t0, t1⟩ := H8.out.2.2.1.cells
  have f1 := H8.out.2.1.thaw 1
  have f2 := H8.out.2.2.1.thaw 0
  have f3 := H8.out.2.2.2.1.there rfl 1
  obtain ⟨c0, c1, hc0⟩ : ∃ c0 c1 : Unit, (w8.cell? ⟨F, 0, none⟩ = some (.string ccF.1) ∧ w8.cell? ⟨F, 1, none⟩ = some (.string ccF.2)) := by
    obtain ⟨a9, c9, e9, hD⟩ := H8.out.2.2.2.1.at
    injection e9 with e1 _ _
    rw [← e1] at hD
    obtain ⟨g', off, e2, _, h1, h2⟩ := hD 0 (by simp)
    simp only [Option.some.injEq, Addr.mk.injEq] at e2
    obtain ⟨rfl, rfl, _⟩ := e2
    exact ⟨(), (), h1, h2⟩
  obtain ⟨y0, y1⟩ := hc0
  clear c0 c1
  have hm : q0.tmod 4 = q0 % 4 := Int.tmod_eq_emod_of_nonneg hr0.1
  have n1 : ¬ K = T := by have := H8.out.2.2.2.2.1; omega
  have n2 : ¬ T = K := by have := H8.out.2.2.2.2.1; omega
  have n3 : ¬ K = F := fun e => H8.out.2.1.neD (by decide) H8.out.2.2.2.1 F rfl e.symm
  have n4 : ¬ T = F := fun e => H8.out.2.2.1.neD (by decide) H8.out.2.2.2.1 F rfl e.symm
  have n5 : ¬ F = K := fun e => n3 e.symm
  have n6 : ¬ F = T := fun e => n4 e.symm
  rcases (show q0 % 4 = 0 ∨ q0 % 4 = 1 ∨ q0 % 4 = 2 ∨ q0 % 4 = 3 by omega) with hm4 | hm4 | hm4 | hm4
  all_goals
    rw [hm4] at hm
    clear hm4 hr0
    dsimp only [askL, tellL, ccF] at k0 t0 y0 y1
  case' inl =>
    obtain ⟨wl, hwl⟩ : ∃ x, w8.alloc (.cells #[.string ⟨#[97, 117, 116, 104, 111, 114, 105, 122, 97, 116, 105, 111, 110]⟩, .string ⟨#[120]⟩] 34) = x := ⟨_, rfl⟩
    obtain ⟨lb, hlb⟩ : ∃ x, w8.heap.size = x := ⟨_, rfl⟩
    have HWL : Hid (Below w8.heap.size w8 wl ∧ OwnD wl lb 34 (.slice (some ⟨lb, 0, none⟩) 1 1) [auF]) := ⟨by rw [← hwl]; exact (Below.refl _ _).alloc (Nat.le_refl _) _, by rw [← hwl, ← hlb]; exact lit1D w8 auF⟩
    have HKL := H8.out.2.1.on HWL.out.1
    have HTL := H8.out.2.2.1.on HWL.out.1
    obtain ⟨k0', k1'⟩ := HKL.cells
    obtain ⟨t0', t1'⟩ := HTL.cells
    have f1' := HKL.thaw 1
    dsimp only [askL, tellL] at k0' t0'
    have H9 : Hid (Below w4.heap.size w4 (wl.setCell ⟨K, 1, none⟩ (.slice (some ⟨lb, 0, none⟩) 1 1)) ∧ OwnD (wl.setCell ⟨K, 1, none⟩ (.slice (some ⟨lb, 0, none⟩) 1 1)) lb 34 (.slice (some ⟨lb, 0, none⟩) 1 1) [auF] ∧ OwnD (wl.setCell ⟨K, 1, none⟩ (.slice (some ⟨lb, 0, none⟩) 1 1)) w4.heap.size 34 (.slice (some ⟨F, 0, none⟩) 1 1) [ccF]) := by
      obtain ⟨d1, d2, d3, d4, d5, d6, d7⟩ := H8.out
      exact ⟨(d1.trans (HWL.out.1.mono d1.size)).setCell (p := ⟨K, 1, none⟩) d6 _, HWL.out.2.far HKL _ _, (d4.below HWL.out.1 (Nat.le_refl _)).far HKL _ _⟩
    clear HKL HTL HWL H8 k0 k1 t0 t1 f1 f2 f3 y0 y1
    go_wp2_with fail
    clear hwl hlb
    generalize (wl.setCell ⟨K, 1, none⟩ (.slice (some ⟨lb, 0, none⟩) 1 1)) = w9 at H9 ⊢
    have CZ : Hid (∀ wi, Below w9.heap.size w9 wi → Calls Tryd.prog 37 #[.agg #[.string ⟨#[71, 69, 84, 32, 47, 97, 32, 72, 84, 84, 80, 47, 49, 46, 49]⟩, .slice (some ⟨lb, 0, none⟩) 1 1], .agg #[.string ⟨#[72, 84, 84, 80, 47, 49, 46, 49, 32, 50, 48, 48, 32, 111, 107]⟩, .slice (some ⟨F, 0, none⟩) 1 1]] wi fun e w' => e = .returned (.bool false) ∧ Below wi.heap.size wi w') := by
      intro wi hi
      have h := implStorable_any wi (some ⟨lb, 0, none⟩) (some ⟨F, 0, none⟩) 1 1 askL tellL [auF] [ccF] (H9.out.2.1.lies.on hi) (H9.out.2.2.lies.on hi) (hdSz_small (by decide) (by decide) (by intro f hf; rw [List.mem_singleton.1 hf]; decide)) (hdSz_small (by decide) (by decide) (by intro f hf; rw [List.mem_singleton.1 hf]; decide))
      rw [stor_secret] at h
      exact h
    have HB9 : Hid (Below w4.heap.size w4 w9) := H9.out.1
    refine (CZ.out _ (Below.refl _ _)).mono ?_
    clear CZ H9 k0' k1' t0' t1' f1'
  case' inr.inl =>
    obtain ⟨wl, hwl⟩ : ∃ x, w8.alloc (.cells #[.string ⟨#[99, 97, 99, 104, 101, 45, 99, 111, 110, 116, 114, 111, 108]⟩, .string ⟨#[110, 111, 45, 115, 116, 111, 114, 101]⟩] 34) = x := ⟨_, rfl⟩
    obtain ⟨lb, hlb⟩ : ∃ x, w8.heap.size = x := ⟨_, rfl⟩
    have HWL : Hid (Below w8.heap.size w8 wl ∧ OwnD wl lb 34 (.slice (some ⟨lb, 0, none⟩) 1 1) [nsF]) := ⟨by rw [← hwl]; exact (Below.refl _ _).alloc (Nat.le_refl _) _, by rw [← hwl, ← hlb]; exact lit1D w8 nsF⟩
    have HKL := H8.out.2.1.on HWL.out.1
    have HTL := H8.out.2.2.1.on HWL.out.1
    obtain ⟨k0', k1'⟩ := HKL.cells
    obtain ⟨t0', t1'⟩ := HTL.cells
    have f1' := HKL.thaw 1
    dsimp only [askL, tellL] at k0' t0'
    have H9 : Hid (Below w4.heap.size w4 (wl.setCell ⟨K, 1, none⟩ (.slice (some ⟨lb, 0, none⟩) 1 1)) ∧ OwnD (wl.setCell ⟨K, 1, none⟩ (.slice (some ⟨lb, 0, none⟩) 1 1)) lb 34 (.slice (some ⟨lb, 0, none⟩) 1 1) [nsF] ∧ OwnD (wl.setCell ⟨K, 1, none⟩ (.slice (some ⟨lb, 0, none⟩) 1 1)) w4.heap.size 34 (.slice (some ⟨F, 0, none⟩) 1 1) [ccF]) := by
      obtain ⟨d1, d2, d3, d4, d5, d6, d7⟩ := H8.out
      exact ⟨(d1.trans (HWL.out.1.mono d1.size)).setCell (p := ⟨K, 1, none⟩) d6 _, HWL.out.2.far HKL _ _, (d4.below HWL.out.1 (Nat.le_refl _)).far HKL _ _⟩
    clear HKL HTL HWL H8 k0 k1 t0 t1 f1 f2 f3 y0 y1
    go_wp2_with fail
    clear hwl hlb
    generalize (wl.setCell ⟨K, 1, none⟩ (.slice (some ⟨lb, 0, none⟩) 1 1)) = w9 at H9 ⊢
    have CZ : Hid (∀ wi, Below w9.heap.size w9 wi → Calls Tryd.prog 37 #[.agg #[.string ⟨#[71, 69, 84, 32, 47, 97, 32, 72, 84, 84, 80, 47, 49, 46, 49]⟩, .slice (some ⟨lb, 0, none⟩) 1 1], .agg #[.string ⟨#[72, 84, 84, 80, 47, 49, 46, 49, 32, 50, 48, 48, 32, 111, 107]⟩, .slice (some ⟨F, 0, none⟩) 1 1]] wi fun e w' => e = .returned (.bool false) ∧ Below wi.heap.size wi w') := by
      intro wi hi
      have h := implStorable_any wi (some ⟨lb, 0, none⟩) (some ⟨F, 0, none⟩) 1 1 askL tellL [nsF] [ccF] (H9.out.2.1.lies.on hi) (H9.out.2.2.lies.on hi) (hdSz_small (by decide) (by decide) (by intro f hf; rw [List.mem_singleton.1 hf]; decide)) (hdSz_small (by decide) (by decide) (by intro f hf; rw [List.mem_singleton.1 hf]; decide))
      rw [stor_asked] at h
      exact h
    have HB9 : Hid (Below w4.heap.size w4 w9) := H9.out.1
    refine (CZ.out _ (Below.refl _ _)).mono ?_
    clear CZ H9 k0' k1' t0' t1' f1'
  case' inr.inr.inl =>
    have H9 : Hid (Below w4.heap.size w4 (w8.setCell ⟨T, 0, none⟩ (.string ⟨#[72, 84, 84, 80, 47, 49, 46, 49, 32, 52, 48, 52, 32, 110, 111]⟩)) ∧ OwnD (w8.setCell ⟨T, 0, none⟩ (.string ⟨#[72, 84, 84, 80, 47, 49, 46, 49, 32, 52, 48, 52, 32, 110, 111]⟩)) w4.heap.size 34 (.slice (some ⟨F, 0, none⟩) 1 1) [ccF]) := by
      obtain ⟨d1, d2, d3, d4, d5, d6, d7⟩ := H8.out
      exact ⟨d1.setCell (p := ⟨T, 0, none⟩) (show w4.heap.size ≤ T by omega) _, d4.far d3 _ _⟩
    go_wp2_with fail
    generalize (w8.setCell ⟨T, 0, none⟩ (.string ⟨#[72, 84, 84, 80, 47, 49, 46, 49, 32, 52, 48, 52, 32, 110, 111]⟩)) = w9 at H9 ⊢
    have CZ : Hid (∀ wi, Below w9.heap.size w9 wi → Calls Tryd.prog 37 #[.agg #[.string ⟨#[71, 69, 84, 32, 47, 97, 32, 72, 84, 84, 80, 47, 49, 46, 49]⟩, .slice none 0 0], .agg #[.string ⟨#[72, 84, 84, 80, 47, 49, 46, 49, 32, 52, 48, 52, 32, 110, 111]⟩, .slice (some ⟨F, 0, none⟩) 1 1]] wi fun e w' => e = .returned (.bool false) ∧ Below wi.heap.size wi w') := by
      intro wi hi
      have h := implStorable_any wi none (some ⟨F, 0, none⟩) 0 1 askL noL [] [ccF] (nilD wi) (H9.out.2.lies.on hi) (hdSz_small (by decide) (by decide) (by intro f hf; cases hf)) (hdSz_small (by decide) (by decide) (by intro f hf; rw [List.mem_singleton.1 hf]; decide))
      rw [stor_number] at h
      exact h
    have HB9 : Hid (Below w4.heap.size w4 w9) := H9.out.1
    refine (CZ.out _ (Below.refl _ _)).mono ?_
    clear CZ H9 H8 k0 k1 t0 t1 f1 f2 f3 y0 y1
  case' inr.inr.inr =>
    have H9 : Hid (Below w4.heap.size w4 (w8.setCell ⟨F, 1, none⟩ (.string ⟨#[109, 97, 120, 45, 97, 103, 101, 61, 57, 44, 32, 112, 114, 105, 118, 97, 116, 101]⟩)) ∧ OwnD (w8.setCell ⟨F, 1, none⟩ (.string ⟨#[109, 97, 120, 45, 97, 103, 101, 61, 57, 44, 32, 112, 114, 105, 118, 97, 116, 101]⟩)) w4.heap.size 34 (.slice (some ⟨F, 0, none⟩) 1 1) [prF]) := by
      obtain ⟨d1, d2, d3, d4, d5, d6, d7⟩ := H8.out
      exact ⟨d1.setCell (p := ⟨F, 1, none⟩) d7 _, d4.second⟩
    go_wp2_with fail
    generalize (w8.setCell ⟨F, 1, none⟩ (.string ⟨#[109, 97, 120, 45, 97, 103, 101, 61, 57, 44, 32, 112, 114, 105, 118, 97, 116, 101]⟩)) = w9 at H9 ⊢
    have CZ : Hid (∀ wi, Below w9.heap.size w9 wi → Calls Tryd.prog 37 #[.agg #[.string ⟨#[71, 69, 84, 32, 47, 97, 32, 72, 84, 84, 80, 47, 49, 46, 49]⟩, .slice none 0 0], .agg #[.string ⟨#[72, 84, 84, 80, 47, 49, 46, 49, 32, 50, 48, 48, 32, 111, 107]⟩, .slice (some ⟨F, 0, none⟩) 1 1]] wi fun e w' => e = .returned (.bool false) ∧ Below wi.heap.size wi w') := by
      intro wi hi
      have h := implStorable_any wi none (some ⟨F, 0, none⟩) 0 1 askL tellL [] [prF] (nilD wi) (H9.out.2.lies.on hi) (hdSz_small (by decide) (by decide) (by intro f hf; cases hf)) (hdSz_small (by decide) (by decide) (by intro f hf; rw [List.mem_singleton.1 hf]; decide))
      rw [stor_told] at h
      exact h
    have HB9 : Hid (Below w4.heap.size w4 w9) := H9.out.1
    refine (CZ.out _ (Below.refl _ _)).mono ?_
    clear CZ H9 H8 k0 k1 t0 t1 f1 f2 f3 y0 y1
  all_goals
    rintro e w10 ⟨rfl, hb10⟩
    have HB10 : Hid (Below w4.heap.size w4 w10) := HB9.out.trans (hb10.mono HB9.out.size)
    clear hb10 HZ0 hz0
    obtain ⟨⟨u0, u1⟩, ⟨u2, u3⟩, _, _⟩ := HU.out w10 HB10.out
    go_wp2_with fail
    refine (CI.out _ (HU.out w10 HB10.out).2.2.1).mono ?_
    rintro e w11 ⟨rfl, hb11⟩
    have HB11 : Hid (Below w4.heap.size w4 w11) := HB10.out.trans (hb11.mono HB10.out.size)
    clear hb11 u0 u1 u2 u3
    obtain ⟨⟨u0, u1⟩, ⟨u2, u3⟩, _, _⟩ := HU.out w11 HB11.out
    cases Q with
    | false =>
      go_wp2_with fail
      go_ret
      exact ⟨rfl, (HU.out w11 HB11.out).2.2.2⟩
    | true =>
      have hy : 0 < y := HLF.out rfl
      go_wp2_with fail
      refine (CF.out _ (HU.out w11 HB11.out).2.2.1).mono ?_
      rintro e w12 ⟨rfl, hb12⟩
      have HB12 : Hid (Below w4.heap.size w4 w12) := HB11.out.trans (hb12.mono HB11.out.size)
      clear hb12 u0 u1 u2 u3
      go_wp2_with fail
      refine (CK.out _).mono ?_
      rintro e w13 ⟨rfl, hb13⟩
      have HB13 : Hid (Below w4.heap.size w4 w13) := HB12.out.trans (hb13.mono HB12.out.size)
      clear hb13
      go_wp2_with fail
      refine (CL.out _).mono ?_
      rintro e w14 ⟨rfl, hb14⟩
      have HB14 : Hid (Below w4.heap.size w4 w14) := HB13.out.trans (hb14.mono HB13.out.size)
      clear hb14
      go_wp2_with fail
      go_ret
      exact ⟨rfl, (HU.out w14 HB14.out).2.2.2⟩
end Go.Proofs.YtnnaphfeeobeladDoor
