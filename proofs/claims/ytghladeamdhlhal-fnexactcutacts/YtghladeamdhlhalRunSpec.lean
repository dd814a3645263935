/- Acts on a disk, one behind the other: the other text. -/
import Derived.Test.YtghladeamdhlhalRunPlain
import Derived.Test.YtghladeamdhlhalActSpec
import Derived.Test.YtghladeamdhlhalActs
import Derived.Test.YtghladeamdhlhalBoxes
import Derived.Test.YtghladeamdhlhalGather
import Derived.Deep.DeepCutAuto
import Derived.Deep.MidRow
import Derived.Deep.RegionLaw
namespace Go.Proofs.Ytghladeamdhlhal
open Go.RowKit Go.Sort

theorem fls_cell {w : World} {g off : Nat} {L : List Fil} {B : Nat} (h : FAt w (some ⟨g, off, none⟩) L B) : ∀ j u, (fls L)[j]? = some u → w.cell? ⟨g, off + j, none⟩ = some u := by
  intro j u hu
  have hj : j < L.length * 3 := by
    have := (List.getElem?_eq_some_iff.1 hu).1
    rwa [fls_length] at this
  have hat := fls_at L (j / 3) (by omega)
  obtain ⟨g', off', he, _, h0, h1, h2⟩ := h (j / 3) (by omega)
  simp only [Option.some.injEq, Addr.mk.injEq, and_true] at he
  obtain ⟨rfl, rfl⟩ := he
  rcases (by omega : j % 3 = 0 ∨ j % 3 = 1 ∨ j % 3 = 2) with h | h | h
  · have e : j = 3 * (j / 3) := by omega
    rw [e, hat.1] at hu
    rw [show off + j = off + j / 3 * 3 by omega, h0]
    exact hu
  · have e : j = 3 * (j / 3) + 1 := by omega
    rw [e, hat.2.1] at hu
    rw [show off + j = off + j / 3 * 3 + 1 by omega, h1]
    exact hu
  · have e : j = 3 * (j / 3) + 2 := by omega
    rw [e, hat.2.2] at hu
    rw [show off + j = off + j / 3 * 3 + 2 by omega, h2]
    exact hu

theorem fls_one' (L : List Fil) : ∀ u ∈ fls L, u.oneCell' = true := by
  intro u hu
  simp only [fls, List.mem_flatMap, Fil.cells, List.mem_cons, List.not_mem_nil, or_false] at hu
  obtain ⟨f, _, rfl | rfl | rfl⟩ := hu <;> rfl

/-- 'append(v, all...)' of files onto a slice of the call's own that holds none. -/
theorem wpList_allF {P : Program} {ops : Array Oper} {rest : List Oper} {o : Oper} {a : Act} {Q : Exit → Act → World → Prop} {w : World} (hgd : o.guard = none) (s x : Operand) (t : TypeId)
    (ho : o.op = .call { callee := .builtin .append, args := #[s, x], argTypes := #[t, t] }) (base : Nat) (e : TypeId) (ht : P.underlying t = some (.slice e))
    (hinfo : (P.info? e).map (fun i => (i.zero, i.size, i.bytes)) = some (some (.agg #[.string ⟨#[]⟩, .string ⟨#[]⟩, .int .i64 0]), 3, 40)) (E : Nat) (hs : a.eval s = .slice (some ⟨E, 0, none⟩) 0 0) (hown : OwnF w base e (.slice (some ⟨E, 0, none⟩) 0 0) [])
    (g off cap : Nat) (L : List Fil) (hx : a.eval x = .slice (some ⟨g, off, none⟩) L.length cap) (hc : ∀ j u, (fls L)[j]? = some u → w.cell? ⟨g, off + j, none⟩ = some u) (hlen : L.length ≤ 1048576) (hpos : 0 < L.length) (hbase : base ≤ w.heap.size)
    (h : ∀ g' cap' w', OwnF w' base e (.slice (some ⟨g', 0, none⟩) L.length cap') L → w.grownBy w' (some E) → wpList P ops Q rest (a.put o.dst (.slice (some ⟨g', 0, none⟩) L.length cap')) w') :
    wpList P ops Q (o :: rest) a w := by
  obtain ⟨i0, hi, hz0, hz1, hz2⟩ := info_parts hinfo
  refine wpList_append_own _ hgd s x t ho base e i0 _ 3 40 ht hi hz0 hz1 hz2 rfl (by decide) _ 0 [] hs hown ⟨g, off, none⟩ L.length cap (fls L) hx (fls_length L) (fun j u hu => by rw [Addr.add_mid]; exact hc j u hu) (fls_one' L) (by unfold maxLen; omega) (by omega) hbase ?_
  intro v' w' h1 h2 _
  have ho' : OwnF w' base e v' L := by
    unfold OwnF
    simpa using h1
  obtain ⟨a', cap', rfl, _⟩ := ho'.shape
  obtain ⟨g', rfl, _⟩ := ho'.addr hpos
  exact h g' cap' w' ho' h2

set_option maxRecDepth 100000 in
set_option maxHeartbeats 4000000 in
theorem specDoActs_any (w : World) (a : Option Addr) (cap : Nat) (L : List Fil) (b : Option Addr) (capb : Nat) (As : List Ac) (hL : FAt w a L w.heap.size) (hA : AAt w b As w.heap.size) (hm : L.length ≤ 1048576) (hw : awg As ≤ 1048576) (hml : As.length ≤ 1048576) :
    Calls Try.prog 18 #[.agg #[.slice a L.length cap], .slice b As.length capb] w fun e w' => ∃ v, e = .returned (.tuple #[.agg #[v], .int .i64 ((runL L As).2 : Nat)]) ∧ OwnF w' w.heap.size 63 v (runL L As).1 ∧ Below w.heap.size w w' := by
  obtain ⟨wb, hwb⟩ : ∃ wb, (w.alloc (.cells #[.slice a L.length cap] 31)).alloc (.cells #[.slice none 0 0] 31) = wb := ⟨_, rfl⟩
  have hb : Below w.heap.size w wb := by rw [← hwb]; exact ((Below.refl _ w).alloc (Nat.le_refl _) _).alloc (by simp) _
  have HS : Hid (wb.heap.size = w.heap.size + 1 + 1) := by show _ = _; rw [← hwb]; simp
  have hLb : FAt wb a L wb.heap.size := hL.on hb
  have hAb : AAt wb b As wb.heap.size := hA.on hb
  have hres : wb.heap[w.heap.size + 1]? = some (.cells #[.slice none 0 0] 31 (0, 0)) := by
    rw [← hwb]
    have := heap_alloc_new (w.alloc (.cells #[.slice a L.length cap] 31)) (.cells #[.slice none 0 0] 31)
    simpa using this
  have q0 : wb.cell? ⟨w.heap.size, 0, none⟩ = some (.slice a L.length cap) := by rw [← hwb]; simp
  have HW : Hid ((w.alloc (.cells #[.slice a L.length cap] 31)).alloc (.cells #[.slice none 0 0] 31) = wb) := hwb
  have HC : Hid (∀ wi, Below wb.heap.size wb wi → wi.cell? ⟨w.heap.size + 1, 0, none⟩ = some (.slice none 0 0) ∧ wi.frozen? ⟨w.heap.size + 1, 0, none⟩ = false ∧ AAt wi b As wi.heap.size ∧ Below w.heap.size w wi ∧ w.heap.size + 1 + 1 ≤ wi.heap.size) := by
    intro wi hi
    have hs := HS.out
    have e1 := (hi.block (w.heap.size + 1) (by omega)).trans hres
    exact ⟨by simp [World.cell?, e1], by simp [World.frozen?, e1], hAb.on hi, bthen hb hi, by have := hi.size; omega⟩
  clear hwb hL hA hres hAb hb
  go_enter Try.func18, Try.ntmps18
  go_upto_region 1 with fail
  rw [HW.out]
  go_cut [6] (fun p wc => ∃ (O : Nat) (y : Option Addr) (cy : Nat), p = .pointer (some ⟨O, 0, none⟩) ∧ DBox wc O (.slice y L.length cy) ∧ OwnF wc wb.heap.size 63 (.slice y L.length cy) L ∧ wb.heap.size ≤ O ∧ Below wb.heap.size wb wc)
  case first =>
    have h1 := heap_alloc_new wb (.cells #[] 63)
    have hb1 : Below wb.heap.size wb (wb.alloc (.cells #[] 63)) := bplus (Below.refl _ _) _
    have hemp : OwnF (wb.alloc (.cells #[] 63)) wb.heap.size 63 (.slice (some ⟨wb.heap.size, 0, none⟩) 0 0) [] := ⟨rfl, .inr ⟨wb.heap.size, 0, #[], rfl, Nat.le_refl _, h1, Nat.le_refl _, by simp [maxLen], by simp, rfl⟩⟩
    have q1 := kept_x_new q0 (.cells #[] 63)
    by_cases hne : L = []
    · subst hne
      cases a with
      | none =>
        go_wp2
        go_meet
        refine ⟨wb.heap.size + 1, _, _, rfl, ?_, hemp.alloc _, by omega, bplus hb1 _⟩
        have := DBox.new (wb.alloc (.cells #[] 63)) (.slice (some ⟨wb.heap.size, 0, none⟩) 0 0)
        simpa using this
      | some ad =>
        go_wp2
        go_meet
        refine ⟨wb.heap.size + 1, _, _, rfl, ?_, hemp.alloc _, by omega, bplus hb1 _⟩
        have := DBox.new (wb.alloc (.cells #[] 63)) (.slice (some ⟨wb.heap.size, 0, none⟩) 0 0)
        simpa using this
    · have hpos : 0 < L.length := List.length_pos_iff.2 hne
      obtain ⟨g, off, rfl, _⟩ := hLb 0 hpos
      have hcells := fls_cell (hLb.on hb1)
      go_wp2_with (at_builtin; refine wpList_allF rfl (.tmp 10) (.tmp 12) 29 rfl wb.heap.size 63 Try.underlying29 Try.infoFile wb.heap.size rfl hemp g off cap L rfl hcells hm hpos (by simp) ?_; intro g4 cap4 w4 hown4 hgr4)
      go_meet
      have hb4 : Below wb.heap.size wb w4 := hb1.grown hgr4 (by simp) (fun k e => by cases e; exact Nat.le_refl _)
      exact ⟨_, _, _, rfl, DBox.new _ _, hown4.alloc _, hb4.size, bplus hb4 _⟩
  case rest =>
    obtain ⟨O, y0, cy0, rfl, hO0, ho0, hOl, hb0⟩ := hcut
    clear q0 hLb
    go_wp2
    go_loopw [7] (fun i wr => Box (∃ (k : Nat) (Lk : List Fil) (y : Option Addr) (cy : Nat), k ≤ As.length ∧ i = .int .i64 k ∧ Hid (Went L As k Lk) ∧ Lk.length ≤ 1048576 ∧ DBox wr O (.slice y Lk.length cy) ∧ OwnF wr wb.heap.size 63 (.slice y Lk.length cy) Lk ∧ Below wb.heap.size wb wr))
      (fun i _ => As.length - (intOf i).toNat)
    case atStart => exact ⟨⟨0, L, y0, cy0, by omega, rfl, Went.start L As, hm, hO0, ho0, hb0⟩⟩
    case round =>
      obtain ⟨k, Lk, y, cy, hk, rfl, HWt, hLk, hO, ho, hbel⟩ := hrel.out
      clear hrel hO0 ho0 hb0
      obtain ⟨r1, rz1, hAr, hBr, hsr⟩ := HC.out wr hbel
      have cO := hO.cell
      by_cases hlt : k < As.length
      · obtain ⟨g, off, rfl, hg, hc0, hc1, hc2, hc3⟩ := hAr k hlt
        have hsz := awg_mem hlt
        have HST : Hid (∀ X, ac Lk As[k] = some X → Went L As (k + 1) X) := fun X h => HWt.out.step hlt h
        have HFL : Hid (ac Lk As[k] = none → runL L As = (Lk, k)) := fun h => HWt.out.fail hlt h
        obtain ⟨A, hAk⟩ : ∃ A, As[k] = A := ⟨_, rfl⟩
        rw [hAk] at hc0 hc1 hc2 hc3 hsz HST HFL
        have htx : A.tx.size ≤ 1048576 := by have : A.wg = A.nm.size + A.tx.size + A.to.size := rfl; omega
        have hXl : ((ac Lk A).getD []).length ≤ 1048576 := by
          cases h : ac Lk A with
          | none => simp
          | some X => have := dOk_len (ac_dOk h); simp; omega
        clear hAk HWt
        have hi1 : (0 : Int) ≤ (k : Int) := by omega
        have hi2 : (k : Int) < (As.length : Int) := by omega
        have cOz := kept_x_new cO (.cells #[.slice none 0 0] 31)
        have hz0 := kept_x_new hc0 (.cells #[.slice none 0 0] 31)
        have hz1 := kept_x_new hc1 (.cells #[.slice none 0 0] 31)
        have hz2 := kept_x_new hc2 (.cells #[.slice none 0 0] 31)
        have hz3 := kept_x_new hc3 (.cells #[.slice none 0 0] 31)
        have hFk : FAt wr y Lk wr.heap.size := by
          obtain ⟨y', cy', e, hA'⟩ := ho.at
          simp at e
          rw [e.1]
          exact hA'
        obtain ⟨ok, hok⟩ : ∃ ok, (ac Lk A).isSome = ok := ⟨_, rfl⟩
        obtain ⟨X, hX⟩ : ∃ X, (ac Lk A).getD [] = X := ⟨_, rfl⟩
        have CS : Hid (∀ wi : World, Below wr.heap.size wr wi → Calls Try.prog 10 #[.agg #[.slice y Lk.length cy], .agg #[.int .i64 A.kd, .string A.nm, .string A.tx, .string A.to]] wi fun e w' => ∃ u cu, e = .returned (.tuple #[.agg #[.slice u X.length cu], .bool ok]) ∧ OwnF w' wi.heap.size 63 (.slice u X.length cu) X ∧ Below wi.heap.size wi w') := by
          intro wi hi
          refine (specDoAct_any wi y cy Lk A.kd A.nm A.tx A.to (hFk.on hi) hLk htx).mono ?_
          rintro e w' ⟨v, he, ho', hb'⟩
          rw [show (⟨A.kd, A.nm, A.tx, A.to⟩ : Ac) = A from rfl, spA_ac] at he ho'
          rw [hX] at ho'
          rw [hok] at he
          obtain ⟨u, cu, rfl, _⟩ := ho'.shape
          exact ⟨u, cu, he, ho', hb'⟩
        have HOK : Hid ((ac Lk A).isSome = ok) := hok
        have HXX : Hid ((ac Lk A).getD [] = X) := hX
        have hdr : Below wr.heap.size wr wr.drew := ⟨rfl, rfl, rfl, Nat.le_refl _, fun _ _ => rfl⟩
        rw [hX] at hXl
        clear hX hok hFk hAr
        go_wp2_with fail
        go_cut [8, 9] from 15 to 34 (fun p okv wc => ∃ (N0 : Nat) (u : Option Addr) (cu : Nat), p = .pointer (some ⟨N0, 0, none⟩) ∧ okv = .bool ok ∧ DBox wc N0 (.slice u X.length cu) ∧ OwnF wc wr.heap.size 63 (.slice u X.length cu) X ∧ wr.heap.size ≤ N0 ∧ Below wr.heap.size wr wc)
        case first =>
          go_region_law (go_simp; go_at_call 10; first
            | (refine (CS.out wr.drew hdr).mono ?_; rintro e wC ⟨u, cu, rfl, hoC, hbC⟩; have hC1 := bthen hdr hbC; have hoC' := hoC.mono hdr.size; clear hoC hbC)
            | (refine (CS.out (wr.drew.alloc (.cells #[.slice none 0 0] 31)) (bplus hdr _)).mono ?_; rintro e wC ⟨u, cu, rfl, hoC, hbC⟩; have hz : DBox wC wr.heap.size (.slice none 0 0) := (DBox.new wr.drew (.slice none 0 0)).on hbC; have hC1 := bthen (bplus hdr _) hbC; have hoC' := hoC.mono (bplus hdr _).size; have qz := hz.cell; have zz := hz.thaw; clear hoC hbC))
          all_goals go_wp2_with fail
          all_goals go_meet
          all_goals first
            | exact ⟨_, u, cu, rfl, rfl, hz.set _, hoC'.setBox hz, by simp, hC1.setCell (by simp) _⟩
            | exact ⟨_, u, cu, rfl, rfl, DBox.new _ _, hoC'.alloc _, hC1.size, bplus hC1 _⟩
            | trace_state
        case rest =>
          obtain ⟨N0, u, cu, rfl, rfl, hN, hoN, hNl, hbN⟩ := hcut
          have hON := hO.on hbN
          have cON := hON.cell
          have zON := hON.thaw
          have cN := hN.cell
          have hbb := bthen hbel hbN
          obtain ⟨s1, sz1, _, hBs, hss⟩ := HC.out wc hbb
          have hoW := ho.below hbN (Nat.le_refl _)
          clear cO cOz hc0 hc1 hc2 hc3 hz0 hz1 hz2 hz3 r1 rz1 hdr
          cases hac : ac Lk A with
          | none =>
            have hok2 := HOK.out
            rw [hac] at hok2
            simp at hok2
            have HN : Hid (runL L As = (Lk, k)) := HFL.out hac
            have HO : Hid (OwnF wc wb.heap.size 63 (.slice y Lk.length cy) Lk) := hoW
            have q5 := cell_set_same (v := .slice y Lk.length cy) s1
            rw [hok2]
            clear hac hok2 HFL HST hoN hoW ho hO hON hN
            go_wp2
            refine bodyPost_ret (v := .tuple #[.agg #[.slice y Lk.length cy], .int .i64 (k : Int)]) (by simp [results, Try.results18, go_sem, q5]) rfl ⟨_, by rw [HN.out], ?_, ?_⟩
            · rw [HN.out]
              refine (HO.out.mono (by have := HS.out; omega)).kept fun j hj => ?_
              have := (HO.out.lt j hj).1
              have := HS.out
              rw [heap_setCell_other _ _ _ _ (by simp; omega)]
            · exact hBs.setCell (by simp) _
          | some X' =>
            have hok2 := HOK.out
            have hX2 := HXX.out
            rw [hac] at hok2 hX2
            simp at hok2 hX2
            subst hX2
            have HN : Hid (Went L As (k + 1) X') := HST.out X' hac
            have HB2 : Hid (DBox (wc.setCell ⟨O, 0, none⟩ (.slice u X'.length cu)) O (.slice u X'.length cu)) := hON.set _
            have HO2 : Hid (OwnF (wc.setCell ⟨O, 0, none⟩ (.slice u X'.length cu)) wb.heap.size 63 (.slice u X'.length cu) X') := (hoN.mono hbel.size).setBox hON
            have HB3 : Hid (Below wb.heap.size wb (wc.setCell ⟨O, 0, none⟩ (.slice u X'.length cu))) := hbb.setCell (by simpa using hOl) _
            rw [hok2]
            clear hac hok2 HFL HST hoN hoW ho hO hON hN
            go_wp2
            go_roundw
            case rel =>
              try ((repeat apply Exists.intro); refine ⟨?_, rfl⟩)
              exact ⟨⟨k + 1, X', u, cu, by omega, by go_num, HN, hXl, HB2.out, HO2.out, HB3.out⟩⟩
            case measure => simp [intOf]; omega
      · have hke : k = As.length := by omega
        subst hke
        have HN : Hid (runL L As = (Lk, As.length)) := HWt.out.done
        have HO : Hid (OwnF wr wb.heap.size 63 (.slice y Lk.length cy) Lk) := ho
        have q5 := cell_set_same (v := .slice y Lk.length cy) r1
        clear HWt ho hO hAr
        go_wp2
        refine bodyPost_ret (v := .tuple #[.agg #[.slice y Lk.length cy], .int .i64 (As.length : Int)]) (by simp [results, Try.results18, go_sem, q5]) rfl ⟨_, by rw [HN.out], ?_, ?_⟩
        · rw [HN.out]
          refine (HO.out.mono (by have := HS.out; omega)).kept fun j hj => ?_
          have := (HO.out.lt j hj).1
          have := HS.out
          rw [heap_setCell_other _ _ _ _ (by simp; omega)]
        · exact hBr.setCell (by simp) _
end Go.Proofs.Ytghladeamdhlhal
