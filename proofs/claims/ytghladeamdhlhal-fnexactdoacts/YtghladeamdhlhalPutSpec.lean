/- A file put in its place: the other text. -/
import Derived.Test.YtghladeamdhlhalFilesLaw
import Derived.Test.YtghladeamdhlhalActPlain
import Derived.Test.YtghladeamdhlhalGather2
import Derived.Deep.RegionLaw
import Derived.Laws.Cover1
namespace Go.Proofs.Ytghladeamdhlhal
open Go.RowKit Go.Sort

theorem new4 (w : World) (a b c d : Obj) : ((((w.alloc a).alloc b).alloc c).alloc d).heap[w.heap.size]? = some a ∧ ((((w.alloc a).alloc b).alloc c).alloc d).heap[w.heap.size + 1]? = some b ∧ ((((w.alloc a).alloc b).alloc c).alloc d).heap[w.heap.size + 1 + 1]? = some c ∧ ((((w.alloc a).alloc b).alloc c).alloc d).heap[w.heap.size + 1 + 1 + 1]? = some d := by
  have h := new3 w a b c
  refine ⟨?_, ?_, ?_, ?_⟩
  · rw [Below.heap_alloc _ _ _ (by simp <;> omega)]; exact h.1
  · rw [Below.heap_alloc _ _ _ (by simp <;> omega)]; exact h.2.1
  · rw [Below.heap_alloc _ _ _ (by simp <;> omega)]; exact h.2.2
  · have := heap_alloc_new (((w.alloc a).alloc b).alloc c) d
    simpa using this

theorem bdrewN_alloc (w : World) (n : Nat) (o : Obj) : Below w.heap.size w ((w.drewN n).alloc o) := by
  have h : Below w.heap.size w (w.drewN n) := ⟨rfl, rfl, rfl, Nat.le_refl _, fun _ _ => rfl⟩
  exact h.alloc (Nat.le_refl _) o

set_option maxHeartbeats 4000000 in
theorem l03Put_any (w : World) (a : Option Addr) (cap : Nat) (L : List Fil) (f : Fil) (hL : FAt w a L w.heap.size) (hm : L.length ≤ 1048576) :
    Calls Try.prog 36 #[.agg #[.slice a L.length cap], .agg #[.string f.nm, .string f.tx, .int .i64 f.kp]] w fun e w' => ∃ v, e = .returned (.agg #[v]) ∧ OwnF w' w.heap.size 63 v (putL L f) ∧ Below w.heap.size w w' := by
  obtain ⟨wb, hwb⟩ : ∃ wb, (((w.alloc (.cells #[.slice a L.length cap] 31)).alloc (.cells #[.string f.nm, .string f.tx, .int .i64 f.kp] 63)).alloc (.cells #[.slice none 0 0] 31)).alloc (.cells #[.slice none 0 0] 31) = wb := ⟨_, rfl⟩
  have hb : Below w.heap.size w wb := by rw [← hwb]; exact ((((Below.refl w.heap.size w).alloc (Nat.le_refl _) _).alloc (by simp) _).alloc (by simp; omega) _).alloc (by simp; omega) _
  have hn4 := new4 w (.cells #[.slice a L.length cap] 31) (.cells #[.string f.nm, .string f.tx, .int .i64 f.kp] 63) (.cells #[.slice none 0 0] 31) (.cells #[.slice none 0 0] 31)
  rw [hwb] at hn4
  obtain ⟨V, hV⟩ : ∃ V, w.heap.size + 1 + 1 + 1 = V := ⟨_, rfl⟩
  have hnv := hn4.2.2.2
  rw [hV] at hnv
  have HN : Hid (wb.heap[w.heap.size]? = some (.cells #[.slice a L.length cap] 31 (0, 0)) ∧ wb.heap[w.heap.size + 1]? = some (.cells #[.string f.nm, .string f.tx, .int .i64 f.kp] 63 (0, 0)) ∧ wb.heap[w.heap.size + 1 + 1]? = some (.cells #[.slice none 0 0] 31 (0, 0))) := ⟨hn4.1, hn4.2.1, hn4.2.2.1⟩
  have HW : Hid ((((w.alloc (.cells #[.slice a L.length cap] 31)).alloc (.cells #[.string f.nm, .string f.tx, .int .i64 f.kp] 63)).alloc (.cells #[.slice none 0 0] 31)).alloc (.cells #[.slice none 0 0] 31) = wb) := hwb
  have HV : Hid (w.heap.size + 1 + 1 + 1 = V) := hV
  have HNV : Hid (wb.heap[V]? = some (.cells #[.slice none 0 0] 31 (0, 0))) := hnv
  clear hwb hn4 hnv
  go_enter Try.func36, Try.ntmps36
  go_wp2
  rw [HW.out]
  go_loopw [6] (fun i wr => Box (∃ (k : Nat) (v : Value), k ≤ L.length ∧ i = .int .i64 k ∧ (∀ j, j < V → wr.heap[j]? = wb.heap[j]?) ∧ wr.heap[V]? = some (.cells #[v] 31 (0, 0)) ∧ OwnF wr (V + 1) 63 v ((L.take k).filter (fun g => ltS g.nm f.nm)) ∧ Below w.heap.size w wr))
    (fun i _ => L.length - (intOf i).toNat)
  case atStart => exact ⟨⟨0, .slice none 0 0, by omega, rfl, fun j _ => rfl, HNV.out, OwnF.nil _ _ _, hb⟩⟩
  case round =>
    obtain ⟨k, v, hk, rfl, hold, hvar, hown, hbel⟩ := hrel.out
    have hbox := (hold w.heap.size (by have := HV.out; omega)).trans HN.out.1
    have hfil := (hold (w.heap.size + 1) (by have := HV.out; omega)).trans HN.out.2.1
    have hres := (hold (w.heap.size + 1 + 1) (by have := HV.out; omega)).trans HN.out.2.2
    have qB : wr.cell? ⟨w.heap.size, 0, none⟩ = some (.slice a L.length cap) := by simp [World.cell?, hbox]
    have xF0 : wr.cell? ⟨w.heap.size + 1, 0, none⟩ = some (.string f.nm) := by simp [World.cell?, hfil]
    have xF1 : wr.cell? ⟨w.heap.size + 1, 1, none⟩ = some (.string f.tx) := by simp [World.cell?, hfil]
    have xF2 : wr.cell? ⟨w.heap.size + 1, 2, none⟩ = some (.int .i64 f.kp) := by simp [World.cell?, hfil]
    have xV : wr.cell? ⟨V, 0, none⟩ = some v := by simp [World.cell?, hvar]
    have HLD : Hid (∀ j, j < V → wr.heap[j]? = wb.heap[j]?) := hold
    have HVR : Hid (wr.heap[V]? = some (.cells #[v] 31 (0, 0))) := hvar
    have hVr : V < wr.heap.size := (Array.getElem?_eq_some_iff.1 hvar).1
    have hlena := List.length_filter_le (fun g => ltS g.nm f.nm) L
    clear hold hvar hbox hfil hrel
    by_cases hlt : k < L.length
    · obtain ⟨g, off, rfl, hg, hc0, hc1, hc2⟩ := (hL.below hbel (Nat.le_refl _)) k hlt
      obtain ⟨x, hx⟩ : ∃ x, L[k] = x := ⟨_, rfl⟩
      rw [hx] at hc0 hc1 hc2
      have hi1 : (0 : Int) ≤ (k : Int) := by omega
      have hi2 : (k : Int) < (L.length : Int) := by omega
      have HF : Hid (L[k] = x) := hx
      have HOW : Hid (OwnF wr (V + 1) 63 v ((L.take k).filter (fun g => ltS g.nm f.nm))) := hown
      have hlenf := filter_take_len L (fun g => ltS g.nm f.nm) k
      clear hL hx hown hres
      cases he : Op.bytesLess x.nm.toList f.nm.toList with
      | false =>
        have hp : (ltS x.nm f.nm) = false := by simp [ltS, he]
        go_wp2
        go_quiet (fail)
        go_wp2
        go_roundw
        case rel =>
          try ((repeat apply Exists.intro); refine ⟨?_, rfl⟩)
          exact ⟨⟨k + 1, v, by omega, by go_num, HLD.out, HVR.out, by rw [filter_take_off (p := (fun g => ltS g.nm f.nm)) hlt HF.out hp]; exact HOW.out, hbel.trans ⟨rfl, rfl, rfl, Nat.le_refl _, fun _ _ => rfl⟩⟩⟩
        case measure => simp [intOf]; omega
      | true =>
        have hp : Hid ((ltS x.nm f.nm) = true) := by simp [ltS, he, Hid]
        go_wp2
        go_quiet (fail)
        go_wp2
        have xV3 := fun n o => kept_x_new (w := wr.drewN n) xV o
        go_region_law (refine step_snocF (by rfl) _ _ 29 (by rfl) (V + 1) 63 Try.underlying29 Try.infoFile _ ((L.take k).filter (fun g => ltS g.nm f.nm)) (by rfl) (by exact HOW.out.alloc _) wr.heap.size x (0, 0) (by rfl) (by exact heap_alloc_new wr _) (by first | omega | (simp only [List.length_append, List.length_singleton]; omega)) (by simp; omega) ?_; intro g2 cap2 w2 hown2 hgr2; have hk2 := gatheredAll (wx := wr) (hgr := hgr2) (hW := bdrewN_alloc wr _ _) HVR.out (by have := HV.out; omega) HOW.out hbel hown2; have q2 : w2.cell? ⟨V, 0, none⟩ = some v := (by simp [World.cell?, hk2.1]); have z2 : w2.frozen? ⟨V, 0, none⟩ = false := (by simp [World.frozen?, hk2.1]))
        all_goals (
          rw [← filter_take_on (p := fun g => ltS g.nm f.nm) hlt HF.out hp.out] at hk2
          have HK2 := hk2.2
          clear hk2 hown2 hgr2
          go_wp2
          refine ⟨?_, ?_⟩
          · exact ⟨⟨k + 1, _, by omega, by go_num, fun j hj => (HK2.1 j hj).trans (HLD.out j hj), HK2.2.1, HK2.2.2.1, HK2.2.2.2⟩⟩
          · simp [intOf]; omega)
    · have hke : k = L.length := by omega
      subst hke
      rw [List.take_length] at hown
      have HOW : Hid (OwnF wr (V + 1) 63 v (L.filter fun g => ltS g.nm f.nm)) := hown
      clear hown hres
      go_wp2_with (at_builtin; refine wpList_snocF rfl (.tmp 36) (.tmp 38) 29 rfl (V + 1) 63 Try.underlying29 Try.infoFile _ (L.filter fun g => ltS g.nm f.nm) rfl HOW.out f rfl (by omega) (by omega) ?_; intro g2 cap2 w2 hown2 hgr2; have hk2 := gatheredAll (wx := wr) (hgr := hgr2) (hW := (Below.refl wr.heap.size wr).alloc (Nat.le_refl _) _) HVR.out (by have := HV.out; omega) HOW.out hbel hown2; have q2 : w2.cell? ⟨V, 0, none⟩ = some v := (by simp [World.cell?, hk2.1]); have z2 : w2.frozen? ⟨V, 0, none⟩ = false := (by simp [World.frozen?, hk2.1]))
      have HK2 := hk2.2
      clear hk2 hown2 hgr2
      go_loopw [7] (fun i wr => Box (∃ (k : Nat) (v : Value), k ≤ L.length ∧ i = .int .i64 k ∧ (∀ j, j < V → wr.heap[j]? = wb.heap[j]?) ∧ wr.heap[V]? = some (.cells #[v] 31 (0, 0)) ∧ OwnF wr (V + 1) 63 v ((L.filter fun g => ltS g.nm f.nm) ++ [f] ++ (L.take k).filter (fun g => !(ltS g.nm f.nm || eqS g.nm f.nm))) ∧ Below w.heap.size w wr))
        (fun i _ => L.length - (intOf i).toNat)
      case atStart => exact ⟨⟨0, _, by omega, rfl, fun j hj => (HK2.1 j hj).trans (HLD.out j hj), HK2.2.1, by simpa using HK2.2.2.1, HK2.2.2.2⟩⟩
      case round =>
        obtain ⟨k, v, hk, rfl, hold, hvar, hown, hbel⟩ := hrel.out
        have hbox := (hold w.heap.size (by have := HV.out; omega)).trans HN.out.1
        have hfil := (hold (w.heap.size + 1) (by have := HV.out; omega)).trans HN.out.2.1
        have hres := (hold (w.heap.size + 1 + 1) (by have := HV.out; omega)).trans HN.out.2.2
        have qB : wr.cell? ⟨w.heap.size, 0, none⟩ = some (.slice a L.length cap) := by simp [World.cell?, hbox]
        have xF0 : wr.cell? ⟨w.heap.size + 1, 0, none⟩ = some (.string f.nm) := by simp [World.cell?, hfil]
        have xF1 : wr.cell? ⟨w.heap.size + 1, 1, none⟩ = some (.string f.tx) := by simp [World.cell?, hfil]
        have xF2 : wr.cell? ⟨w.heap.size + 1, 2, none⟩ = some (.int .i64 f.kp) := by simp [World.cell?, hfil]
        have xV : wr.cell? ⟨V, 0, none⟩ = some v := by simp [World.cell?, hvar]
        have HLD : Hid (∀ j, j < V → wr.heap[j]? = wb.heap[j]?) := hold
        have HVR : Hid (wr.heap[V]? = some (.cells #[v] 31 (0, 0))) := hvar
        have hVr : V < wr.heap.size := (Array.getElem?_eq_some_iff.1 hvar).1
        have hlena := List.length_filter_le (fun g => ltS g.nm f.nm) L
        clear hold hvar hbox hfil hrel
        by_cases hlt : k < L.length
        · obtain ⟨g, off, rfl, hg, hc0, hc1, hc2⟩ := (hL.below hbel (Nat.le_refl _)) k hlt
          obtain ⟨x, hx⟩ : ∃ x, L[k] = x := ⟨_, rfl⟩
          rw [hx] at hc0 hc1 hc2
          have hi1 : (0 : Int) ≤ (k : Int) := by omega
          have hi2 : (k : Int) < (L.length : Int) := by omega
          have HF : Hid (L[k] = x) := hx
          have HOW : Hid (OwnF wr (V + 1) 63 v ((L.filter fun g => ltS g.nm f.nm) ++ [f] ++ (L.take k).filter (fun g => !(ltS g.nm f.nm || eqS g.nm f.nm)))) := hown
          have hlenf := filter_take_len L (fun g => !(ltS g.nm f.nm || eqS g.nm f.nm)) k
          clear hL hx hown hres
          cases he : (Op.bytesLess x.nm.toList f.nm.toList || x.nm.toList == f.nm.toList) with
          | true =>
            have hp : (!(ltS x.nm f.nm || eqS x.nm f.nm)) = false := by simp [ltS, eqS, he]
            go_wp2
            go_quiet (fail)
            go_wp2
            go_roundw
            case rel =>
              try ((repeat apply Exists.intro); refine ⟨?_, rfl⟩)
              exact ⟨⟨k + 1, v, by omega, by go_num, HLD.out, HVR.out, by rw [filter_take_off (p := (fun g => !(ltS g.nm f.nm || eqS g.nm f.nm))) hlt HF.out hp]; exact HOW.out, hbel.trans ⟨rfl, rfl, rfl, Nat.le_refl _, fun _ _ => rfl⟩⟩⟩
            case measure => simp [intOf]; omega
          | false =>
            have hp : Hid ((!(ltS x.nm f.nm || eqS x.nm f.nm)) = true) := by simp [ltS, eqS, he, Hid]
            go_wp2
            go_quiet (fail)
            go_wp2
            have xV3 := fun n o => kept_x_new (w := wr.drewN n) xV o
            go_region_law (refine step_snocF (by rfl) _ _ 29 (by rfl) (V + 1) 63 Try.underlying29 Try.infoFile _ ((L.filter fun g => ltS g.nm f.nm) ++ [f] ++ (L.take k).filter (fun g => !(ltS g.nm f.nm || eqS g.nm f.nm))) (by rfl) (by exact HOW.out.alloc _) wr.heap.size x (0, 0) (by rfl) (by exact heap_alloc_new wr _) (by first | omega | (simp only [List.length_append, List.length_singleton]; omega)) (by simp; omega) ?_; intro g2 cap2 w2 hown2 hgr2; generalize hn2 : ((L.filter fun g => ltS g.nm f.nm) ++ [f] ++ (L.take k).filter (fun g => !(ltS g.nm f.nm || eqS g.nm f.nm))).length + 1 = n2 at hown2 ⊢; clear hn2; have hk2 := gatheredAll (wx := wr) (hgr := hgr2) (hW := bdrewN_alloc wr _ _) HVR.out (by have := HV.out; omega) HOW.out hbel hown2; have q2 : w2.cell? ⟨V, 0, none⟩ = some v := (by simp [World.cell?, hk2.1]); have z2 : w2.frozen? ⟨V, 0, none⟩ = false := (by simp [World.frozen?, hk2.1]))
            all_goals (
              have hlist : (L.filter fun g => ltS g.nm f.nm) ++ [f] ++ (L.take k).filter (fun g => !(ltS g.nm f.nm || eqS g.nm f.nm)) ++ [x] = (L.filter fun g => ltS g.nm f.nm) ++ [f] ++ (L.take (k + 1)).filter (fun g => !(ltS g.nm f.nm || eqS g.nm f.nm)) := by rw [filter_take_on (p := (fun g => !(ltS g.nm f.nm || eqS g.nm f.nm))) hlt HF.out hp.out, List.append_assoc ((L.filter fun g => ltS g.nm f.nm) ++ [f])]
              rw [hlist] at hk2
              clear hlist
              have HK2 := hk2.2
              clear hk2 hown2 hgr2
              go_wp2
              refine ⟨?_, ?_⟩
              · exact ⟨⟨k + 1, _, by omega, by go_num, fun j hj => (HK2.1 j hj).trans (HLD.out j hj), HK2.2.1, HK2.2.2.1, HK2.2.2.2⟩⟩
              · simp [intOf]; omega)
        · have hke : k = L.length := by omega
          subst hke
          rw [List.take_length] at hown
          obtain ⟨av, cv, rfl, _⟩ := hown.shape
          have qR : wr.cell? ⟨w.heap.size + 1 + 1, 0, none⟩ = some (.slice none 0 0) := by simp [World.cell?, hres]
          have zR : wr.frozen? ⟨w.heap.size + 1 + 1, 0, none⟩ = false := by simp [World.frozen?, hres]
          have HO : Hid (OwnF wr (V + 1) 63 (.slice av (putL L f).length cv) (putL L f)) := hown
          obtain ⟨n, hn⟩ : ∃ n, (putL L f).length = n := ⟨_, rfl⟩
          have xV' : wr.cell? ⟨V, 0, none⟩ = some (.slice av n cv) := by rw [← hn]; exact xV
          have q5 := cell_set_same (v := .slice av n cv) qR
          rw [hn] at HO
          clear hn hres hown xV
          go_wp2
          refine bodyPost_ret (v := .agg #[.slice av n cv]) (by simp [results, Try.results36, go_sem, q5]) rfl ⟨_, rfl, ?_, ?_⟩
          · refine (HO.out.mono (by have := HV.out; omega)).kept fun j hj => ?_
            have h1 := (HO.out.lt j hj).1
            have h2 := HV.out
            rw [heap_setCell_other _ _ _ _ (by simp; omega)]
          · exact hbel.setCell (by simp; omega) _
end Go.Proofs.Ytghladeamdhlhal
