/- The walks over cells: the other text. -/
import Derived.Test.YtockgojdmaladabInts
import Derived.Test.YtockgojdmaladabCellPlain
import Derived.Deep.DeepCutAuto
import Derived.Deep.MidRow
import Derived.Deep.RegionLaw
namespace Go.Proofs.Ytockgojdmaladab
open Go.RowKit Go.Sort

theorem inN_place (l : List Int) (p : Int) : inN p 0 ((l.length : Int) - 1) = inC l p := by
  unfold inN inC
  by_cases h : 0 ≤ p ∧ p < (l.length : Int)
  · rw [decide_eq_true h, decide_eq_true (by omega)]
  · rw [decide_eq_false h, decide_eq_false (by omega)]
theorem inN_number (n : Int) : inN n 0 1000000000 = nOkC n := rfl

theorem ints_one' (l : List Int) : ∀ u ∈ ints l, u.oneCell' = true := by
  intro u hu
  simp only [ints, List.mem_map] at hu
  obtain ⟨x, _, rfl⟩ := hu
  rfl

/-- 'append(v, all...)' of numbers onto a slice of the call's own that holds none. -/
theorem wpList_allI {P : Program} {ops : Array Oper} {rest : List Oper} {o : Oper} {a : Act} {Q : Exit → Act → World → Prop} {w : World} (hgd : o.guard = none) (s x : Operand) (t : TypeId)
    (ho : o.op = .call { callee := .builtin .append, args := #[s, x], argTypes := #[t, t] }) (base : Nat) (e : TypeId) (ht : P.underlying t = some (.slice e))
    (hinfo : (P.info? e).map (fun i => (i.zero, i.size, i.bytes)) = some (some (.int .i64 0), 1, 8)) (E : Nat) (hs : a.eval s = .slice (some ⟨E, 0, none⟩) 0 0) (hown : OwnV w base e (.slice (some ⟨E, 0, none⟩) 0 0) [])
    (ad : Addr) (cap : Nat) (l : List Int) (B : Nat) (hx : a.eval x = .slice (some ad) l.length cap) (hI : IAt w (some ad) l B) (hlen : l.length ≤ 1048576) (hbase : base ≤ w.heap.size)
    (h : ∀ v' w', OwnV w' base e v' (ints l) → w.grownBy w' (some E) → wpList P ops Q rest (a.put o.dst v') w') :
    wpList P ops Q (o :: rest) a w := by
  obtain ⟨i0, hi, hz0, hz1, hz2⟩ := info_parts hinfo
  refine wpList_append_own _ hgd s x t ho base e i0 _ 1 8 ht hi hz0 hz1 hz2 rfl (by decide) _ 0 [] hs hown ad l.length cap (ints l) hx (by rw [ints_length, Nat.mul_one]) ?_ (ints_one' l) (by unfold maxLen; omega) (by omega) hbase ?_
  · intro j u hu
    obtain ⟨hj, hu'⟩ := List.getElem?_eq_some_iff.1 hu
    have hj' : j < l.length := by rw [ints_length] at hj; exact hj
    obtain ⟨g, off, ha, _, hc⟩ := hI j hj'
    simp only [Option.some.injEq] at ha
    subst ha
    rw [Addr.add_mid, hc, ← hu', ints_at hj']
  · intro v' w' h1 h2 _
    exact h v' w' (by unfold OwnV; rw [ints_length]; simpa using h1) h2

theorem IAt.alloc {w : World} {a : Option Addr} {l : List Int} (h : IAt w a l w.heap.size) (o : Obj) : IAt (w.alloc o) a l (w.alloc o).heap.size := h.on ((Below.refl _ _).alloc (Nat.le_refl _) o)
theorem IAt.none_nil {w : World} {l : List Int} {B : Nat} (h : IAt w none l B) : l = [] := by
  cases l with
  | nil => rfl
  | cons x r => obtain ⟨g, off, ha, _⟩ := h 0 (by simp); simp at ha
theorem own_empty (w : World) : OwnV (w.alloc (.cells #[] 3)) w.heap.size 3 (.slice (some ⟨w.heap.size, 0, none⟩) 0 0) [] := ⟨rfl, .inr ⟨w.heap.size, 0, #[], rfl, Nat.le_refl _, heap_alloc_new _ _, Nat.le_refl _, by simp [maxLen], by simp, rfl⟩⟩

/-- A store into numbers of one's own. -/
theorem own_seti {w : World} {base : Nat} {e : TypeId} {v : Value} {l : List Int} (h : OwnV w base e v (ints l)) {k : Nat} (hk : k < l.length) (z : Int) :
    ∃ g cap, v = .slice (some ⟨g, 0, none⟩) l.length cap ∧ w.cell? ⟨g, k, none⟩ = some (.int .i64 l[k]) ∧ w.frozen? ⟨g, k, none⟩ = false ∧ base ≤ g ∧
      OwnV (w.setCell ⟨g, k, none⟩ (.int .i64 z)) base e v (ints (l.set k z)) := by
  obtain ⟨a, cap, hv, hc⟩ := h.shape
  rw [ints_length] at hv
  obtain ⟨g, ha, hcell, hfr, hb, _⟩ := hc k (by rw [ints_length]; exact hk)
  rw [ints_at hk] at hcell
  subst ha
  subst hv
  refine ⟨g, cap, rfl, hcell, hfr, hb, ?_⟩
  have hs := (h.stored (by rw [ints_length]) k (.int .i64 z)).1
  have e2 : (ints l).set k (.int .i64 z) = ints (l.set k z) := by simp [ints, List.map_set]
  rw [e2] at hs
  exact hs

set_option maxHeartbeats 2000000 in
theorem specStore_any (w : World) (a : Option Addr) (cap : Nat) (l : List Int) (p n : Int) (hL : IAt w a l w.heap.size) (hm : l.length ≤ 1048576) :
    Calls Try.prog 63 #[.slice a l.length cap, .int .i64 p, .int .i64 n] w fun e w' => ∃ v, e = .returned (.tuple #[v, .bool (stC l p n).2]) ∧ OwnV w' w.heap.size 3 v (ints (stC l p n).1) ∧ Below w.heap.size w w' := by
  go_enter Try.func63, Try.ntmps63
  go_upto_region 1 with fail
  go_cut [8] (fun v wc => OwnV wc w.heap.size 3 v (ints l) ∧ Below w.heap.size w wc)
  case first =>
    have hb1 : Below w.heap.size w (w.alloc (.cells #[] 3)) := (Below.refl _ _).alloc (Nat.le_refl _) _
    cases a with
    | none =>
      have := hL.none_nil
      subst this
      go_wp2
      go_meet
      exact ⟨own_empty w, hb1⟩
    | some ad =>
      go_wp2_with (at_builtin; refine wpList_allI rfl (.tmp 9) (.tmp 10) 24 rfl w.heap.size 3 Try.underlying24 Try.infoInt w.heap.size rfl (own_empty w) ad cap l _ rfl (hL.alloc _) hm (by simp) ?_; intro v4 w4 hown4 hgr4)
      go_meet
      exact ⟨hown4, hb1.grown hgr4 (by simp) (fun k e => by cases e; exact Nat.le_refl _)⟩
  case rest =>
    obtain ⟨ho, hb⟩ := hcut
    clear hL
    have c1 := in_any p 0 ((l.length : Int) - 1) wc
    have c2 := in_any n 0 1000000000 wc
    rw [inN_place] at c1
    rw [inN_number] at c2
    cases hp : inC l p with
    | false =>
      rw [hp] at c1
      have HP : Hid (stC l p n = (l, false)) := by show _ = _; simp [stC, hp]
      go_wp2_with fail
      refine c1.mono ?_
      rintro e w1 ⟨rfl, rfl⟩
      go_wp2
      go_ret2
      rw [HP.out]
      exact ⟨_, rfl, ho, hb⟩
    | true =>
      rw [hp] at c1
      have hpp := inC_iff.1 hp
      obtain ⟨k, rfl⟩ : ∃ k : Nat, p = k := ⟨p.toNat, by omega⟩
      have hk : k < l.length := by omega
      cases hn : nOkC n with
      | false =>
        rw [hn] at c2
        have HP : Hid (stC l k n = (l, false)) := stC_bad hn
        clear hpp
        go_wp2_with fail
        refine c1.mono ?_
        rintro e w1 ⟨rfl, rfl⟩
        go_wp2_with fail
        refine c2.mono ?_
        rintro e w1 ⟨rfl, rfl⟩
        go_wp2
        go_ret2
        rw [HP.out]
        exact ⟨_, rfl, ho, hb⟩
      | true =>
        rw [hn] at c2
        have HP : Hid (stC l k n = (l.set k n, true)) := stC_in hk hn
        obtain ⟨g, cp, hv, hcell, hfr, hgb, hset⟩ := own_seti ho hk n
        rw [hv] at hset ho
        have hb2 := hb.setCell (p := ⟨g, k, none⟩) hgb (.int .i64 n)
        have HS : Hid (OwnV (wc.setCell ⟨g, k, none⟩ (.int .i64 n)) w.heap.size 3 (.slice (some ⟨g, 0, none⟩) l.length cp) (ints (l.set k n)) ∧ Below w.heap.size w (wc.setCell ⟨g, k, none⟩ (.int .i64 n))) := ⟨hset, hb2⟩
        have hi1 : (0 : Int) ≤ (k : Int) := by omega
        have hi2 : (k : Int) < (l.length : Int) := by omega
        subst hv
        clear ho hset hb2 hpp hgb hb
        go_wp2_with fail
        refine c1.mono ?_
        rintro e w1 ⟨rfl, rfl⟩
        go_wp2_with fail
        refine c2.mono ?_
        rintro e w1 ⟨rfl, rfl⟩
        go_wp2
        go_ret2
        rw [HP.out]
        exact ⟨.slice (some ⟨g, 0, none⟩) l.length cp, rfl, HS.out.1, HS.out.2⟩
set_option maxHeartbeats 1000000 in
theorem specLoad_any (w : World) (a : Option Addr) (cap : Nat) (l : List Int) (p : Int) (hL : IAt w a l w.heap.size) (hm : l.length ≤ 1048576) :
    Calls Try.prog 62 #[.slice a l.length cap, .int .i64 p] w fun e w' => e = .returned (.tuple #[.int .i64 (ldC l p).1, .bool (ldC l p).2]) ∧ w' = w := by
  have c1 := in_any p 0 ((l.length : Int) - 1) w
  rw [inN_place] at c1
  cases hp : inC l p with
  | false =>
    rw [hp] at c1
    have HP : Hid (ldC l p = (0, false)) := by show _ = _; simp [ldC, hp]
    clear hL
    go_enter Try.func62, Try.ntmps62
    go_wp2_with fail
    refine c1.mono ?_
    rintro e w1 ⟨rfl, rfl⟩
    go_wp2
    go_ret2
    rw [HP.out]
    exact ⟨rfl, rfl⟩
  | true =>
    rw [hp] at c1
    have hpp := inC_iff.1 hp
    obtain ⟨k, rfl⟩ : ∃ k : Nat, p = k := ⟨p.toNat, by omega⟩
    have hk : k < l.length := by omega
    obtain ⟨g, off, rfl, _, hc⟩ := hL k hk
    obtain ⟨x, hx⟩ : ∃ x, l[k] = x := ⟨_, rfl⟩
    have HP : Hid (ldC l k = (x, true)) := by show _ = _; rw [ldC_in hk, ← hx]; simp [List.getD, hk]
    rw [hx] at hc
    have hi1 : (0 : Int) ≤ (k : Int) := by omega
    have hi2 : (k : Int) < (l.length : Int) := by omega
    clear hx hL hpp
    go_enter Try.func62, Try.ntmps62
    go_wp2_with fail
    refine c1.mono ?_
    rintro e w1 ⟨rfl, rfl⟩
    go_wp2
    go_ret2
    rw [HP.out]
    exact ⟨rfl, rfl⟩
theorem swC_load (l : List Int) (p o n : Int) : swC l p o n = if (ldC l p).2 && decide ((ldC l p).1 = o) then stC l p n else (l, false) := by
  unfold swC ldC stC
  cases h1 : inC l p <;> cases h2 : nOkC n <;> simp

set_option maxHeartbeats 2000000 in
theorem specSwap_any (w : World) (a : Option Addr) (cap : Nat) (l : List Int) (p o n : Int) (hL : IAt w a l w.heap.size) (hm : l.length ≤ 1048576) :
    Calls Try.prog 21 #[.slice a l.length cap, .int .i64 p, .int .i64 o, .int .i64 n] w fun e w' => ∃ v, e = .returned (.tuple #[v, .bool (swC l p o n).2]) ∧ OwnV w' w.heap.size 3 v (ints (swC l p o n).1) ∧ Below w.heap.size w w' := by
  have c1 := specLoad_any w a cap l p hL hm
  have c2 := specStore_any w a cap l p n hL hm
  have HC : Hid (swC l p o n = if (ldC l p).2 && decide ((ldC l p).1 = o) then stC l p n else (l, false)) := swC_load l p o n
  obtain ⟨x, hx⟩ : ∃ x, (ldC l p).1 = x := ⟨_, rfl⟩
  obtain ⟨b, hb⟩ : ∃ b, (ldC l p).2 = b := ⟨_, rfl⟩
  rw [hx, hb] at c1 HC
  clear hx hb
  by_cases hgo : b = true ∧ x = o
  · obtain ⟨rfl, rfl⟩ := hgo
    have HP : Hid (swC l p x n = stC l p n) := by show _ = _; rw [HC.out]; simp
    clear HC hL
    go_enter Try.func21, Try.ntmps21
    go_wp2_with fail
    refine c1.mono ?_
    rintro e w1 ⟨rfl, rfl⟩
    go_wp2_with fail
    refine c2.mono ?_
    rintro e w2 ⟨v, rfl, ho, hb⟩
    go_wp2
    go_ret2
    rw [HP.out]
    exact ⟨v, rfl, ho, hb⟩
  · have HP : Hid (swC l p o n = (l, false)) := by
      show _ = _
      rw [HC.out]
      cases b with
      | false => simp
      | true =>
        have : ¬ x = o := fun e => hgo ⟨rfl, e⟩
        simp [this]
    have hT : (!b || !decide (x = o)) = true := by
      cases b with
      | false => rfl
      | true =>
        have : ¬ x = o := fun e => hgo ⟨rfl, e⟩
        simp [this]
    clear HC c2
    go_enter Try.func21, Try.ntmps21
    go_wp2_with fail
    refine c1.mono ?_
    rintro e w1 ⟨rfl, rfl⟩
    clear c1
    cases b with
    | false =>
      cases a with
      | none =>
        have := hL.none_nil
        subst this
        go_wp2
        go_ret2
        rw [HP.out]
        exact ⟨_, rfl, own_empty w1, (Below.refl _ _).alloc (Nat.le_refl _) _⟩
      | some ad =>
        go_wp2_with (at_builtin; refine wpList_allI rfl (.tmp 25) (.tmp 26) 24 rfl w1.heap.size 3 Try.underlying24 Try.infoInt w1.heap.size rfl (own_empty w1) ad cap l _ rfl (hL.alloc _) hm (by simp) ?_; intro v4 w4 hown4 hgr4)
        go_ret2
        rw [HP.out]
        exact ⟨_, rfl, hown4, ((Below.refl w1.heap.size w1).alloc (Nat.le_refl _) (.cells #[] 3)).grown hgr4 (by simp) (fun k e => by cases e; exact Nat.le_refl _)⟩
    | true =>
      have hne : ¬ x = o := fun e => hgo ⟨rfl, e⟩
      clear hgo hT
      cases a with
      | none =>
        have := hL.none_nil
        subst this
        go_wp2
        go_ret2
        rw [HP.out]
        exact ⟨_, rfl, own_empty w1, (Below.refl _ _).alloc (Nat.le_refl _) _⟩
      | some ad =>
        go_wp2_with (at_builtin; refine wpList_allI rfl (.tmp 25) (.tmp 26) 24 rfl w1.heap.size 3 Try.underlying24 Try.infoInt w1.heap.size rfl (own_empty w1) ad cap l _ rfl (hL.alloc _) hm (by simp) ?_; intro v4 w4 hown4 hgr4)
        go_ret2
        rw [HP.out]
        exact ⟨_, rfl, hown4, ((Below.refl w1.heap.size w1).alloc (Nat.le_refl _) (.cells #[] 3)).grown hgr4 (by simp) (fun k e => by cases e; exact Nat.le_refl _)⟩
theorem round_three (x n : Int) : ((x.tmod 1000000001 + n.tmod 1000000001).tmod 1000000001 < 0 ∧ (x.tmod 1000000001 + n.tmod 1000000001).tmod 1000000001 + 1000000001 = (x + n) % 1000000001 ∧ -1000000001 < (x.tmod 1000000001 + n.tmod 1000000001).tmod 1000000001) ∨
    (0 ≤ (x.tmod 1000000001 + n.tmod 1000000001).tmod 1000000001 ∧ (x.tmod 1000000001 + n.tmod 1000000001).tmod 1000000001 = (x + n) % 1000000001) := by
  rcases tmod_cases x with ⟨_, h⟩ | ⟨_, h⟩ <;> rcases tmod_cases n with ⟨_, h2⟩ | ⟨_, h2⟩ <;> rcases tmod_cases (x.tmod 1000000001 + n.tmod 1000000001) with ⟨_, h3⟩ | ⟨_, h3⟩ <;> omega
theorem round_two (x n : Int) : wrap64 (x.tmod 1000000001 + n.tmod 1000000001) = x.tmod 1000000001 + n.tmod 1000000001 := by
  rcases tmod_cases x with ⟨_, h⟩ | ⟨_, h⟩ <;> rcases tmod_cases n with ⟨_, h2⟩ | ⟨_, h2⟩ <;> unfold wrap64 <;> omega

set_option maxHeartbeats 2000000 in
theorem specAdd_any (w : World) (a : Option Addr) (cap : Nat) (l : List Int) (p n : Int) (hL : IAt w a l w.heap.size) (hm : l.length ≤ 1048576) :
    Calls Try.prog 19 #[.slice a l.length cap, .int .i64 p, .int .i64 n] w fun e w' => ∃ v, e = .returned (.tuple #[v, .int .i64 (adC l p n).2]) ∧ OwnV w' w.heap.size 3 v (ints (adC l p n).1) ∧ Below w.heap.size w w' := by
  go_enter Try.func19, Try.ntmps19
  go_upto_region 1 with fail
  go_cut [8] (fun v wc => OwnV wc w.heap.size 3 v (ints l) ∧ Below w.heap.size w wc)
  case first =>
    have hb1 : Below w.heap.size w (w.alloc (.cells #[] 3)) := (Below.refl _ _).alloc (Nat.le_refl _) _
    cases a with
    | none =>
      have := hL.none_nil
      subst this
      go_wp2
      go_meet
      exact ⟨own_empty w, hb1⟩
    | some ad =>
      go_wp2_with (at_builtin; refine wpList_allI rfl (.tmp 11) (.tmp 12) 24 rfl w.heap.size 3 Try.underlying24 Try.infoInt w.heap.size rfl (own_empty w) ad cap l _ rfl (hL.alloc _) hm (by simp) ?_; intro v4 w4 hown4 hgr4)
      go_meet
      exact ⟨hown4, hb1.grown hgr4 (by simp) (fun k e => by cases e; exact Nat.le_refl _)⟩
  case rest =>
    obtain ⟨ho, hb⟩ := hcut
    have c1 := in_any p 0 ((l.length : Int) - 1) wc
    rw [inN_place] at c1
    cases hp : inC l p with
    | false =>
      rw [hp] at c1
      have HP : Hid (adC l p n = (l, 0)) := by show _ = _; simp [adC, hp]
      clear hL
      go_wp2_with fail
      refine c1.mono ?_
      rintro e w1 ⟨rfl, rfl⟩
      go_wp2
      go_ret2
      rw [HP.out]
      exact ⟨_, rfl, ho, hb⟩
    | true =>
      rw [hp] at c1
      have hpp := inC_iff.1 hp
      obtain ⟨k, rfl⟩ : ∃ k : Nat, p = k := ⟨p.toNat, by omega⟩
      have hk : k < l.length := by omega
      obtain ⟨ga, offa, rfl, hga, hca⟩ := hL.below hb (Nat.le_refl _) k hk
      obtain ⟨x, hx⟩ : ∃ x, l[k] = x := ⟨_, rfl⟩
      rw [hx] at hca
      have hi1 : (0 : Int) ≤ (k : Int) := by omega
      have hi2 : (k : Int) < (l.length : Int) := by omega
      have HX : Hid (l.getD k 0 = x) := by show _ = _; rw [← hx]; simp [List.getD, hk]
      have hwr := round_two x n
      have h3 := round_three x n
      obtain ⟨T, hT⟩ : ∃ T, (x.tmod 1000000001 + n.tmod 1000000001).tmod 1000000001 = T := ⟨_, rfl⟩
      rw [hT] at h3
      obtain ⟨V, hV⟩ : ∃ V, (x + n) % 1000000001 = V := ⟨_, rfl⟩
      rw [hV] at h3
      have HV : Hid (adC l k n = (l.set k V, x)) := by show _ = _; rw [adC_in hk, HX.out, hV]
      have HA : Hid (ga < w.heap.size ∧ wc.cell? ⟨ga, offa + k, none⟩ = some (.int .i64 x)) := ⟨hga, hca⟩
      clear hL hx hpp hV HX
      go_wp2_with fail
      refine c1.mono ?_
      rintro e w1 ⟨rfl, rfl⟩
      clear c1
      go_wp2
      go_quiet (fail)
      have hb2 : Below w1.heap.size w1 (w1.drewN nq) := ⟨rfl, rfl, rfl, Nat.le_refl _, fun _ _ => rfl⟩
      obtain ⟨g, cp, hv, hcell, hfr, hgb, hset⟩ := own_seti (ho.below hb2 (Nat.le_refl _)) hk V
      have hB3 := (hb.trans (hb2.mono hb.size)).setCell (p := ⟨g, k, none⟩) hgb (.int .i64 V)
      have hca3 : ((w1.drewN nq).setCell ⟨g, k, none⟩ (.int .i64 V)).cell? ⟨ga, offa + k, none⟩ = some (.int .i64 x) := by
        rw [World.cell?_of_block (w := w1) ((heap_setCell_other _ ⟨g, k, none⟩ ga _ (by have := HA.out.1; simp; omega)).trans rfl)]
        exact HA.out.2
      have HS : Hid (OwnV ((w1.drewN nq).setCell ⟨g, k, none⟩ (.int .i64 V)) w.heap.size 3 u8 (ints (l.set k V)) ∧ Below w.heap.size w ((w1.drewN nq).setCell ⟨g, k, none⟩ (.int .i64 V))) := ⟨hset, hB3⟩
      obtain ⟨z, hz⟩ : ∃ z, l[k] = z := ⟨_, rfl⟩
      rw [hz] at hcell
      rw [hv] at HS
      subst hv
      clear ho hset hB3 hb2 hb hz hga hca hgb
      rcases h3 with ⟨t1, t2, t3⟩ | ⟨t1, t2⟩
      · have d1 : decide (T < 0) = true := decide_eq_true t1
        subst t2
        clear hT hwr
        go_wp2
        go_quiet (fail)
        go_wp2
        go_ret2
        rw [HV.out]
        exact ⟨.slice (some ⟨g, 0, none⟩) l.length cp, rfl, HS.out.1.kept (fun _ _ => rfl), HS.out.2.trans ⟨rfl, rfl, rfl, Nat.le_refl _, fun _ _ => rfl⟩⟩
      · have d1 : decide (T < 0) = false := decide_eq_false (by omega)
        subst t2
        clear hT hwr
        go_wp2
        go_quiet (fail)
        go_wp2
        go_ret2
        rw [HV.out]
        exact ⟨.slice (some ⟨g, 0, none⟩) l.length cp, rfl, HS.out.1.kept (fun _ _ => rfl), HS.out.2.trans ⟨rfl, rfl, rfl, Nat.le_refl _, fun _ _ => rfl⟩⟩
set_option maxHeartbeats 1000000 in
theorem specOk_any (w : World) (a : Option Addr) (cap : Nat) (l : List Int) (hL : IAt w a l w.heap.size) (hm : l.length ≤ 1048576) :
    Calls Try.prog 23 #[.slice a l.length cap] w fun e w' => e = .returned (.bool (okC l)) ∧ w' = w := by
  have cI := in_any (l.length : Int) 1 80 w
  go_enter Try.func23, Try.ntmps23
  go_wp2
  go_loopw [3] (fun i wr => Box (∃ (k : Nat), k ≤ l.length ∧ i = .int .i64 k ∧ (l.take k).all nOkC = true ∧ w = wr))
    (fun i _ => l.length - (intOf i).toNat)
  case atStart => exact ⟨⟨0, by omega, rfl, rfl, rfl⟩⟩
  case round =>
    obtain ⟨k, hk, rfl, hall, rfl⟩ := hrel.out
    have HA : Hid ((l.take k).all nOkC = true) := hall
    clear hrel hall
    by_cases hlt : k < l.length
    · obtain ⟨g, off, rfl, _, hc⟩ := hL k hlt
      obtain ⟨x, hx⟩ : ∃ x, l[k] = x := ⟨_, rfl⟩
      have HX : Hid (l[k] = x) := hx
      rw [hx] at hc
      have cN := in_any x 0 1000000000 w
      rw [inN_number] at cN
      have hi1 : (0 : Int) ≤ (k : Int) := by omega
      have hi2 : (k : Int) < (l.length : Int) := by omega
      clear hx
      cases hn : nOkC x with
      | false =>
        rw [hn] at cN
        go_wp2_with fail
        refine cN.mono ?_
        rintro e w1 ⟨rfl, rfl⟩
        go_wp2
        go_ret
        exact ⟨by rw [okC_bad hlt (by rw [HX.out]; exact hn)]; rfl, rfl⟩
      | true =>
        rw [hn] at cN
        go_wp2_with fail
        refine cN.mono ?_
        rintro e w1 ⟨rfl, rfl⟩
        go_wp2
        go_roundw
        case rel =>
          try ((repeat apply Exists.intro); refine ⟨?_, rfl⟩)
          exact ⟨⟨k + 1, by omega, by go_num, all_step hlt HA.out (by rw [HX.out]; exact hn), by first | rfl | trivial⟩⟩
        case measure => simp [intOf]; omega
    · have hke : k = l.length := by omega
      subst hke
      go_wp2_with fail
      refine cI.mono ?_
      rintro e w1 ⟨rfl, rfl⟩
      go_wp2
      go_ret
      refine ⟨?_, rfl⟩
      have h1 : l.all nOkC = true := by simpa using HA.out
      have h2 : inN (l.length : Int) 1 80 = okC l := by
        unfold okC inN
        rw [h1, Bool.and_true]
        by_cases h : 1 ≤ l.length ∧ l.length ≤ 80
        · rw [decide_eq_true h, decide_eq_true (by omega)]
        · rw [decide_eq_false h, decide_eq_false (by omega)]
      rw [← h2]
      rfl
end Go.Proofs.Ytockgojdmaladab
