/- Acts are drawn. -/
import Derived.Test.YtiddmmmgmoofnaaActDraw2
import Derived.Test.YtiddmmmgmoofnaaActSpec
import Derived.Test.YtiddmmmgmoofnaaActs
import Derived.Test.YtiddmmmgmoofnaaGatherJ
namespace Go.Proofs.Ytiddmmmgmoofnaa
open Go.RowKit Go.Sort

theorem Try.infoActD : (Try.prog.info? 45).map (fun i => (i.zero, i.size, i.bytes)) = some (some (.agg #[.int .i64 0, .string ⟨#[]⟩, .string ⟨#[]⟩, .string ⟨#[]⟩]), 4, 56) := by kernel_rfl

/-- 'append(v, f)' of one act onto acts that are owned, in a statement of one order. -/
theorem wpList_snocA {P : Program} {ops : Array Oper} {rest : List Oper} {o : Oper} {a : Act} {Q : Exit → Act → World → Prop} {wr : World} (hgd : o.guard = none) (s x : Operand) (t : TypeId)
    (ho : o.op = .call { callee := .builtin .append, args := #[s, x], argTypes := #[t, t] }) (base : Nat) (e : TypeId) (ht : P.underlying t = some (.slice e))
    (hinfo : (P.info? e).map (fun i => (i.zero, i.size, i.bytes)) = some (some (.agg #[.int .i64 0, .string ⟨#[]⟩, .string ⟨#[]⟩, .string ⟨#[]⟩]), 4, 56)) (v : Value) (L : List Ac) (hs : a.eval s = v) (hown : OwnA wr base e v L)
    (f : Ac) (S : Nat) (hx : a.eval x = .slice (some ⟨S, 0, none⟩) 1 1) (hS : wr.heap.size = S) (hlen : L.length < 10000000) (hbase : base ≤ wr.heap.size)
    (h : ∀ v' w', OwnA w' base e v' (L ++ [f]) → (wr.alloc (.cells #[.int .i64 f.kd, .string f.nm, .string f.tx, .string f.to] e)).grownBy w' v.ownBlock → wpList P ops Q rest (a.put o.dst v') w') :
    wpList P ops Q (o :: rest) a (wr.alloc (.cells #[.int .i64 f.kd, .string f.nm, .string f.tx, .string f.to] e)) := by
  subst hS
  obtain ⟨i0, hi, hz0, hz1, hz2⟩ := info_parts hinfo
  refine wpList_append_own _ hgd s x t ho base e i0 _ 4 56 ht hi hz0 hz1 hz2 rfl (by decide) v L.length (acl L) hs (World.ownsRow.alloc hown _) ⟨wr.heap.size, 0, none⟩ 1 1 (acl [f]) hx rfl (fun j u hu => World.news_of_block (heap_alloc_new wr _) j u (by simpa [acl, Ac.cells] using hu)) ?_ (by unfold maxLen; omega) (by omega) (by simp; omega) ?_
  · intro u hu
    simp [acl, Ac.cells] at hu
    rcases hu with rfl | rfl | rfl | rfl <;> rfl
  · intro v' w' h1 h2 _
    refine h v' w' ?_ h2
    unfold OwnA
    rw [show acl (L ++ [f]) = acl L ++ acl [f] by simp [acl], List.length_append, List.length_singleton]
    exact h1

theorem own_apart {w : World} {b1 b2 : Nat} {v u : Value} {L : List Fil} {As : List Ac} (h : OwnF w b1 36 v L) (k : OwnA w b2 45 u As) : ∀ j, v.ownBlock = some j → u.ownBlock ≠ some j := by
  intro j hj hu
  rcases h.2 with ⟨rfl, _⟩ | ⟨g, cap, cur, rfl, _, hg, _⟩
  · simp [Value.ownBlock] at hj
  · rcases k.2 with ⟨rfl, _⟩ | ⟨g', cap', cur', rfl, _, hg', _⟩
    · simp [Value.ownBlock] at hu
    · simp [Value.ownBlock] at hj hu
      subst hj
      subst hu
      have := hg.symm.trans hg'
      simp at this
theorem DBox.neA {w : World} {P : Nat} {v u : Value} {b : Nat} {As : List Ac} (h : DBox w P v) (ho : OwnA w b 45 u As) : ∀ k, u.ownBlock = some k → k ≠ P := by
  rintro k hk rfl
  rcases ho.2 with ⟨rfl, _⟩ | ⟨g, cap, cur, rfl, _, hg, _⟩
  · simp [Value.ownBlock] at hk
  · simp [Value.ownBlock] at hk
    subst hk
    have := h.symm.trans hg
    simp at this

/-- What stands while acts are drawn: the cursor, the disk in its variable, the acts. -/
structure Aj (w0 : World) (B p : Nat) (ca : Option Addr) (n cap : Nat) (v : Value) (L : List Fil) (u : Value) (As : List Ac) (wi : World) : Prop where
  own : OwnF wi (p + 1) 36 v L
  acts : OwnA wi w0.heap.size 45 u As
  bB : DBox wi B v
  left : Left w0 wi p ca n cap
  hp : p < w0.heap.size
  wB : w0.heap.size ≤ B
theorem Aj.next {w0 : World} {B p : Nat} {ca : Option Addr} {n cap : Nat} {v : Value} {L : List Fil} {u : Value} {As : List Ac} {wi wj : World} (h : Aj w0 B p ca n cap v L u As wi) (hb : Below wi.heap.size wi wj) : Aj w0 B p ca n cap v L u As wj where
  own := h.own.below hb (Nat.le_refl _)
  acts := h.acts.below hb (Nat.le_refl _)
  bB := h.bB.on hb
  left := h.left.below (hb.mono h.left.2.2.size) h.hp
  hp := h.hp
  wB := h.wB
theorem Aj.go {w0 : World} {B p : Nat} {ca : Option Addr} {n cap : Nat} {v : Value} {L : List Fil} {u : Value} {As : List Ac} {wi wj : World} (h : Aj w0 B p ca n cap v L u As wi) (hl : Left wi wj p ca n cap) : Aj w0 B p ca n cap v L u As wj where
  own := h.own.grown hl.2.2 fun k hk e => by
    have h1 := (h.own.lt k hk).1
    simp at e
    omega
  acts := h.acts.grown hl.2.2 fun k hk e => by
    have h1 := (h.acts.lt k hk).1
    have h2 := h.hp
    simp at e
    omega
  bB := h.bB.grown hl.2.2 fun k e => by have := h.hp; have := h.wB; simp at e; omega
  left := h.left.trans hl
  hp := h.hp
  wB := h.wB
theorem Aj.store {w0 : World} {B p : Nat} {ca : Option Addr} {n cap : Nat} {v x : Value} {L M : List Fil} {u : Value} {As : List Ac} {wi : World} (h : Aj w0 B p ca n cap v L u As wi) (ho : OwnF wi (p + 1) 36 x M) : Aj w0 B p ca n cap x M u As (wi.setCell ⟨B, 0, none⟩ x) where
  own := ho.setBox h.bB
  acts := h.acts.kept fun k hk => heap_setCell_other _ _ _ _ (by simpa using h.bB.neA h.acts k hk)
  bB := h.bB.set x
  left := h.left.set h.hp h.wB _
  hp := h.hp
  wB := h.wB
/-- The acts have grown by one. -/
theorem Aj.snoc {w0 : World} {B p : Nat} {ca : Option Addr} {n cap : Nat} {v : Value} {L : List Fil} {u u2 : Value} {As A2 : List Ac} {wi wj : World} (h : Aj w0 B p ca n cap v L u As wi) (ho : OwnA wj w0.heap.size 45 u2 A2) (hg : wi.grownBy wj u.ownBlock) : Aj w0 B p ca n cap v L u2 A2 wj where
  own := h.own.grown hg fun k hk e => own_apart h.own h.acts k hk e
  acts := ho
  bB := h.bB.grown hg (h.bB.neA h.acts)
  left := by
    have hs := h.left.2.2.size
    refine h.left.below ⟨hg.os, hg.tape, hg.output, hg.size, fun k hk => hg.block k (by omega) fun e => ?_⟩ h.hp
    have := (h.acts.lt k e.symm).1
    omega
  hp := h.hp
  wB := h.wB
theorem Aj.append {w0 : World} {B N p : Nat} {ca : Option Addr} {n cap : Nat} {v x : Value} {L X : List Fil} {u u2 : Value} {As A2 : List Ac} {wi wj : World} (h : Aj w0 B p ca n cap v L u As wi) (hN : DBox wi N x) (ho : OwnF wi (p + 1) 36 x X) (o : Obj) (ha : OwnA wj w0.heap.size 45 u2 A2) (hg : (wi.alloc o).grownBy wj u.ownBlock) :
    DBox wj B v ∧ DBox wj N x ∧ Aj w0 B p ca n cap x X u2 A2 (wj.setCell ⟨B, 0, none⟩ x) := by
  have hb : Below wi.heap.size wi (wi.alloc o) := (Below.refl _ _).alloc (Nat.le_refl _) o
  have h6 := h.next hb
  have h7 := h6.snoc ha hg
  exact ⟨h7.bB, (hN.on hb).grown hg ((hN.on hb).neA h6.acts), h7.store ((ho.alloc o).grown hg fun k hk e => own_apart (ho.alloc o) h6.acts k hk e)⟩
theorem ABox.on {w w' : World} {A : Nat} {a : Ac} (h : ABox w A a) (hb : Below w.heap.size w w') : ABox w' A a := (hb.block A h.lt).trans h
theorem spA_len (L : List Fil) (a : Ac) : ((spA L a).getD []).length ≤ 30 := by
  rw [spA_ac]
  cases h : ac L a with
  | none => simp
  | some X => exact dOk_len (ac_dOk h)

set_option maxRecDepth 100000 in
set_option maxHeartbeats 8000000 in
theorem l03Acts_any (w : World) (p : Nat) (ca : Option Addr) (n cap : Nat) (v0 : Value) (L0 : List Fil) (hc : Cur w p ca n cap) (hcode : CodeAt w ca n p) (hn : n ≤ 1048576) (ho : OwnF w (p + 1) 36 v0 L0) (hl0 : L0.length ≤ 31) :
    Calls Try.prog 31 #[.pointer (some ⟨p, 0, none⟩), .agg #[v0]] w fun e w' => ∃ (u : Value) (As : List Ac), e = .returned u ∧ As.length ≤ 8 ∧ (∀ A ∈ As, A.small) ∧ OwnA w' w.heap.size 45 u As ∧ Left w w' p ca n cap := by
  have hp := hc.lt
  obtain ⟨a0, c0, rfl, _⟩ := ho.at
  obtain ⟨m0, hm0⟩ : ∃ m0, L0.length = m0 := ⟨_, rfl⟩
  rw [hm0] at ho ⊢
  have HM : Hid (L0.length = m0) := hm0
  have hm31 : m0 ≤ 31 := by omega
  have HD : Hid (Aj w w.heap.size p ca n cap (.slice a0 m0 c0) L0 (.slice (some ⟨w.heap.size + 1, 0, none⟩) 0 0) [] ((w.alloc (.cells #[.slice a0 m0 c0] 26)).alloc (.cells #[] 45))) := by
    have hl1 : Left w (w.alloc (.cells #[.slice a0 m0 c0] 26)) p ca n cap := ⟨hc.alloc hp _, hcode.alloc _, World.grownBy_alloc _ _ _⟩
    have hnew := heap_alloc_new (w.alloc (.cells #[.slice a0 m0 c0] 26)) (.cells #[] 45)
    refine ⟨(ho.alloc _).alloc _, ⟨rfl, .inr ⟨w.heap.size + 1, 0, #[], rfl, by omega, by simpa using hnew, Nat.le_refl _, by simp [maxLen], by simp, rfl⟩⟩, (DBox.new _ _).on ((Below.refl _ _).alloc (Nat.le_refl _) _), hl1.plus hp _, hp, Nat.le_refl _⟩
  clear hc hcode ho hm0 hl0
  go_enter Try.func31, Try.ntmps31
  go_wp2
  go_loopw [5, 6] (fun u i wr => Box (∃ (k : Nat) (a : Option Addr) (m c : Nat) (L : List Fil) (As : List Ac), k ≤ 8 ∧ i = .int .i64 k ∧ Hid (L.length = m) ∧ m ≤ 31 ∧ As.length ≤ k ∧ Hid (∀ A ∈ As, A.small) ∧ Aj w w.heap.size p ca n cap (.slice a m c) L u As wr))
    (fun _ i _ => 8 - (intOf i).toNat)
  case atStart => exact ⟨⟨0, a0, m0, c0, L0, [], by omega, rfl, HM, hm31, by simp, by simp [Hid], HD.out⟩⟩
  case round =>
    clear HD HM hm31
    obtain ⟨k, a, m, c, L, As, hk, rfl, HM, hm31, hAs, HSm, hd⟩ := hrel.out
    clear hrel
    go_wp2_with fail
    refine (below_any wr p ca n cap 9 hd.left.1 hd.left.2.1 hn (by omega) (by omega)).mono ?_
    rintro e w1 ⟨x, hx, _, rfl, hl1⟩
    have hd1 := hd.go hl1
    have hx9 := hx (by omega)
    clear hd hl1 hx
    by_cases hlt : (k : Int) < (x : Int)
    · go_wp2_with fail
      refine (l03Act_any w1 p ca n cap hd1.left.1 hd1.left.2.1 hn).mono ?_
      rintro e w2 ⟨⟨kd, nm, tx, to⟩, hsm, rfl, hl2⟩
      have hd2 := hd1.go hl2
      have HS2 : Hid ((⟨kd, nm, tx, to⟩ : Ac).small) := hsm
      have hd3 := hd2.next ((Below.refl _ _).alloc (Nat.le_refl _) (.cells #[.int .i64 kd, .string nm, .string tx, .string to] 45))
      have hA3 := ABox.new w2 ⟨kd, nm, tx, to⟩
      obtain ⟨A, hAe⟩ : ∃ A, w2.heap.size = A := ⟨_, rfl⟩
      rw [hAe] at hA3
      have hAw : w.heap.size ≤ A := by rw [← hAe]; exact hd2.left.2.2.size
      simp only at hA3
      have htx : tx.size ≤ 9 := hsm.2.1
      have c3 := specDoAct_any (w2.alloc (.cells #[.int .i64 kd, .string nm, .string tx, .string to] 45)) a c L kd nm tx to (by obtain ⟨a', c', he, hA⟩ := hd3.own.at; simp at he; obtain ⟨rfl, _, _⟩ := he; exact hA) (by have := HM.out; omega) (by omega)
      rw [HM.out] at c3
      have q3 := hd3.bB.cell
      obtain ⟨q4, q5, q6, q7⟩ := hA3.cells
      simp only at q4 q5 q6 q7
      clear hd1 hl2 hd2 hsm
      go_wp2_with fail
      refine c3.mono ?_
      rintro e w4 ⟨v4, rfl, ho4, hb4⟩
      have hd4 := hd3.next hb4
      have hA4 := hA3.on hb4
      have hX30 := spA_len L ⟨kd, nm, tx, to⟩
      obtain ⟨X, hX⟩ : ∃ X, (spA L ⟨kd, nm, tx, to⟩).getD [] = X := ⟨_, rfl⟩
      rw [hX] at ho4 hX30
      obtain ⟨ok, hok⟩ : ∃ ok, (spA L ⟨kd, nm, tx, to⟩).isSome = ok := ⟨_, rfl⟩
      rw [hok]
      obtain ⟨a4, c4, rfl, _⟩ := ho4.at
      obtain ⟨m4, hm4⟩ : ∃ m4, X.length = m4 := ⟨_, rfl⟩
      rw [hm4] at ho4 ⊢
      have HM4 : Hid (X.length = m4) := hm4
      have hm4' : m4 ≤ 31 := by omega
      have ho4' := ho4.mono (base' := p + 1) (by have := hd3.left.1.lt; omega)
      have hb5 : Below w4.heap.size w4 (w4.alloc (.cells #[.slice a4 m4 c4] 26)) := (Below.refl _ _).alloc (Nat.le_refl _) _
      have hdv := hd4.next hb5
      have hAv := hA4.on hb5
      have hNv := DBox.new w4 (.slice a4 m4 c4)
      have hov := ho4'.below hb5 (Nat.le_refl _)
      obtain ⟨N, hNe⟩ : ∃ N, w4.heap.size = N := ⟨_, rfl⟩
      rw [hNe] at hNv
      have hNw : w.heap.size ≤ N := by rw [← hNe]; exact hd4.left.2.2.size
      clear c3 q3 q4 q5 q6 q7 hd3 hd4 hA3 hA4 ho4 ho4' hb4 hb5 hX hX30 hm4 hok
      cases ok
      case' false =>
        go_wp2_with fail
        refine (once_any _ p ca n cap 20 hdv.left.1 hdv.left.2.1 hn (by omega) (by omega)).mono ?_
        rintro e w6 ⟨b, rfl, hl6⟩
        replace hAv : ABox w6 A ⟨kd, nm, tx, to⟩ := (hl6.2.2.block A hAv.lt (by have := hdv.hp; simp; omega)).trans hAv
        replace hNv := hNv.grown hl6.2.2 (fun k e => by have := hdv.hp; simp at e; omega)
        replace hov := hov.grown hl6.2.2 (fun k hk e => by have := (hov.lt k hk).1; simp at e; omega)
        replace hdv := hdv.go hl6
        clear hl6
        cases b
        case' false =>
          go_wp2
          go_roundw
          case rel =>
            try ((repeat apply Exists.intro); refine ⟨?_, rfl⟩)
            exact ⟨⟨k + 1, a, m, c, L, As, by omega, by go_num, HM, hm31, by omega, HSm, hdv⟩⟩
          case measure => simp [intOf]; omega
      all_goals (
        obtain ⟨q4, q5, q6, q7⟩ := hAv.cells
        simp only at q4 q5 q6 q7
        have hsz := hdv.left.2.2.size
        have HDV := hdv
        have HOV := hov
        have HNV := hNv
        go_wp2_with (at_builtin; go_loud (refine wpList_snocA rfl (.tmp 30) (.tmp 32) 38 rfl w.heap.size 45 Try.underlying38 Try.infoActD _ As rfl HDV.acts ⟨kd, nm, tx, to⟩ _ rfl (by first | rfl | (simp; omega)) (by omega) (by omega) ?_; intro u7 w7 hown7 hgr7; have h7 := HDV.append HNV HOV _ hown7 hgr7; have q8 := h7.2.1.cell; have q9 := h7.1.cell; have z9 := h7.1.thaw))
        have hd8 := h7.2.2
        have HSm8 : Hid (∀ A ∈ As ++ [(⟨kd, nm, tx, to⟩ : Ac)], A.small) := by
          intro B hB
          rcases List.mem_append.1 hB with h | h
          · exact HSm.out B h
          · simp at h; subst h; exact HS2.out
        have hAs8 : (As ++ [(⟨kd, nm, tx, to⟩ : Ac)]).length ≤ k + 1 := by simp; omega
        clear hdv hov hNv hAv h7 hown7 hgr7 HDV HOV HNV
        go_roundw
        case rel =>
          try ((repeat apply Exists.intro); refine ⟨?_, rfl⟩)
          exact ⟨⟨k + 1, a4, m4, c4, X, _, by omega, by go_num, HM4, hm4', hAs8, HSm8, hd8⟩⟩
        case measure => simp [intOf]; omega)
    · go_wp2
      go_ret
      exact ⟨_, As, rfl, by omega, HSm.out, hd1.acts, hd1.left⟩
end Go.Proofs.Ytiddmmmgmoofnaa
