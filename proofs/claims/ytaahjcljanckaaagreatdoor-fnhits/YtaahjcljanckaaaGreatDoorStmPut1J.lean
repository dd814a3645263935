/- Texts that stand in one: StmPut1, StmPutImpl, ReachedP, AssertSt, HallTurnP. -/
import Derived.Test.YtaahjcljanckaaaGreatDoorStmOkImplJ
import Derived.BigQuiet
import Derived.Test.YtaahjcljanckaaaGreatDoorTellPlainJ
import Derived.Test.YtaahjcljanckaaaGreatDoorHallKitJ
import Derived.Stop.Asserts
import Derived.Test.YtaahjcljanckaaaGreatDoorPolSzTextJ
import Derived.Deep.RegionHeld3
namespace Go.Proofs.YtaahjcljanckaaaGreatDoor
open Go.RowKit Go.Sort
theorem bytes_no {z : ByteArray} (h : ¬ z = ⟨#[]⟩) : z.toList.isEmpty = false := by
 rw [ByteArray.toList_eq,List.isEmpty_eq_false_iff]
 intro e
 exact h (ByteArray.ext (Array.toList_inj.1 e))
theorem put1_eg : ∀ args w,(callFunc 130 args).run Tryz.prog w = .ok (.enter 130 args) w := enters_of Tryz.func130 (by kernel_rfl) rfl
set_option maxRecDepth 100000 in
set_option maxHeartbeats 4000000 in
theorem put1_no (w0 : World) (B T : Nat) (S : Stm) (v : Value) (part : ByteArray) (W : World) (H : Held w0 B 1 S v W) (hT : W.heap[T]? = some (.cells #[.string part] 9 (0, 0))) (hp : part.size ≤ 1048576) (ht : S.text.size ≤ 1048576) (G : Ending → World → Prop) (hG : ∀ W',Below W.heap.size W W' → G (.returned (.bool false)) W')
  (hno : ¬ S.st = 1 ∨ part = ⟨#[]⟩ ∨ 40 < part.size ∨ 400 < S.text.size + part.size) :
  Calls Tryz.prog 130 #[.pointer (some ⟨B, 2,none⟩),.pointer (some ⟨T, 0,none⟩)] W G := by
 obtain ⟨b2,b3,b4⟩ := H.box.cells
 have p0 : W.cell? ⟨T, 0,none⟩ = some (.string part) := by rw [cell_of_row W T 0 _ _ (0, 0) hT]; rfl
 obtain ⟨st,t,rd⟩ := S
 have HQ : Hid (∀ W',Below W.heap.size W W' → G (.returned (.bool false)) W') := hG
 dsimp only at b2 b3 ht hno
 clear hG H hT
 by_cases hs : st = 1
 ·subst hs
  by_cases he : part = ⟨#[]⟩
  ·subst he
   clear hno
   go_enter Tryz.func130,Tryz.ntmps130
   go_wp2_with fail
   go_quiet (fail)
   go_wp2_with fail
   exact HQ.out _ ⟨rfl,rfl,rfl,Nat.le_refl _,fun _ _ => rfl⟩
  ·have hn := bytes_no he
   by_cases h4 : 40 < part.size
   ·have h4' : decide ((40 : Int) < (part.size : Int)) = true := decide_eq_true (by omega)
    clear hno he
    go_enter Tryz.func130,Tryz.ntmps130
    go_wp2_with fail
    go_quiet (fail)
    go_wp2_with fail
    exact HQ.out _ ⟨rfl,rfl,rfl,Nat.le_refl _,fun _ _ => rfl⟩
   ·have h4' : decide ((40 : Int) < (part.size : Int)) = false := decide_eq_false (by omega)
    have h5 : 400 < t.size + part.size := by
     rcases hno with h | h | h | h
     ·exact absurd rfl h
     ·exact absurd h he
     ·omega
     ·exact h
    have h6 : IntKind.i64.wrap ((t.size : Int) + (part.size : Int)) = (t.size : Int) + (part.size : Int) := by rw [IntKind.wrap_i64]; omega
    have h5' : decide ((400 : Int) < (t.size : Int) + (part.size : Int)) = true := decide_eq_true (by omega)
    clear hno he
    go_enter Tryz.func130,Tryz.ntmps130
    go_wp2_with fail
    go_quiet (fail)
    go_wp2_with fail
    exact HQ.out _ ⟨rfl,rfl,rfl,Nat.le_refl _,fun _ _ => rfl⟩
 ·have hs' : (st != 1) = true := by simp [hs]
  clear hno
  go_enter Tryz.func130,Tryz.ntmps130
  go_wp2_with fail
  go_quiet (fail)
  go_wp2_with fail
  exact HQ.out _ ⟨rfl,rfl,rfl,Nat.le_refl _,fun _ _ => rfl⟩
set_option maxRecDepth 100000 in
set_option maxHeartbeats 4000000 in
theorem put1_yes (w0 : World) (B T : Nat) (S : Stm) (v : Value) (part : ByteArray) (W : World) (H : Held w0 B 1 S v W) (hT : W.heap[T]? = some (.cells #[.string part] 9 (0, 0))) (G : Ending → World → Prop) (hG : ∀ W',Below W.heap.size W W' → G (.returned (.bool true)) (W'.setCell ⟨B, 3,none⟩ (.string (S.text ++ part))))
  (hs : S.st = 1) (he : ¬ part = ⟨#[]⟩) (h4 : ¬ 40 < part.size) (h5 : ¬ 400 < S.text.size + part.size) :
  Calls Tryz.prog 130 #[.pointer (some ⟨B, 2,none⟩),.pointer (some ⟨T, 0,none⟩)] W G := by
 obtain ⟨st,t,rd⟩ := S
 dsimp only at hs h5 hG
 subst hs
 have hn := bytes_no he
 have h4' : decide ((40 : Int) < (part.size : Int)) = false := decide_eq_false (by omega)
 have h6 : IntKind.i64.wrap ((t.size : Int) + (part.size : Int)) = (t.size : Int) + (part.size : Int) := by rw [IntKind.wrap_i64]; omega
 have h5' : decide ((400 : Int) < (t.size : Int) + (part.size : Int)) = false := decide_eq_false (by omega)
 have h7 : ¬ 9223372036854775807 < t.size + part.size := by omega
 have HQ : Hid (∀ W',Below W.heap.size W W' → G (.returned (.bool true)) (W'.setCell ⟨B, 3,none⟩ (.string (t ++ part)))) := hG
 have HX : Hid (∀ W',Below W.heap.size W W' → HBox W' B 1 1 t v ∧ W'.heap[T]? = some (.cells #[.string part] 9 (0, 0))) := fun W' hb => ⟨H.box.on hb,(hb.block T (Array.getElem?_eq_some_iff.1 hT).1).trans hT⟩
 have HC : Hid (∀ W,Calls Tryz.prog 34 #[.string part] W fun e w' => e = .returned (.string part) ∧ Below W.heap.size W w') := fun W => cloneSH_any part W (by omega)
 obtain ⟨b2,b3,b4⟩ := H.box.cells
 have p0 : W.cell? ⟨T, 0,none⟩ = some (.string part) := by rw [cell_of_row W T 0 _ _ (0, 0) hT]; rfl
 clear hG H hT he h4 h5
 go_enter Tryz.func130,Tryz.ntmps130
 go_wp2_with fail
 go_quiet (fail)
 have hb1 : Below W.heap.size W (W.drewN nq) := ⟨rfl,rfl,rfl,Nat.le_refl _,fun _ _ => rfl⟩
 generalize W.drewN nq = W1 at hb1 ⊢
 have hb2 : Below W.heap.size W W1.drew := hb1.trans ⟨rfl,rfl,rfl,Nat.le_refl _,fun _ _ => rfl⟩
 clear b2 b3 b4 p0
 obtain ⟨b2,b3,b4⟩ := (HX.out _ hb2).1.cells
 have z3 := (HX.out _ hb2).1.thaw 3
 have p0 : W1.drew.cell? ⟨T, 0,none⟩ = some (.string part) := by rw [cell_of_row W1.drew T 0 _ _ (0, 0) (HX.out _ hb2).2]; rfl
 go_wp2_with fail
 go_region_law (go_simp; go_at_call 34; refine (HC.out _).mono ?_; rintro e wC ⟨rfl,hC⟩; have fC : Below W.heap.size W wC := hb2.trans (hC.mono hb2.size); have x3 := (HX.out _ fC).1.cells.2.1; have y3 := (HX.out _ fC).1.thaw 3; have x0 : wC.cell? ⟨T, 0,none⟩ = some (.string part) := by rw [cell_of_row wC T 0 _ _ (0, 0) (HX.out _ fC).2]; rfl)
 all_goals go_wp2_with fail
 all_goals exact HQ.out _ fC
theorem put1_any (w0 : World) (B T : Nat) (S : Stm) (v : Value) (part : ByteArray) (W : World) (hp : part.size ≤ 1048576) (H : Held w0 B 1 S v W) (hT : W.heap[T]? = some (.cells #[.string part] 9 (0, 0))) (hok : okM S = true) (ht : S.text.size ≤ 1048576) (_ : S.rd.length ≤ 1048576) :
  Calls Tryz.prog 130 (#[.pointer (some ⟨B, 2,none⟩)] ++ #[.pointer (some ⟨T, 0,none⟩)]) W fun e w' => ∃ ok S' v',e = .returned (.bool ok) ∧ Held w0 B 1 S' v' w' ∧ Tch (fun k => k = B ∨ v.ownBlock = some k) W w' ∧ (S',ok) = putM S part := by
 by_cases hno : ¬ S.st = 1 ∨ part = ⟨#[]⟩ ∨ 40 < part.size ∨ 400 < S.text.size + part.size
 ·refine put1_no w0 B T S v part W H hT hp ht _ (fun W' hb => ⟨false,S,v,rfl,H.on hb,Tch.of_below hb, ?_⟩) hno
  unfold putM
  rw [if_neg]
  intro h
  simp only [Bool.and_eq_true,decide_eq_true_eq] at h
  rcases hno with e | e | e | e
  ·exact e h.1.1.2
  ·rw [e] at h; exact absurd h.1.2.1 (by decide)
  ·omega
  ·omega
 ·simp only [not_or,Classical.not_not] at hno
  obtain ⟨h1,h2,h3,h4⟩ := hno
  refine put1_yes w0 B T S v part W H hT _ (fun W' hb => ⟨true,_,v,rfl,(H.on hb).textTo _,(Tch.of_below hb).trans (tch_set _ _ _ _ (Or.inl rfl)), ?_⟩) h1 h2 h3 h4
  have h0 : 1 ≤ part.size := by
   rcases Nat.eq_zero_or_pos part.size with e | e
   ·exact absurd (ByteArray.ext (Array.eq_empty_of_size_eq_zero e)) h2
   ·exact e
  unfold putM
  rw [if_pos (by simp only [Bool.and_eq_true,decide_eq_true_eq]; exact ⟨⟨⟨hok,h1⟩,h0,by omega⟩,by omega⟩)]
set_option maxRecDepth 100000 in
set_option maxHeartbeats 4000000 in
theorem implStreamPut_any (w : World) (a : Option Addr) (c : Nat) (S : Stm) (part : ByteArray) (hp : part.size ≤ 1048576) (hE : PAt w a S.rd w.heap.size) (ht : S.text.size ≤ 1048576) (hm : S.rd.length ≤ 1048576) :
  Calls Tryz.prog 127 #[.agg #[.int .i64 S.st,.string S.text,.slice a S.rd.length c],.string part] w fun e w' => ∃ v,e = .returned (.tuple #[v,.bool (putM S part).2]) ∧ MOwn w' w.heap.size v (putM S part).1 ∧ Below w.heap.size w w' := by
 obtain ⟨w1,hw1⟩ : ∃ x,w.alloc (.cells #[.int .i64 S.st,.string S.text,.slice a S.rd.length c] 105) = x := ⟨_,rfl⟩
 obtain ⟨w2,hw2⟩ : ∃ x,w1.alloc (.cells #[.string part] 9) = x := ⟨_,rfl⟩
 obtain ⟨w3,hw3⟩ : ∃ x,w2.alloc (.cells #[.int .i64 0,.string ⟨#[]⟩,.slice none 0 0] 105) = x := ⟨_,rfl⟩
 have hb1 : Below w.heap.size w w1 := by rw [← hw1]; exact (Below.refl _ _).alloc (Nat.le_refl _) _
 have hb2 : Below w1.heap.size w1 w2 := by rw [← hw2]; exact (Below.refl _ _).alloc (Nat.le_refl _) _
 have hb3 : Below w2.heap.size w2 w3 := by rw [← hw3]; exact (Below.refl _ _).alloc (Nat.le_refl _) _
 have s1 : w1.heap.size = w.heap.size + 1 := by rw [← hw1]; simp
 have s2 : w2.heap.size = w.heap.size + 1 + 1 := by rw [← hw2]; simp; omega
 have s3 : w3.heap.size = w.heap.size + 1 + 1 + 1 := by rw [← hw3]; simp; omega
 have hb23 : Below w1.heap.size w1 w3 := hb2.trans (hb3.mono hb2.size)
 have hbw : Below w.heap.size w w3 := hb1.trans (hb23.mono hb1.size)
 have hB3 : MBox w3 w.heap.size (.int .i64 S.st) (.string S.text) (.slice a S.rd.length c) := by
  have h : MBox w1 w.heap.size (.int .i64 S.st) (.string S.text) (.slice a S.rd.length c) := by rw [← hw1]; exact MBox.new _ _ _ _
  exact h.on hb23
 have hP3 : w3.heap[w.heap.size + 1]? = some (.cells #[.string part] 9 (0, 0)) := by
  rw [hb3.block _ (by omega), ← hw2, ← s1]
  exact heap_alloc_new w1 _
 have hR3 : MBox w3 (w.heap.size + 1 + 1) (.int .i64 0) (.string ⟨#[]⟩) (.slice none 0 0) := by rw [← hw3, ← s2]; exact MBox.new _ _ _ _
 have HW : Hid (((w.alloc (.cells #[.int .i64 S.st,.string S.text,.slice a S.rd.length c] 105)).alloc (.cells #[.string part] 9)).alloc (.cells #[.int .i64 0,.string ⟨#[]⟩,.slice none 0 0] 105) = w3) := by rw [hw1,hw2]; exact hw3
 have hmf : ∀ (fn : Fn) (first cap : Array Value) (w : World),(Instr.makeFunc fn first cap).run Tryz.prog w = .ok (.func fn first cap) w := fun _ _ _ _ => rfl
 have cH := holdStream_any w w3 a c S hbw (hE.on hbw) (by omega) hm
 obtain ⟨b0,b1,b2⟩ := hB3.cells
 clear hw1 hw2 hw3 hb1 hb2 hb3 hb23 s1 s2
 go_enter Tryz.func127,Tryz.ntmps127
 go_wp2_with fail
 rw [HW.out]
 refine cH.mono ?_
 rintro e w4 ⟨B,v,rfl,hH,hb4,hB⟩
 have hP4 : w4.heap[w.heap.size + 1]? = some (.cells #[.string part] 9 (0, 0)) := by rw [hb4.block _ (by omega)]; exact hP3
 have hR4 := hR3.on hb4
 have hown : ∀ k,v.ownBlock = some k → k ≠ w.heap.size + 1 + 1 := ownP_notBox hH.own hR4
 have hownP : ∀ k,v.ownBlock = some k → k ≠ w.heap.size + 1 := fun k hk e => by
  obtain ⟨cs,hc⟩ := ownP_type hH.own k hk
  rw [e,hP4] at hc
  simp only [Option.some.injEq,Obj.cells.injEq] at hc
  exact absurd hc.2.1 (by decide)
 clear cH b0 b1 b2 HW hB3 hP3 hR3
 go_wp2_with fail
 refine changeRight_to _ 130 #[.pointer (some ⟨w.heap.size + 1, 0,none⟩)] put1_eg w w4 B S v hH ht hm (fun k => k = B ∨ v.ownBlock = some k) (Or.inl rfl) ?_ (fun ok S' _ => (S',ok) = putM S part) (fun _ _ _ _ h _ => h) ?_ ?_ ?_
 ·rintro k (rfl | hk)
  ·exact ⟨hH.hB,hH.box.lt⟩
  ·exact hH.own.lt k hk
 ·intro hok
  unfold putM
  rw [hok]
  rfl
 ·intro hok W hW hT
  have hPW : W.heap[w.heap.size + 1]? = some (.cells #[.string part] 9 (0, 0)) := by rw [hT.2 _ (by have := hb4.size; omega) (by omega)]; exact hP4
  exact put1_any w B (w.heap.size + 1) S v part W hp hW hPW hok ht hm
 ·intro ok S' u w5 ho5 hb5 hT5 hQ5
  have HQ1 : Hid ((putM S part).1 = S') := by show _ = _; rw [← hQ5]
  have HQ2 : Hid ((putM S part).2 = ok) := by show _ = _; rw [← hQ5]
  have hR5 : MBox w5 (w.heap.size + 1 + 1) (.int .i64 0) (.string ⟨#[]⟩) (.slice none 0 0) := hR4.kept (hT5.2 _ (by have := hb4.size; omega) (fun e => e.elim (fun e => by omega) (fun e => hown _ e rfl)))
  obtain ⟨u1,rfl,hu1⟩ := ho5
  obtain ⟨a5,c5,rfl,_⟩ := hu1.at
  have HO : Hid (MOwn w5 w.heap.size (.agg #[.int .i64 S'.st,.string S'.text,.slice a5 S'.rd.length c5]) S' ∧ Below w.heap.size w w5) := ⟨⟨_,rfl,hu1⟩,hb5⟩
  obtain ⟨r0,r1,r2⟩ := hR5.cells
  obtain ⟨f0,f1,f2⟩ := (⟨hR5.thaw 0,hR5.thaw 1,hR5.thaw 2⟩ : _ ∧ _ ∧ _)
  clear hu1 hb5 hT5 hQ5 hP4 hR4 hown hownP hH hb4 hbw hE
  go_wp2_with fail
  obtain ⟨q0,q1,q2⟩ := (hR5.put (.int .i64 S'.st) (.string S'.text) (.slice a5 S'.rd.length c5)).cells
  refine bodyPost_ret (v := .tuple #[.agg #[.int .i64 S'.st,.string S'.text,.slice a5 S'.rd.length c5],.bool ok]) (by simp [results,Tryz.results127,go_sem,q0,q1,q2]) rfl ⟨_,by rw [HQ2.out],by rw [HQ1.out]; exact HO.out.1.put3 hR5 _ _ _,Below.put3M HO.out.2 (by omega) _ _ _⟩
set_option maxRecDepth 100000 in
set_option maxHeartbeats 4000000 in
theorem reachedP_any (w : World) (part : ByteArray) (st : Int) (tx : ByteArray) (hs : tx.size ≤ 1048576) (hp : part.size ≤ 1048576) :
  Calls Tryz.prog 126 #[.agg #[.string part],.agg #[.int .i64 st,.string tx,.slice none 0 0]] w fun e w' => ∃ a2 n2 c2,e = .returned (.tuple #[.agg #[.int .i64 (putM ⟨st,tx, []⟩ part).1.st,.string (putM ⟨st,tx, []⟩ part).1.text,.slice a2 n2 c2],.bool (putM ⟨st,tx, []⟩ part).2]) ∧ Below w.heap.size w w' := by
 obtain ⟨w1,hw1⟩ : ∃ x,((w.alloc (.cells #[.string part] 71)).alloc (.cells #[.int .i64 st,.string tx,.slice none 0 0] 105)).alloc (.cells #[.int .i64 0,.string ⟨#[]⟩,.slice none 0 0] 105) = x := ⟨_,rfl⟩
 have hb1 : Below w.heap.size w w1 := by rw [← hw1]; exact (((Below.refl _ _).alloc (Nat.le_refl _) _).alloc (by simp) _).alloc (by simp; omega) _
 have hs1 : w1.heap.size = w.heap.size + 3 := by rw [← hw1]; simp
 have hRB : w1.heap[w.heap.size + 2]? = some (.cells #[.int .i64 0,.string ⟨#[]⟩,.slice none 0 0] 105 (0, 0)) := by
  have e : w.heap.size + 2 = ((w.alloc (.cells #[.string part] 71)).alloc (.cells #[.int .i64 st,.string tx,.slice none 0 0] 105)).heap.size := by simp
  rw [← hw1,e]
  exact heap_alloc_new _ _
 have c1 := implStreamPut_any w1 none 0 ⟨st,tx, []⟩ part hp (fun j hj => absurd hj (Nat.not_lt_zero _)) hs (by simp)
 dsimp only at c1
 have HW : Hid (((w.alloc (.cells #[.string part] 71)).alloc (.cells #[.int .i64 st,.string tx,.slice none 0 0] 105)).alloc (.cells #[.int .i64 0,.string ⟨#[]⟩,.slice none 0 0] 105) = w1) := hw1
 have HB : Hid (Below w.heap.size w w1 ∧ w1.heap.size = w.heap.size + 3 ∧ w1.heap[w.heap.size + 2]? = some (.cells #[.int .i64 0,.string ⟨#[]⟩,.slice none 0 0] 105 (0, 0))) := ⟨hb1,hs1,hRB⟩
 clear hw1 hb1 hs1 hRB hs
 go_enter Tryz.func126,Tryz.ntmps126
 go_wp2_with fail
 rw [HW.out]
 refine c1.mono ?_
 rintro e w2 ⟨v,rfl,ho,hb2⟩
 obtain ⟨rdv,rfl,hrd0⟩ := ho
 obtain ⟨a2,c2,rfl,_⟩ := hrd0.at
 have hR2 := (hb2.block _ (Array.getElem?_eq_some_iff.1 HB.out.2.2).1).trans HB.out.2.2
 have r0 : w2.cell? ⟨w.heap.size + 2, 0,none⟩ = some (.int .i64 0) := by rw [cell_of_row w2 (w.heap.size + 2) 0 _ _ (0, 0) hR2]; rfl
 have r1 : w2.cell? ⟨w.heap.size + 2, 1,none⟩ = some (.string ⟨#[]⟩) := by rw [cell_of_row w2 (w.heap.size + 2) 1 _ _ (0, 0) hR2]; rfl
 have r2 : w2.cell? ⟨w.heap.size + 2, 2,none⟩ = some (.slice none 0 0) := by rw [cell_of_row w2 (w.heap.size + 2) 2 _ _ (0, 0) hR2]; rfl
 have tt : ∀ i,w2.frozen? ⟨w.heap.size + 2,i,none⟩ = false := fun i => by simp [World.frozen?,hR2]
 have t0 := tt 0
 have t1 := tt 1
 have t2 := tt 2
 obtain ⟨S',hS'⟩ : ∃ S,(putM ⟨st,tx, []⟩ part) = S := ⟨_,rfl⟩
 obtain ⟨n2,hn2⟩ : ∃ n,S'.1.rd.length = n := ⟨_,rfl⟩
 rw [hS',hn2]
 clear hn2
 have HS : Hid ((putM ⟨st,tx, []⟩ part) = S') := hS'
 have HF : Hid ((((w2.setCell ⟨w.heap.size + 2, 0,none⟩ (.int .i64 S'.1.st)).setCell ⟨w.heap.size + 2, 1,none⟩ (.string S'.1.text)).setCell ⟨w.heap.size + 2, 2,none⟩ (.slice a2 n2 c2)).heap[w.heap.size + 2]? = some (.cells #[.int .i64 S'.1.st,.string S'.1.text,.slice a2 n2 c2] 105 (0, 0))) := by
  show _ = _
  simp only [World.setCell,Array.getElem?_modify,hR2]
  simp
 have HG : Hid (Below w.heap.size w (((w2.setCell ⟨w.heap.size + 2, 0,none⟩ (.int .i64 S'.1.st)).setCell ⟨w.heap.size + 2, 1,none⟩ (.string S'.1.text)).setCell ⟨w.heap.size + 2, 2,none⟩ (.slice a2 n2 c2))) := (((HB.out.1.trans (hb2.mono HB.out.1.size)).setCell (by show w.heap.size ≤ w.heap.size + 2; omega) _).setCell (by show w.heap.size ≤ w.heap.size + 2; omega) _).setCell (by show w.heap.size ≤ w.heap.size + 2; omega) _
 have HQ : Hid ((((w2.setCell ⟨w.heap.size + 2, 0,none⟩ (.int .i64 S'.1.st)).setCell ⟨w.heap.size + 2, 1,none⟩ (.string S'.1.text)).setCell ⟨w.heap.size + 2, 2,none⟩ (.slice a2 n2 c2)).cell? ⟨w.heap.size + 2, 0,none⟩ = some (.int .i64 S'.1.st) ∧ (((w2.setCell ⟨w.heap.size + 2, 0,none⟩ (.int .i64 S'.1.st)).setCell ⟨w.heap.size + 2, 1,none⟩ (.string S'.1.text)).setCell ⟨w.heap.size + 2, 2,none⟩ (.slice a2 n2 c2)).cell? ⟨w.heap.size + 2, 1,none⟩ = some (.string S'.1.text) ∧ (((w2.setCell ⟨w.heap.size + 2, 0,none⟩ (.int .i64 S'.1.st)).setCell ⟨w.heap.size + 2, 1,none⟩ (.string S'.1.text)).setCell ⟨w.heap.size + 2, 2,none⟩ (.slice a2 n2 c2)).cell? ⟨w.heap.size + 2, 2,none⟩ = some (.slice a2 n2 c2)) := ⟨by rw [cell_of_row _ (w.heap.size + 2) 0 _ _ (0, 0) HF.out]; rfl,by rw [cell_of_row _ (w.heap.size + 2) 1 _ _ (0, 0) HF.out]; rfl,by rw [cell_of_row _ (w.heap.size + 2) 2 _ _ (0, 0) HF.out]; rfl⟩
 clear hb2 hR2 tt c1 hS'
 go_wp2_with fail
 obtain ⟨q0,q1,q2⟩ := HQ.out
 refine bodyPost_ret (v := .tuple #[.agg #[.int .i64 S'.1.st,.string S'.1.text,.slice a2 n2 c2],.bool S'.2]) (by simp [results,Tryz.results126,go_sem,q0,q1,q2]) rfl ?_
 exact ⟨_,_,_,by rw [HS.out],HG.out⟩
theorem asPP (v : Value) (w : World) : (Instr.typeAssert (.iface 71 v) 102 71 true).run Tryz.prog w = .ok (.tuple #[v,.bool true]) w := by kernel_rfl
theorem asCP (v : Value) (w : World) : (Instr.typeAssert (.iface 73 v) 102 71 true).run Tryz.prog w = .ok (.tuple #[.agg #[.string ⟨#[]⟩],.bool false]) w := by kernel_rfl
theorem asCC (v : Value) (w : World) : (Instr.typeAssert (.iface 73 v) 102 73 true).run Tryz.prog w = .ok (.tuple #[v,.bool true]) w := by kernel_rfl
theorem turn1_eg : ∀ args w,(callFunc 78 args).run Tryz.prog w = .ok (.enter 78 args) w := enters_of Tryz.func78 (by kernel_rfl) rfl
set_option maxHeartbeats 2000000 in
theorem turn1_any (W : World) (lo G c V GF o : Nat) (tx : ByteArray) (L : List Cli) (j : Nat) (hj : j < L.length) (ho : OwnCli W lo 45 (.slice (some ⟨G, 0,none⟩) L.length c) L) (hv : W.cell? ⟨V, 0,none⟩ = some (.pointer (some ⟨GF,o,none⟩))) (hf : W.cell? ⟨GF,o + 1,none⟩ = some (.string tx)) (hs : tx.size ≤ 1048576) :
  Calls Tryz.prog 78 (#[.pointer (some ⟨G,j * 7,none⟩)] ++ #[.pointer (some ⟨V, 0,none⟩)]) W fun e w' => e = .returned (.tuple #[]) ∧ Tch (fun b => b = G) W w' ∧ OwnCli w' lo 45 (.slice (some ⟨G, 0,none⟩) L.length c) (L.set j (L[j].w_got tx)) := by
 show Calls _ _ #[.pointer (some ⟨G,j * 7,none⟩),.pointer (some ⟨V, 0,none⟩)] _ _
 have c1 := cloneP_any tx W hs
 go_enter Tryz.func78,Tryz.ntmps78
 go_wp2_with fail
 refine c1.mono ?_
 rintro e w2 ⟨rfl,hb2⟩
 have ho2 := ho.below hb2 (Nat.le_refl _)
 obtain ⟨q0,q1,q2,q3,q4,q5,q6⟩ := ho2.cellP j hj
 have t5 := ho2.thaw (j * 7 + 5)
 have HF : Hid (OwnCli (w2.setCell ⟨G,j * 7 + 5,none⟩ (.string tx)) lo 45 (.slice (some ⟨G, 0,none⟩) L.length c) (L.set j (L[j].w_got tx))) := ho2.set_got j hj tx
 have HT : Hid (Tch (fun b => b = G) W (w2.setCell ⟨G,j * 7 + 5,none⟩ (.string tx))) := by
  have h := tch_setV (v := .slice (some ⟨G, 0,none⟩) 0 0) (G := G) (i := j * 7 + 5) (u := .string tx) rfl (Tch.of_below hb2)
  exact h.weak (fun b hb => (Option.some.inj hb).symm)
 clear ho ho2 hb2 hv hf
 go_wp2_with fail
 exact bodyPost_end (results_none rfl _ _ _) rfl ⟨rfl,HT.out,HF.out⟩
set_option maxRecDepth 100000 in
set_option maxHeartbeats 8000000 in
theorem turnP_any (w : World) (lo T : Nat) (X : Pc) (R : Prx) (k : Nat) (hk : k < R.fes.length) (tx part : ByteArray) (st : Int) (rdv : Value) (H : HallAt w lo T X R) (hl : R.fes.length ≤ 1048576) (hm : R.cls.length ≤ 1048576) (hs : tx.size ≤ 1048576) :
  Calls Tryz.prog 50 #[.pointer (some ⟨T, 0,none⟩),.int .i64 (k : Int),.agg #[.int .i64 st,.string tx,rdv],.iface 71 (.agg #[.string part])] w fun e w' => e = .returned (.tuple #[]) ∧ HallAt w' lo T X ⟨R.now,R.ents,R.pol,R.fes.set k (R.fes[k].turn tx st),tellX R.cls k (fun c => c.w_got tx),R.hits⟩ ∧ Below lo w w' := by
 obtain ⟨GF,hGF⟩ : ∃ G,X.f = .slice (some ⟨G, 0,none⟩) R.fes.length (match X.f with | .slice _ _ c => c | _ => 0) ∧ G < w.heap.size ∧ lo ≤ G := by
  obtain ⟨a,c,e1,_⟩ := H.own.f.at
  have h := H.own.f
  rw [e1] at h ⊢
  obtain ⟨G,hG,h1,h2⟩ := row5_addr h (by omega)
  subst hG
  exact ⟨G,rfl,h1,h2⟩
 obtain ⟨cf,hcf⟩ : ∃ c,(match X.f with | .slice _ _ c => c | _ => 0) = c := ⟨_,rfl⟩
 rw [hcf] at hGF
 clear hcf
 obtain ⟨hXf,hGs,hGl⟩ := hGF
 obtain ⟨S,hS⟩ : ∃ S,w.heap.size = S := ⟨_,rfl⟩
 obtain ⟨w1,hw1⟩ : ∃ x,w.alloc (.cells #[.int .i64 st,.string tx,rdv] 105) = x := ⟨_,rfl⟩
 obtain ⟨w2,hw2⟩ : ∃ x,w1.alloc (.cells #[.pointer (some ⟨GF,k * 5,none⟩)] 131) = x := ⟨_,rfl⟩
 have hb1 : Below w.heap.size w w1 := by rw [← hw1]; exact (Below.refl _ _).alloc (Nat.le_refl _) _
 have hb2 : Below w1.heap.size w1 w2 := by rw [← hw2]; exact (Below.refl _ _).alloc (Nat.le_refl _) _
 have s1 : w1.heap.size = S + 1 := by rw [← hw1]; simp [hS]
 have hbw : Below w.heap.size w w2 := hb1.trans (hb2.mono hb1.size)
 have hSB : w2.heap[S]? = some (.cells #[.int .i64 st,.string tx,rdv] 105 (0, 0)) := (hb2.block S (by omega)).trans (by rw [← hw1, ← hS]; exact heap_alloc_new _ _)
 have hVB : w2.heap[S + 1]? = some (.cells #[.pointer (some ⟨GF,k * 5,none⟩)] 131 (0, 0)) := by rw [← hw2, ← s1]; exact heap_alloc_new _ _
 have H2 : HallAt w2 lo T X R := H.on hbw
 have hGX : X.f.ownBlock = some GF := by rw [hXf]; rfl
 have hOF : OwnFet w2 lo 84 (.slice (some ⟨GF, 0,none⟩) R.fes.length cf) R.fes := by have h := H2.own.f; rw [hXf] at h; exact h
 obtain ⟨q0,q1,q2,q3,q4⟩ := hOF.cellP k hk
 have t1 := hOF.thaw (k * 5 + 1)
 have t2 := hOF.thaw (k * 5 + 2)
 have HW : Hid ((w.alloc (.cells #[.int .i64 st,.string tx,rdv] 105)).alloc (.cells #[.pointer (some ⟨GF,k * 5,none⟩)] 131) = w2) := by show _ = _; rw [hw1]; exact hw2
 have hi1 : (0 : Int) ≤ (k : Int) := by omega
 have hi3 : (k : Int) < (R.fes.length : Int) := by omega
 obtain ⟨wd,hwd⟩ : ∃ x,w2.drew = x := ⟨_,rfl⟩
 obtain ⟨w3,hw3⟩ : ∃ x,((w2.setCell ⟨GF,k * 5 + 1,none⟩ (.string tx)).setCell ⟨GF,k * 5 + 2,none⟩ (.int .i64 st)).drew = x := ⟨_,rfl⟩
 have hd : Below w2.heap.size w2 w2.drew := ⟨rfl,rfl,rfl,Nat.le_refl _,fun _ _ => rfl⟩
 have ht3 : Tch (fun b => X.f.ownBlock = some b) w2 w3 := by rw [← hw3]; exact (tch_setV hGX (tch_setV hGX (Tch.of_below (Below.refl _ _)))).trans (Tch.of_below ⟨rfl,rfl,rfl,Nat.le_refl _,fun _ _ => rfl⟩)
 have ho3 : OwnFet w3 lo 84 X.f (R.fes.set k (R.fes[k].turn tx st)) := by
  have h1 := hOF.set_tx k hk tx
  have h2 := OwnFet.set_st (by rw [List.length_set]; exact h1) k (by rw [List.length_set]; exact hk) st
  rw [set_twoF R.fes k hk tx st,List.length_set] at h2
  rw [hXf, ← hw3]
  exact h2.below (B := _) ⟨rfl,rfl,rfl,Nat.le_refl _,fun _ _ => rfl⟩ (Nat.le_refl _)
 obtain ⟨H3,hB3⟩ := H2.setFes ht3 ho3
 have hnf : ∀ b,X.f.ownBlock = some b → b = GF := fun b hb => by rw [hGX] at hb; exact (Option.some.inj hb).symm
 have hV3 : w3.heap[S + 1]? = some (.cells #[.pointer (some ⟨GF,k * 5,none⟩)] 131 (0, 0)) := (ht3.2 (S + 1) (Array.getElem?_eq_some_iff.1 hVB).1 (fun e => by have := hnf _ e; omega)).trans hVB
 have HB3 : Hid (Below lo w w3) := (hbw.mono (by have := H.lt; omega)).trans hB3
 have HW3 : Hid (((w2.setCell ⟨GF,k * 5 + 1,none⟩ (.string tx)).setCell ⟨GF,k * 5 + 2,none⟩ (.int .i64 st)).drew = w3) := hw3
 have KX : ∀ W : World,W.heap[S]? = w2.heap[S]? → W.heap[S + 1]? = w2.heap[S + 1]? → W.cell? ⟨S, 0,none⟩ = some (.int .i64 st) ∧ W.cell? ⟨S, 1,none⟩ = some (.string tx) ∧ W.cell? ⟨S + 1, 0,none⟩ = some (.pointer (some ⟨GF,k * 5,none⟩)) := fun W h1 h2 =>
  ⟨by rw [cell_of_row W S 0 _ _ (0, 0) (h1.trans hSB)]; rfl,by rw [cell_of_row W S 1 _ _ (0, 0) (h1.trans hSB)]; rfl,by rw [cell_of_row W (S + 1) 0 _ _ (0, 0) (h2.trans hVB)]; rfl⟩
 have kx0 := KX w2.drew rfl rfl
 have kx1 := KX (w2.setCell ⟨GF,k * 5 + 1,none⟩ (.string tx)).drew (Below.heap_setCell _ _ _ _ (by show S ≠ GF; omega)) (Below.heap_setCell _ _ _ _ (by show S + 1 ≠ GF; omega))
 have kx2 := KX ((w2.setCell ⟨GF,k * 5 + 1,none⟩ (.string tx)).setCell ⟨GF,k * 5 + 2,none⟩ (.int .i64 st)).drew ((Below.heap_setCell _ _ _ _ (by show S ≠ GF; omega)).trans (Below.heap_setCell _ _ _ _ (by show S ≠ GF; omega))) ((Below.heap_setCell _ _ _ _ (by show S + 1 ≠ GF; omega)).trans (Below.heap_setCell _ _ _ _ (by show S + 1 ≠ GF; omega)))
 have HTR : Hid (w.cell? ⟨T, 6,none⟩ = some (.slice (some ⟨GF, 0,none⟩) R.fes.length cf)) := by have h := H.box.cells.2.2.2.2.2.2.1; rw [hXf] at h; exact h
 have b6 := (hb1.cell (block_lt_of_cell HTR.out)).trans HTR.out
 rw [← hw1] at b6
 have HH3 : Hid (HallAt w3 lo T X ⟨R.now,R.ents,R.pol,R.fes.set k (R.fes[k].turn tx st),R.cls,R.hits⟩) := H3
 have HV3 : Hid (w3.heap[S + 1]? = some (.cells #[.pointer (some ⟨GF,k * 5,none⟩)] 131 (0, 0))) := hV3
 have HGN : Hid (GF < w3.heap.size ∧ S + 1 < w3.heap.size) := ⟨by have := ht3.size; have := hbw.size; omega,(Array.getElem?_eq_some_iff.1 hV3).1⟩
 have HOF3 : Hid (OwnFet w3 lo 84 (.slice (some ⟨GF, 0,none⟩) R.fes.length cf) (R.fes.set k (R.fes[k].turn tx st))) := by have h := ho3; rw [hXf] at h; exact h
 obtain ⟨f',hf'⟩ : ∃ f,(R.fes[k].turn tx st) = f := ⟨_,rfl⟩
 have HTX : Hid (f'.tx = tx) := by show _ = _; rw [← hf']; rfl
 have HF' : Hid ((R.fes[k].turn tx st) = f') := hf'
 rw [hf'] at HH3 HOF3 ⊢
 have HKL : Hid (k < R.fes.length) := hk
 have HSS : Hid (w.heap.size = S) := hS
 clear hw1 hw2 hb1 hb2 hbw hSB hVB H2 hOF hwd hw3 hd ht3 ho3 KX H3 hB3 hnf hV3 hGX hGs hGl H hXf s1 hf' HTR
 go_enter Tryz.func50,Tryz.ntmps50
 go_upto_region 2 with fail
 rw [HW.out]
 go_region_held3 (fun W => W.cell? ⟨S, 0,none⟩ = some (.int .i64 st) ∧ W.cell? ⟨S, 1,none⟩ = some (.string tx) ∧ W.cell? ⟨S + 1, 0,none⟩ = some (.pointer (some ⟨GF,k * 5,none⟩))) (first | with_reducible exact kx0 | with_reducible exact kx1 | with_reducible exact kx2)
  (fail)
 rw [HW3.out]
 clear q0 q1 q2 q3 q4 t1 t2 kx0 kx1 kx2 b6
 obtain ⟨w4,hw4⟩ : ∃ x,w3.alloc (.cells #[.string part] 71) = x := ⟨_,rfl⟩
 have hb4 : Below w3.heap.size w3 w4 := by rw [← hw4]; exact (Below.refl _ _).alloc (Nat.le_refl _) _
 have H4 := HH3.out.on hb4
 have HW4 : Hid (w3.alloc (.cells #[.string part] 71) = w4) := hw4
 have HH4 : Hid (HallAt w4 lo T X ⟨R.now,R.ents,R.pol,R.fes.set k f',R.cls,R.hits⟩) := H4
 have HV4 : Hid (w4.heap[S + 1]? = some (.cells #[.pointer (some ⟨GF,k * 5,none⟩)] 131 (0, 0))) := (hb4.block _ HGN.out.2).trans HV3.out
 have HOF4 : Hid (OwnFet w4 lo 84 (.slice (some ⟨GF, 0,none⟩) R.fes.length cf) (R.fes.set k f')) := HOF3.out.below hb4 (Nat.le_refl _)
 have HB4 : Hid (Below lo w w4) := HB3.out.trans (hb4.mono (Nat.le_trans HH3.out.le (Nat.le_of_lt HH3.out.box.lt)))
 have cT := tellWaiting_any 78 #[.pointer (some ⟨S + 1, 0,none⟩)] (fun c => c.w_got tx) turn1_eg w4 lo T X ⟨R.now,R.ents,R.pol,R.fes.set k f',R.cls,R.hits⟩ k H4 (by have := HKL.out; omega) hm (fun W G c L' j hj hX ht ho => by
  have hne : ∀ b,(∃ e,w4.heap[b]? = some (.cells e 131 (0, 0)) ∨ w4.heap[b]? = some (.cells e 84 (0, 0))) → ¬ b = G := fun b hb e => by
   obtain ⟨cs,h1⟩ := HH4.out.own.c.type G (by show Value.ownBlock X.c = some G; rw [hX]; rfl)
   obtain ⟨e',h2⟩ := hb
   rw [← e] at h1
   rcases h2 with h2 | h2
   ·rw [h2] at h1
    simp only [Option.some.injEq,Obj.cells.injEq] at h1
    exact absurd h1.2.1 (by decide)
   ·rw [h2] at h1
    simp only [Option.some.injEq,Obj.cells.injEq] at h1
    exact absurd h1.2.1 (by decide)
  have hV := HV4.out
  have hVW := ht.keep hV (hne _ ⟨_,.inl hV⟩)
  obtain ⟨csF,hGF4⟩ := HOF4.out.type GF rfl
  have hOW : OwnFet W lo 84 (.slice (some ⟨GF, 0,none⟩) R.fes.length cf) (R.fes.set k f') := HOF4.out.kept fun b hb => ht.2 b (HOF4.out.lt b hb).2 (by have e : b = GF := (Option.some.inj hb).symm; rw [e]; exact hne _ ⟨_,.inr hGF4⟩)
  have hfc := (hOW.cellP k (by rw [List.length_set]; exact HKL.out)).2.1
  rw [List.getElem_set_self,HTX.out] at hfc
  rw [hX] at ho ⊢
  exact turn1_any W lo G c (S + 1) GF (k * 5) tx L' j hj ho (by rw [cell_of_row W (S + 1) 0 _ _ (0, 0) hVW]; rfl) hfc hs)
 clear hb4 H4 hw4 HV3 HGN HOF3 HH3 HB3 HW3 HF'
 have hPP := asPP (.agg #[.string part])
 go_wp2_with fail
 rw [HW4.out]
 refine cT.mono ?_
 rintro e w5 ⟨rfl,ht5,ho5⟩
 obtain ⟨H5,hB5⟩ := HH4.out.setCls ht5 ho5
 have HH5 : Hid (HallAt w5 lo T X ⟨R.now,R.ents,R.pol,R.fes.set k f',tellX R.cls k (fun c => c.w_got tx),R.hits⟩ ∧ Below lo w w5) := ⟨H5,HB4.out.trans hB5⟩
 clear cT ht5 ho5 H5 hB5 HV4 HOF4 HH4 HB4 HW4
 go_wp2_with fail
 exact bodyPost_end (results_none rfl _ _ _) rfl ⟨rfl,HH5.out.1,HH5.out.2⟩
end Go.Proofs.YtaahjcljanckaaaGreatDoor
