/- A law copies proxies. Written by mkprx.py. -/
import Derived.Test.YtpgcfgbhkodmeaaGreatDoorCliLawJ
namespace Go.Proofs.YtpgcfgbhkodmeaaGreatDoor
open Go.RowKit Go.Sort
theorem toEntryS_v (w : World) (v : Value) (L : List En) (hL : EnsV w v L w.heap.size) (hm : L.length ≤ 1048576) :
  Calls Tryz.prog 29 #[v] w fun e w' => ∃ v,e = .returned v ∧ OwnN w' w.heap.size 69 v L ∧ Below w.heap.size w w' := by
 obtain ⟨a,cap,rfl,hA⟩ := hL
 exact toEntryS_any w a cap L hA hm
theorem toFetchS_v (w : World) (v : Value) (L : List Fet) (hL : FetV w v L w.heap.size) (hm : L.length ≤ 1048576) :
  Calls Tryz.prog 53 #[v] w fun e w' => ∃ v,e = .returned v ∧ OwnFet w' w.heap.size 94 v L ∧ Below w.heap.size w w' := by
 obtain ⟨a,cap,rfl,hA⟩ := hL
 exact toFetchS_any w a cap L hA hm
theorem toClientS_v (w : World) (v : Value) (L : List Cli) (hL : CliV w v L w.heap.size) (hm : L.length ≤ 1048576) :
  Calls Tryz.prog 54 #[v] w fun e w' => ∃ v,e = .returned v ∧ OwnCli w' w.heap.size 87 v L ∧ Below w.heap.size w w' := by
 obtain ⟨a,cap,rfl,hA⟩ := hL
 exact toClientS_any w a cap L hA hm
theorem toPolicy_v (w : World) (x y z : Value) (P : Pol) (h : PlV w x y z P w.heap.size) (hsz : PolSz P) :
  Calls Tryz.prog 52 #[.agg #[x,y,z,.int .i64 P.sk.added]] w fun e w' => ∃ a b c,e = .returned (.agg #[a,b,c,.int .i64 P.sk.added]) ∧ POwn w' w.heap.size w'.heap.size (.agg #[a,b,c,.int .i64 P.sk.added]) P ∧ Below w.heap.size w w' := by
 obtain ⟨aw,cw,am,cm,ak,ck,rfl,rfl,rfl,hA⟩ := h.at
 refine (toPolicy_any w aw am ak cw cm ck P hA hsz).mono ?_
 rintro e w' ⟨v,rfl,ho,hb⟩
 obtain ⟨v1,v2,v3,rfl,h1⟩ := id ho
 exact ⟨v1,v2,v3,rfl,ho,hb⟩
set_option maxRecDepth 100000 in
set_option maxHeartbeats 8000000 in
theorem toProxy_any (w : World) (X : Pc) (R : Prx) (hA : PxAt w X R w.heap.size) (hsz : PxSz R) :
  Calls Tryz.prog 12 #[.agg #[.int .i64 R.now,X.e,X.w,X.m,X.k,.int .i64 R.pol.sk.added,X.f,X.c,.int .i64 R.hits]] w fun e w' => ∃ Y : Pc,e = .returned (.agg #[.int .i64 R.now,Y.e,Y.w,Y.m,Y.k,.int .i64 R.pol.sk.added,Y.f,Y.c,.int .i64 R.hits]) ∧ PxOwn w' w.heap.size w'.heap.size Y R ∧ Below w.heap.size w w' := by
 obtain ⟨l1,l2,l3,l4⟩ := hsz.parts
 obtain ⟨w0,hw0⟩ : ∃ x,w.alloc (.cells #[.int .i64 R.now,X.e,X.w,X.m,X.k,.int .i64 R.pol.sk.added,X.f,X.c,.int .i64 R.hits] 32) = x := ⟨_,rfl⟩
 obtain ⟨w1,hw1⟩ : ∃ x,w0.alloc (.cells #[.int .i64 0,.slice none 0 0,.slice none 0 0,.slice none 0 0,.slice none 0 0,.int .i64 0,.slice none 0 0,.slice none 0 0,.int .i64 0] 48) = x := ⟨_,rfl⟩
 obtain ⟨w3,hw3⟩ : ∃ x,w1.alloc (.cells #[.int .i64 R.now,.slice none 0 0,.slice none 0 0,.slice none 0 0,.slice none 0 0,.int .i64 0,.slice none 0 0,.slice none 0 0,.int .i64 0] 48) = x := ⟨_,rfl⟩
 have hb0 : Below w.heap.size w w0 := by rw [← hw0]; exact (Below.refl _ _).alloc (Nat.le_refl _) _
 have hb1 : Below w0.heap.size w0 w1 := by rw [← hw1]; exact (Below.refl _ _).alloc (Nat.le_refl _) _
 have hb2 : Below w1.heap.size w1 w3 := by rw [← hw3]; exact (Below.refl _ _).alloc (Nat.le_refl _) _
 have s0 : w0.heap.size = w.heap.size + 1 := by rw [← hw0]; simp
 have s1 : w1.heap.size = w.heap.size + 2 := by rw [← hw1]; simp; omega
 have s2 : w3.heap.size = w.heap.size + 3 := by rw [← hw3]; simp; omega
 have hb12 : Below w0.heap.size w0 w3 := hb1.trans (hb2.mono hb1.size)
 have hbw3 : Below w.heap.size w w3 := hb0.trans (hb12.mono hb0.size)
 have hB3 : NB w3 w.heap.size 32 (.int .i64 R.now) X.e X.w X.m X.k (.int .i64 R.pol.sk.added) X.f X.c (.int .i64 R.hits) := by
  have h : NB w0 w.heap.size 32 (.int .i64 R.now) X.e X.w X.m X.k (.int .i64 R.pol.sk.added) X.f X.c (.int .i64 R.hits) := by rw [← hw0]; exact NB.new _ _ _ _ _ _ _ _ _ _ _
  exact h.on hb12
 have hR3 : NB w3 (w.heap.size + 1) 48 (.int .i64 0) (.slice none 0 0) (.slice none 0 0) (.slice none 0 0) (.slice none 0 0) (.int .i64 0) (.slice none 0 0) (.slice none 0 0) (.int .i64 0) := by
  have h : NB w1 (w.heap.size + 1) 48 (.int .i64 0) (.slice none 0 0) (.slice none 0 0) (.slice none 0 0) (.slice none 0 0) (.int .i64 0) (.slice none 0 0) (.slice none 0 0) (.int .i64 0) := by rw [← hw1, ← s0]; exact NB.new _ _ _ _ _ _ _ _ _ _ _
  exact h.on hb2
 have hT3 : NB w3 (w.heap.size + 2) 48 (.int .i64 R.now) (.slice none 0 0) (.slice none 0 0) (.slice none 0 0) (.slice none 0 0) (.int .i64 0) (.slice none 0 0) (.slice none 0 0) (.int .i64 0) := by rw [← hw3, ← s1]; exact NB.new _ _ _ _ _ _ _ _ _ _ _
 have hA3 := hA.on hbw3
 have HZ3 : Hid (w3.heap.size = w.heap.size + 3) := s2
 have HA : Hid (∀ W,Below w.heap.size w W → PxAt W X R W.heap.size) := fun W h => hA.on h
 obtain ⟨b0,b1,b2,b3,b4,b5,b6,b7,b8⟩ := hB3.cells
 have HW : Hid (((w.alloc (.cells #[.int .i64 R.now,X.e,X.w,X.m,X.k,.int .i64 R.pol.sk.added,X.f,X.c,.int .i64 R.hits] 32)).alloc (.cells #[.int .i64 0,.slice none 0 0,.slice none 0 0,.slice none 0 0,.slice none 0 0,.int .i64 0,.slice none 0 0,.slice none 0 0,.int .i64 0] 48)).alloc (.cells #[.int .i64 R.now,.slice none 0 0,.slice none 0 0,.slice none 0 0,.slice none 0 0,.int .i64 0,.slice none 0 0,.slice none 0 0,.int .i64 0] 48) = w3) := by rw [hw0,hw1]; exact hw3
 rw [← hw3, ← hw1, ← hw0] at b0 b1 b2 b3 b4 b5 b6 b7 b8
 have c1 := toEntryS_v w3 X.e R.ents hA3.e l1
 clear hw0 hw1 hw3 s0 s1 s2 hb0 hb1 hb2 hb12 hA hA3
 go_enter Tryz.func12,Tryz.ntmps12
 go_wp2_with fail
 rw [HW.out] at b0 b1 b2 b3 b4 b5 b6 b7 b8 ⊢
 refine c1.mono ?_
 rintro e w4 ⟨_,rfl,ho4,hb4⟩
 obtain ⟨ae,ce,rfl,_⟩ := ho4.at
 clear b0 b1 b2 b3 b4 b5 b6 b7 b8 c1
 have hbw4 := hbw3.trans (hb4.mono hbw3.size)
 have hT4 := hT3.on hb4
 have hB4 := hB3.on hb4
 have hR4 := hR3.on hb4
 have HZ4 : Hid (w.heap.size + 3 ≤ w4.heap.size) := by show _ ≤ _; have := HZ3.out; have := hb4.size; omega
 obtain ⟨t0,t1,t2,t3,t4,t5,t6,t7,t8⟩ := hT4.cells
 have f0 := hT4.thaw 1
 obtain ⟨w5,hw5⟩ : ∃ x,(w4.setCell ⟨w.heap.size + 2, 1,none⟩ (.slice ae R.ents.length ce)) = x := ⟨_,rfl⟩
 have k5 : ∀ k,k ≠ w.heap.size + 2 → w5.heap[k]? = w4.heap[k]? := fun k hk => by rw [← hw5]; exact Below.heap_setCell _ _ _ _ (by exact hk)
 have z5 : w5.heap.size = w4.heap.size := by rw [← hw5]; simp
 have hT5 : NB w5 (w.heap.size + 2) 48 (.int .i64 R.now) (.slice ae R.ents.length ce) (.slice none 0 0) (.slice none 0 0) (.slice none 0 0) (.int .i64 0) (.slice none 0 0) (.slice none 0 0) (.int .i64 0) := by rw [← hw5]; exact (hT4.set1 (.slice ae R.ents.length ce))
 have hB5 := hB4.kept (k5 w.heap.size (by omega))
 have hR5 := hR4.kept (k5 (w.heap.size + 1) (by omega))
 have hbw5 : Below w.heap.size w w5 := by rw [← hw5]; exact (hbw4.setCell (by show w.heap.size ≤ w.heap.size + 2; omega) _)
 have HZ5 : Hid (w.heap.size + 3 ≤ w5.heap.size) := by show _ ≤ _; have := HZ4.out; omega
 have HE5 : Hid (OwnN w5 w3.heap.size 69 (.slice ae R.ents.length ce) R.ents) := ho4.kept fun k hk => k5 k (by have := (ho4.lt k hk).1; have := HZ4.out; have := HZ3.out; have := HZ3.out; have := HZ4.out; have := HZ5.out; omega)
 have HW5 : Hid ((w4.setCell ⟨w.heap.size + 2, 1,none⟩ (.slice ae R.ents.length ce)) = w5) := hw5
 have HK5 : Hid (w5.heap.size = w4.heap.size) := z5
 obtain ⟨b0,b1,b2,b3,b4,b5,b6,b7,b8⟩ := hB5.cells
 have hA5 := HA.out w5 hbw5
 have c5 := toPolicy_v w5 X.w X.m X.k R.pol hA5.pol l2
 rw [← hw5] at b0 b1 b2 b3 b4 b5 b6 b7 b8
 clear hw5 hT4 hB4 hR4 hbw4 ho4 hb4 k5 z5
 go_wp2_with fail
 rw [HW5.out] at b0 b1 b2 b3 b4 b5 b6 b7 b8 ⊢
 clear t0 t1 t2 t3 t4 t5 t6 t7 t8 f0
 refine c5.mono ?_
 rintro e w6 ⟨_,_,_,rfl,ho6,hb6⟩
 obtain ⟨aw,cw,am,cm,ak,ck,rfl,rfl,rfl,_⟩ := ho6.pl.2.at
 clear b0 b1 b2 b3 b4 b5 b6 b7 b8 c5
 have hbw6 := hbw5.trans (hb6.mono hbw5.size)
 have hT6 := hT5.on hb6
 have hB6 := hB5.on hb6
 have hR6 := hR5.on hb6
 have HZ6 : Hid (w5.heap.size ≤ w6.heap.size ∧ w.heap.size + 3 ≤ w6.heap.size) := by refine ⟨hb6.size, ?_⟩; have h1 := HZ5.out; have h2 := hb6.size; omega
 have HE6 : Hid (OwnN w6 w3.heap.size 69 (.slice ae R.ents.length ce) R.ents) := HE5.out.below hb6 (Nat.le_refl _)
 have s0 : NB w6 (w.heap.size + 2) 48 (.int .i64 R.now) (.slice ae R.ents.length ce) (.slice none 0 0) (.slice none 0 0) (.slice none 0 0) (.int .i64 0) (.slice none 0 0) (.slice none 0 0) (.int .i64 0) := hT6
 have t0 := s0.cells.2.2.1
 have f0 := s0.thaw 2
 have s1 := s0.set2 (.slice aw R.pol.win.length cw)
 have t1 := s1.cells.2.2.2.1
 have f1 := s1.thaw 3
 have s2 := s1.set3 (.slice am R.pol.main.length cm)
 have t2 := s2.cells.2.2.2.2.1
 have f2 := s2.thaw 4
 have s3 := s2.set4 (.slice ak R.pol.sk.rows.length ck)
 have t3 := s3.cells.2.2.2.2.2.1
 have f3 := s3.thaw 5
 clear s0 s1 s2 s3
 obtain ⟨w7,hw7⟩ : ∃ x,((((w6.setCell ⟨w.heap.size + 2, 2,none⟩ (.slice aw R.pol.win.length cw)).setCell ⟨w.heap.size + 2, 3,none⟩ (.slice am R.pol.main.length cm)).setCell ⟨w.heap.size + 2, 4,none⟩ (.slice ak R.pol.sk.rows.length ck)).setCell ⟨w.heap.size + 2, 5,none⟩ (.int .i64 R.pol.sk.added)) = x := ⟨_,rfl⟩
 have k7 : ∀ k,k ≠ w.heap.size + 2 → w7.heap[k]? = w6.heap[k]? := fun k hk => by rw [← hw7,Below.heap_setCell _ _ _ _ (by exact hk),Below.heap_setCell _ _ _ _ (by exact hk),Below.heap_setCell _ _ _ _ (by exact hk),Below.heap_setCell _ _ _ _ (by exact hk)]
 have z7 : w7.heap.size = w6.heap.size := by rw [← hw7]; simp
 have hT7 : NB w7 (w.heap.size + 2) 48 (.int .i64 R.now) (.slice ae R.ents.length ce) (.slice aw R.pol.win.length cw) (.slice am R.pol.main.length cm) (.slice ak R.pol.sk.rows.length ck) (.int .i64 R.pol.sk.added) (.slice none 0 0) (.slice none 0 0) (.int .i64 0) := by rw [← hw7]; exact ((((hT6.set2 (.slice aw R.pol.win.length cw)).set3 (.slice am R.pol.main.length cm)).set4 (.slice ak R.pol.sk.rows.length ck)).set5 (.int .i64 R.pol.sk.added))
 have hB7 := hB6.kept (k7 w.heap.size (by omega))
 have hR7 := hR6.kept (k7 (w.heap.size + 1) (by omega))
 have hbw7 : Below w.heap.size w w7 := by rw [← hw7]; exact ((((hbw6.setCell (by show w.heap.size ≤ w.heap.size + 2; omega) _).setCell (by show w.heap.size ≤ w.heap.size + 2; omega) _).setCell (by show w.heap.size ≤ w.heap.size + 2; omega) _).setCell (by show w.heap.size ≤ w.heap.size + 2; omega) _)
 have HZ7 : Hid (w.heap.size + 3 ≤ w7.heap.size) := by show _ ≤ _; have := HZ6.out; omega
 have HE7 : Hid (OwnN w7 w3.heap.size 69 (.slice ae R.ents.length ce) R.ents) := HE6.out.kept fun k hk => k7 k (by have := (HE6.out.lt k hk).1; have := HZ6.out; have := HZ3.out; have := HZ3.out; have := HZ4.out; have := HZ5.out; have := HK5.out; have := HZ6.out; have := HZ7.out; omega)
 have HP7 : Hid (POwn w7 w5.heap.size w6.heap.size (.agg #[(.slice aw R.pol.win.length cw),(.slice am R.pol.main.length cm),(.slice ak R.pol.sk.rows.length ck),.int .i64 R.pol.sk.added]) R.pol) := ho6.keptT fun k hk1 _ _ _ => k7 k (by have := HZ6.out; have := HZ3.out; have := HZ3.out; have := HZ4.out; have := HZ5.out; have := HK5.out; have := HZ6.out; have := HZ7.out; omega)
 have HW7 : Hid (((((w6.setCell ⟨w.heap.size + 2, 2,none⟩ (.slice aw R.pol.win.length cw)).setCell ⟨w.heap.size + 2, 3,none⟩ (.slice am R.pol.main.length cm)).setCell ⟨w.heap.size + 2, 4,none⟩ (.slice ak R.pol.sk.rows.length ck)).setCell ⟨w.heap.size + 2, 5,none⟩ (.int .i64 R.pol.sk.added)) = w7) := hw7
 have HK7 : Hid (w7.heap.size = w6.heap.size) := z7
 obtain ⟨b0,b1,b2,b3,b4,b5,b6,b7,b8⟩ := hB7.cells
 have hA7 := HA.out w7 hbw7
 have c7 := toFetchS_v w7 X.f R.fes hA7.f l3
 rw [← hw7] at b0 b1 b2 b3 b4 b5 b6 b7 b8
 clear hw7 hT6 hB6 hR6 hbw6 ho6 hb6 k7 z7 HE6
 go_wp2_with fail
 rw [HW7.out] at b0 b1 b2 b3 b4 b5 b6 b7 b8 ⊢
 clear t0 f0 t1 f1 t2 f2 t3 f3
 refine c7.mono ?_
 rintro e w8 ⟨_,rfl,ho8,hb8⟩
 obtain ⟨af,cf,rfl,_⟩ := ho8.at
 clear b0 b1 b2 b3 b4 b5 b6 b7 b8 c7
 have hbw8 := hbw7.trans (hb8.mono hbw7.size)
 have hT8 := hT7.on hb8
 have hB8 := hB7.on hb8
 have hR8 := hR7.on hb8
 have HZ8 : Hid (w7.heap.size ≤ w8.heap.size ∧ w.heap.size + 3 ≤ w8.heap.size) := by refine ⟨hb8.size, ?_⟩; have h1 := HZ7.out; have h2 := hb8.size; omega
 have HE8 : Hid (OwnN w8 w3.heap.size 69 (.slice ae R.ents.length ce) R.ents) := HE7.out.below hb8 (Nat.le_refl _)
 have HP8 : Hid (POwn w8 w5.heap.size w6.heap.size (.agg #[(.slice aw R.pol.win.length cw),(.slice am R.pol.main.length cm),(.slice ak R.pol.sk.rows.length ck),.int .i64 R.pol.sk.added]) R.pol) := HP7.out.below hb8 (Nat.le_refl _)
 obtain ⟨t0,t1,t2,t3,t4,t5,t6,t7,t8⟩ := hT8.cells
 have f0 := hT8.thaw 6
 obtain ⟨w9,hw9⟩ : ∃ x,(w8.setCell ⟨w.heap.size + 2, 6,none⟩ (.slice af R.fes.length cf)) = x := ⟨_,rfl⟩
 have k9 : ∀ k,k ≠ w.heap.size + 2 → w9.heap[k]? = w8.heap[k]? := fun k hk => by rw [← hw9]; exact Below.heap_setCell _ _ _ _ (by exact hk)
 have z9 : w9.heap.size = w8.heap.size := by rw [← hw9]; simp
 have hT9 : NB w9 (w.heap.size + 2) 48 (.int .i64 R.now) (.slice ae R.ents.length ce) (.slice aw R.pol.win.length cw) (.slice am R.pol.main.length cm) (.slice ak R.pol.sk.rows.length ck) (.int .i64 R.pol.sk.added) (.slice af R.fes.length cf) (.slice none 0 0) (.int .i64 0) := by rw [← hw9]; exact (hT8.set6 (.slice af R.fes.length cf))
 have hB9 := hB8.kept (k9 w.heap.size (by omega))
 have hR9 := hR8.kept (k9 (w.heap.size + 1) (by omega))
 have hbw9 : Below w.heap.size w w9 := by rw [← hw9]; exact (hbw8.setCell (by show w.heap.size ≤ w.heap.size + 2; omega) _)
 have HZ9 : Hid (w.heap.size + 3 ≤ w9.heap.size) := by show _ ≤ _; have := HZ8.out; omega
 have HE9 : Hid (OwnN w9 w3.heap.size 69 (.slice ae R.ents.length ce) R.ents) := HE8.out.kept fun k hk => k9 k (by have := (HE8.out.lt k hk).1; have := HZ8.out; have := HZ3.out; have := HZ3.out; have := HZ4.out; have := HZ5.out; have := HK5.out; have := HZ6.out; have := HZ7.out; have := HK7.out; have := HZ8.out; have := HZ9.out; omega)
 have HP9 : Hid (POwn w9 w5.heap.size w6.heap.size (.agg #[(.slice aw R.pol.win.length cw),(.slice am R.pol.main.length cm),(.slice ak R.pol.sk.rows.length ck),.int .i64 R.pol.sk.added]) R.pol) := HP8.out.keptT fun k hk1 _ _ _ => k9 k (by have := HZ8.out; have := HZ3.out; have := HZ3.out; have := HZ4.out; have := HZ5.out; have := HK5.out; have := HZ6.out; have := HZ7.out; have := HK7.out; have := HZ8.out; have := HZ9.out; omega)
 have HF9 : Hid (OwnFet w9 w7.heap.size 94 (.slice af R.fes.length cf) R.fes) := ho8.kept fun k hk => k9 k (by have := (ho8.lt k hk).1; have := HZ8.out; have := HZ3.out; have := HZ3.out; have := HZ4.out; have := HZ5.out; have := HK5.out; have := HZ6.out; have := HZ7.out; have := HK7.out; have := HZ8.out; have := HZ9.out; omega)
 have HW9 : Hid ((w8.setCell ⟨w.heap.size + 2, 6,none⟩ (.slice af R.fes.length cf)) = w9) := hw9
 have HK9 : Hid (w9.heap.size = w8.heap.size) := z9
 obtain ⟨b0,b1,b2,b3,b4,b5,b6,b7,b8⟩ := hB9.cells
 have hA9 := HA.out w9 hbw9
 have c9 := toClientS_v w9 X.c R.cls hA9.c l4
 rw [← hw9] at b0 b1 b2 b3 b4 b5 b6 b7 b8
 clear hw9 hT8 hB8 hR8 hbw8 ho8 hb8 k9 z9 HE8 HP8
 go_wp2_with fail
 rw [HW9.out] at b0 b1 b2 b3 b4 b5 b6 b7 b8 ⊢
 clear t0 t1 t2 t3 t4 t5 t6 t7 t8 f0
 refine c9.mono ?_
 rintro e w10 ⟨_,rfl,ho10,hb10⟩
 obtain ⟨ac,cc,rfl,_⟩ := ho10.at
 clear b0 b1 b2 b3 b4 b5 b6 b7 b8 c9
 have hbw10 := hbw9.trans (hb10.mono hbw9.size)
 have hT10 := hT9.on hb10
 have hB10 := hB9.on hb10
 have hR10 := hR9.on hb10
 have HZ10 : Hid (w9.heap.size ≤ w10.heap.size ∧ w.heap.size + 3 ≤ w10.heap.size) := by refine ⟨hb10.size, ?_⟩; have h1 := HZ9.out; have h2 := hb10.size; omega
 have HE10 : Hid (OwnN w10 w3.heap.size 69 (.slice ae R.ents.length ce) R.ents) := HE9.out.below hb10 (Nat.le_refl _)
 have HP10 : Hid (POwn w10 w5.heap.size w6.heap.size (.agg #[(.slice aw R.pol.win.length cw),(.slice am R.pol.main.length cm),(.slice ak R.pol.sk.rows.length ck),.int .i64 R.pol.sk.added]) R.pol) := HP9.out.below hb10 (Nat.le_refl _)
 have HF10 : Hid (OwnFet w10 w7.heap.size 94 (.slice af R.fes.length cf) R.fes) := HF9.out.below hb10 (Nat.le_refl _)
 obtain ⟨t0,t1,t2,t3,t4,t5,t6,t7,t8⟩ := hT10.cells
 have f0 := hT10.thaw 7
 obtain ⟨w11,hw11⟩ : ∃ x,(w10.setCell ⟨w.heap.size + 2, 7,none⟩ (.slice ac R.cls.length cc)) = x := ⟨_,rfl⟩
 have k11 : ∀ k,k ≠ w.heap.size + 2 → w11.heap[k]? = w10.heap[k]? := fun k hk => by rw [← hw11]; exact Below.heap_setCell _ _ _ _ (by exact hk)
 have z11 : w11.heap.size = w10.heap.size := by rw [← hw11]; simp
 have hT11 : NB w11 (w.heap.size + 2) 48 (.int .i64 R.now) (.slice ae R.ents.length ce) (.slice aw R.pol.win.length cw) (.slice am R.pol.main.length cm) (.slice ak R.pol.sk.rows.length ck) (.int .i64 R.pol.sk.added) (.slice af R.fes.length cf) (.slice ac R.cls.length cc) (.int .i64 0) := by rw [← hw11]; exact (hT10.set7 (.slice ac R.cls.length cc))
 have hB11 := hB10.kept (k11 w.heap.size (by omega))
 have hR11 := hR10.kept (k11 (w.heap.size + 1) (by omega))
 have hbw11 : Below w.heap.size w w11 := by rw [← hw11]; exact (hbw10.setCell (by show w.heap.size ≤ w.heap.size + 2; omega) _)
 have HZ11 : Hid (w.heap.size + 3 ≤ w11.heap.size) := by show _ ≤ _; have := HZ10.out; omega
 have HE11 : Hid (OwnN w11 w3.heap.size 69 (.slice ae R.ents.length ce) R.ents) := HE10.out.kept fun k hk => k11 k (by have := (HE10.out.lt k hk).1; have := HZ10.out; have := HZ3.out; have := HZ3.out; have := HZ4.out; have := HZ5.out; have := HK5.out; have := HZ6.out; have := HZ7.out; have := HK7.out; have := HZ8.out; have := HZ9.out; have := HK9.out; have := HZ10.out; have := HZ11.out; omega)
 have HP11 : Hid (POwn w11 w5.heap.size w6.heap.size (.agg #[(.slice aw R.pol.win.length cw),(.slice am R.pol.main.length cm),(.slice ak R.pol.sk.rows.length ck),.int .i64 R.pol.sk.added]) R.pol) := HP10.out.keptT fun k hk1 _ _ _ => k11 k (by have := HZ10.out; have := HZ3.out; have := HZ3.out; have := HZ4.out; have := HZ5.out; have := HK5.out; have := HZ6.out; have := HZ7.out; have := HK7.out; have := HZ8.out; have := HZ9.out; have := HK9.out; have := HZ10.out; have := HZ11.out; omega)
 have HF11 : Hid (OwnFet w11 w7.heap.size 94 (.slice af R.fes.length cf) R.fes) := HF10.out.kept fun k hk => k11 k (by have := (HF10.out.lt k hk).1; have := HZ10.out; have := HZ3.out; have := HZ3.out; have := HZ4.out; have := HZ5.out; have := HK5.out; have := HZ6.out; have := HZ7.out; have := HK7.out; have := HZ8.out; have := HZ9.out; have := HK9.out; have := HZ10.out; have := HZ11.out; omega)
 have HC11 : Hid (OwnCli w11 w9.heap.size 87 (.slice ac R.cls.length cc) R.cls) := ho10.kept fun k hk => k11 k (by have := (ho10.lt k hk).1; have := HZ10.out; have := HZ3.out; have := HZ3.out; have := HZ4.out; have := HZ5.out; have := HK5.out; have := HZ6.out; have := HZ7.out; have := HK7.out; have := HZ8.out; have := HZ9.out; have := HK9.out; have := HZ10.out; have := HZ11.out; omega)
 have HW11 : Hid ((w10.setCell ⟨w.heap.size + 2, 7,none⟩ (.slice ac R.cls.length cc)) = w11) := hw11
 have HK11 : Hid (w11.heap.size = w10.heap.size) := z11
 have t8 := hT11.cells.2.2.2.2.2.2.2.2
 have f8 := hT11.thaw 8
 have a8 := hB11.cells.2.2.2.2.2.2.2.2
 obtain ⟨w12,hw12⟩ : ∃ x,w11.setCell ⟨w.heap.size + 2, 8,none⟩ (.int .i64 R.hits) = x := ⟨_,rfl⟩
 have k12 : ∀ k,k ≠ w.heap.size + 2 → w12.heap[k]? = w11.heap[k]? := fun k hk => by rw [← hw12]; exact Below.heap_setCell _ _ _ _ (by exact hk)
 have hT12 : NB w12 (w.heap.size + 2) 48 (.int .i64 R.now) (.slice ae R.ents.length ce) (.slice aw R.pol.win.length cw) (.slice am R.pol.main.length cm) (.slice ak R.pol.sk.rows.length ck) (.int .i64 R.pol.sk.added) (.slice af R.fes.length cf) (.slice ac R.cls.length cc) (.int .i64 R.hits) := by rw [← hw12]; exact hT11.set8 _
 have hR12 := hR11.kept (k12 (w.heap.size + 1) (by omega))
 have hbw12 : Below w.heap.size w w12 := by rw [← hw12]; exact hbw11.setCell (by show w.heap.size ≤ w.heap.size + 2; omega) _
 have z12 : w12.heap.size = w11.heap.size := by rw [← hw12]; simp
 have HPX : Hid (PxOwn w12 w.heap.size w12.heap.size ⟨(.slice ae R.ents.length ce),(.slice aw R.pol.win.length cw),(.slice am R.pol.main.length cm),(.slice ak R.pol.sk.rows.length ck),(.slice af R.fes.length cf),(.slice ac R.cls.length cc)⟩ R) := by
  have q1 := HE11.out.kept (w' := w12) fun k hk => k12 k (by have := (HE11.out.lt k hk).1; have := HZ3.out; have := HZ3.out; have := HZ4.out; have := HZ5.out; have := HK5.out; have := HZ6.out; have := HZ7.out; have := HK7.out; have := HZ8.out; have := HZ9.out; have := HK9.out; have := HZ10.out; have := HZ11.out; have := HK11.out; omega)
  have q2 := HP11.out.keptT (w' := w12) fun k hk1 _ _ _ => k12 k (by have := HZ3.out; have := HZ3.out; have := HZ4.out; have := HZ5.out; have := HK5.out; have := HZ6.out; have := HZ7.out; have := HK7.out; have := HZ8.out; have := HZ9.out; have := HK9.out; have := HZ10.out; have := HZ11.out; have := HK11.out; omega)
  have q3 := HF11.out.kept (w' := w12) fun k hk => k12 k (by have := (HF11.out.lt k hk).1; have := HZ3.out; have := HZ3.out; have := HZ4.out; have := HZ5.out; have := HK5.out; have := HZ6.out; have := HZ7.out; have := HK7.out; have := HZ8.out; have := HZ9.out; have := HK9.out; have := HZ10.out; have := HZ11.out; have := HK11.out; omega)
  have q4 := HC11.out.kept (w' := w12) fun k hk => k12 k (by have := (HC11.out.lt k hk).1; have := HZ3.out; have := HZ3.out; have := HZ4.out; have := HZ5.out; have := HK5.out; have := HZ6.out; have := HZ7.out; have := HK7.out; have := HZ8.out; have := HZ9.out; have := HK9.out; have := HZ10.out; have := HZ11.out; have := HK11.out; omega)
  exact ⟨q1.mono (by have := HZ3.out; have := HZ3.out; have := HZ4.out; have := HZ5.out; have := HK5.out; have := HZ6.out; have := HZ7.out; have := HK7.out; have := HZ8.out; have := HZ9.out; have := HK9.out; have := HZ10.out; have := HZ11.out; have := HK11.out; omega),(q2.mono (by have := HZ3.out; have := HZ3.out; have := HZ4.out; have := HZ5.out; have := HK5.out; have := HZ6.out; have := HZ7.out; have := HK7.out; have := HZ8.out; have := HZ9.out; have := HK9.out; have := HZ10.out; have := HZ11.out; have := HK11.out; omega) (Nat.le_refl _)).up,q3.mono (by have := HZ3.out; have := HZ3.out; have := HZ4.out; have := HZ5.out; have := HK5.out; have := HZ6.out; have := HZ7.out; have := HK7.out; have := HZ8.out; have := HZ9.out; have := HK9.out; have := HZ10.out; have := HZ11.out; have := HK11.out; omega),q4.mono (by have := HZ3.out; have := HZ3.out; have := HZ4.out; have := HZ5.out; have := HK5.out; have := HZ6.out; have := HZ7.out; have := HK7.out; have := HZ8.out; have := HZ9.out; have := HK9.out; have := HZ10.out; have := HZ11.out; have := HK11.out; omega),fun k hk => (q1.lt k hk).2,fun k hk => (q3.lt k hk).2,fun k hk => (q4.lt k hk).2⟩
 obtain ⟨y0,y1,y2,y3,y4,y5,y6,y7,y8⟩ := hT12.cells
 obtain ⟨r0,r1,r2,r3,r4,r5,r6,r7,r8⟩ := hR12.cells
 have g0 := hR12.thaw 0
 have g1 := hR12.thaw 1
 have g2 := hR12.thaw 2
 have g3 := hR12.thaw 3
 have g4 := hR12.thaw 4
 have g5 := hR12.thaw 5
 have g6 := hR12.thaw 6
 have g7 := hR12.thaw 7
 have g8 := hR12.thaw 8
 have HWF : Hid (w11.setCell ⟨w.heap.size + 2, 8,none⟩ (.int .i64 R.hits) = w12) := hw12
 rw [← hw12] at y0 y1 y2 y3 y4 y5 y6 y7 y8 r0 r1 r2 r3 r4 r5 r6 r7 r8 g0 g1 g2 g3 g4 g5 g6 g7 g8
 rw [← hw11] at a8 t8 f8 y0 y1 y2 y3 y4 y5 y6 y7 y8 r0 r1 r2 r3 r4 r5 r6 r7 r8 g0 g1 g2 g3 g4 g5 g6 g7 g8
 have hq := hR12.put (.int .i64 R.now) (.slice ae R.ents.length ce) (.slice aw R.pol.win.length cw) (.slice am R.pol.main.length cm) (.slice ak R.pol.sk.rows.length ck) (.int .i64 R.pol.sk.added) (.slice af R.fes.length cf) (.slice ac R.cls.length cc) (.int .i64 R.hits)
 clear hw11 hw12 k12 hT10 hB10 hR10 hbw10 ho10 hb10 k11 z11 HE10 HP10 HF10 hT11 hB11 hR11 hbw11 hT12 HE11 HP11 HF11 HC11
 go_wp2_with fail
 rw [HW11.out,HWF.out]
 obtain ⟨q0,q1,q2,q3,q4,q5,q6,q7,q8⟩ := hq.cells
 refine bodyPost_ret (v := .agg #[.int .i64 R.now,(.slice ae R.ents.length ce),(.slice aw R.pol.win.length cw),(.slice am R.pol.main.length cm),(.slice ak R.pol.sk.rows.length ck),.int .i64 R.pol.sk.added,(.slice af R.fes.length cf),(.slice ac R.cls.length cc),.int .i64 R.hits]) (by simp [results,Tryz.results12,go_sem,q0,q1,q2,q3,q4,q5,q6,q7,q8]) rfl ⟨⟨(.slice ae R.ents.length ce),(.slice aw R.pol.win.length cw),(.slice am R.pol.main.length cm),(.slice ak R.pol.sk.rows.length ck),(.slice af R.fes.length cf),(.slice ac R.cls.length cc)⟩,rfl, ?_,Below.put9 hbw12 (by omega) _ _ _ _ _ _ _ _ _⟩
 refine (HPX.out.box hR12 (by unfold PxT; decide) fun k hk => put9_other _ _ _ _ _ _ _ _ _ _ _ k hk).mono (Nat.le_refl _) ?_
 simp
end Go.Proofs.YtpgcfgbhkodmeaaGreatDoor
