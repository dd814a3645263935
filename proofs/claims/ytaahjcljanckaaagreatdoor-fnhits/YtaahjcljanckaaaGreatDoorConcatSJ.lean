/- Texts that stand in one: ConcatS, SkOkSpec, PolOkSpec. -/
import Derived.Test.YtaahjcljanckaaaGreatDoorCliLawJ
import Derived.Test.YtaahjcljanckaaaGreatDoorSkStepJ
import Derived.Lib.AppendZerosOnto
import Derived.Deep.RegionLaw
import Derived.Test.YtaahjcljanckaaaGreatDoorSkBaseJ
import Derived.Lib.QuietBelow
import Derived.BigQuiet
namespace Go.Proofs.YtaahjcljanckaaaGreatDoor
open Go.RowKit Go.Sort
theorem wpList_plusS {P : Program} {ops : Array Oper} {rest : List Oper} {o : Oper} {a : Act} {Q : Exit → Act → World → Prop} {w : World} (hgd : o.guard = none) (s x : Operand) (t : TypeId)
  (ho : o.op = .call { callee := .builtin .append,args := #[s,x],argTypes := #[t,t] }) (base : Nat) (e : TypeId) (ht : P.underlying t = some (.slice e))
  (hinfo : (P.info? e).map (fun i => (i.zero,i.size,i.bytes)) = some (some (.string ⟨#[]⟩), 1, 16)) (v : Value) (A : List ByteArray) (hs : a.eval s = v) (hown : OwnV w base e v (strs A))
  (a0 : Option Addr) (cap : Nat) (l : List ByteArray) (B : Nat) (hx : a.eval x = .slice a0 l.length cap) (hI : LAt w a0 l B) (hlen : A.length + l.length ≤ 2000000) (hbase : base ≤ w.heap.size)
  (h : ∀ v' w',OwnV w' base e v' (strs (A ++ l)) → w.grownBy w' v.ownBlock → wpList P ops Q rest (a.put o.dst v') w') :
  wpList P ops Q (o :: rest) a w := by
 obtain ⟨i0,hi,hz0,hz1,hz2⟩ := info_parts hinfo
 have hsl := strs_length A
 cases a0 with
 | some ad =>
  refine wpList_append_own _ hgd s x t ho base e i0 _ 1 16 ht hi hz0 hz1 hz2 rfl (by decide) v A.length (strs A) hs (by unfold OwnV at hown; rw [strs_length] at hown; exact hown) ad l.length cap (strs l) hx (by rw [strs_length]; omega) (hI.srcS.2 ad rfl) (strs_one l) (by unfold maxLen; omega) (by omega) hbase ?_
  intro v' w' h1 h2 _
  refine h v' w' ?_ h2
  unfold OwnV
  rw [strs_append,List.length_append,strs_length,strs_length]
  exact h1
 | none =>
  have : l = [] := List.length_eq_zero_iff.1 (hI.srcS.1 rfl)
  subst this
  refine wpList_plain hgd fun K hK => ?_
  have hrun : (Builtin.append_ #[t,t] o.type #[v,.slice none 0 cap]).run P w = .ok v w := by
   rcases hown.2 with ⟨rfl,_⟩ | ⟨g,cp,cur,rfl,_,_,hnc,_⟩
   ·simp [Builtin.append_,run_underlying ht,sizeOf,typeInfo,hi,Builtin.lenOf,Builtin.firstCells]
   ·simp [Builtin.append_,run_underlying ht,sizeOf,typeInfo,hi,Builtin.lenOf,Builtin.firstCells,storeCells,hnc]
  unfold Oper.wp
  simp at hx
  simp [execOp,ho,resolve,invoke,builtin,hs,hx,hrun,Result.andThen]
  exact hK _ _ (h v w (by simpa using hown) ⟨rfl,rfl,rfl,Nat.le_refl _,fun _ _ _ => rfl⟩)
set_option maxRecDepth 100000 in
set_option maxHeartbeats 2000000 in
theorem growS_any (w : World) (n : Nat) (hn : n ≤ 1048600) :
  Calls Tryz.prog 85 #[.slice none 0 0,.int .i64 n] w fun e w' => ∃ v,e = .returned v ∧ OwnV w' w.heap.size 9 v (strs []) ∧ Below w.heap.size w w' := by
 by_cases h0 : n = 0
 ·subst h0
  go_enter Tryz.func85,Tryz.ntmps85
  go_wp2
  go_ret
  exact ⟨_,rfl,⟨rfl,.inl ⟨rfl,rfl⟩⟩,Below.refl _ _⟩
 ·obtain ⟨i0,hi0,hz0,hzs,hzb⟩ := info_parts Tryz.infoSK
  have hold : (Builtin.firstCells i0.size 0 (.slice none 0 0)).run Tryz.prog w.drew = .ok ([] : List Value).toArray w.drew := by
   rw [hzs]
   exact run_firstCells_none w.drew 1 0 0 0
  obtain ⟨G,hG⟩ : ∃ G,G = grownCap w (0 + n) 0 9 := ⟨_,rfl⟩
  have hGn : 0 + n ≤ G := by rw [hG]; exact grownCap_ge w _ _ _
  have hG63 : G ≤ maxLen := by rw [hG]; exact grownCap_le_maxLen w (0 + n) 0 9 (by unfold maxLen; omega)
  obtain ⟨ROW,hROW⟩ : ∃ ROW : Array Value,ROW = ([] : List Value).toArray ++ Builtin.zeroCells (Value.string ⟨#[]⟩).cells n ++ Builtin.zeroCells (Value.string ⟨#[]⟩).cells (G - (0 + n)) := ⟨_,rfl⟩
  have hRl : ROW.size = G * 1 := by
   have hzl : ∀ k,(Builtin.zeroCells (Value.string ⟨#[]⟩).cells k).size = k * 1 := fun k => by simp [Builtin.zeroCells,Value.cells]
   rw [hROW,Array.size_append,Array.size_append,hzl,hzl]
   simp
   omega
  have hrz : ∀ ty,(Builtin.append_ #[27, 3] ty #[.slice none 0 0,.int .i64 (n : Int)]).run Tryz.prog w = .ok (.slice (some ⟨w.heap.size, 0,none⟩) n G) (w.drew.alloc (.cells ROW 9)) := fun ty => by
   have h := Lib.run_append_grow_zeros w 27 3 ty 9 i0 _ .i64 .i64 Tryz.underlying27 Tryz.underlying3 hi0 hz0 none 0 0 [] hold n (by omega) (by omega) (by omega) (by omega) (by rw [hzb]; omega) (by rw [hzb]; exact growslice_fits (by omega) (by omega))
   rw [← hG, ← hROW,Nat.zero_add] at h
   exact h
  obtain ⟨W1,hW1⟩ : ∃ W1,w.drew.alloc (.cells ROW 9) = W1 := ⟨_,rfl⟩
  rw [hW1] at hrz
  have HW : Hid (OwnV W1 w.heap.size 9 (.slice (some ⟨w.heap.size, 0,none⟩) 0 G) (strs []) ∧ Below w.heap.size w W1) := by
   rw [← hW1]
   refine ⟨⟨rfl,.inr ⟨w.heap.size,G,ROW,rfl,Nat.le_refl _,heap_alloc_new w.drew _,Nat.zero_le _,hG63,hRl,by simp [strs]⟩⟩, ?_⟩
   exact (show Below w.heap.size w w.drew from ⟨rfl,rfl,rfl,Nat.le_refl _,fun _ _ => rfl⟩).alloc (Nat.le_refl _) _
  obtain ⟨S,hS⟩ : ∃ S,w.heap.size = S := ⟨_,rfl⟩
  rw [hS] at hrz HW
  have HS : Hid (w.heap.size = S) := hS
  clear hold hROW hG hRl hW1 hS
  have hp : ¬ ((n : Int) < 0) := by omega
  have hp2 : (0 : Int) < (n : Int) := by omega
  have hw1 : IntKind.i64.wrap ((n : Int) - 0) = (n : Int) := by rw [IntKind.wrap_i64]; omega
  go_enter Tryz.func85,Tryz.ntmps85
  go_wp2_with (at_builtin; refine Lib.wpList_append_run _ rfl _ _ _ _ rfl _ _ rfl rfl _ _ (hrz _) ?_)
  go_ret
  rw [HS.out]
  exact ⟨_,rfl,HW.out.1,HW.out.2⟩
set_option maxRecDepth 100000 in
set_option maxHeartbeats 2000000 in
theorem concatS_any (w : World) (vb : Nat) (a1 a2 : Option Addr) (c1 c2 : Nat) (A B : List ByteArray) (hv0 : w.cell? ⟨vb, 0,none⟩ = some (.slice a1 A.length c1)) (hv1 : w.cell? ⟨vb, 1,none⟩ = some (.slice a2 B.length c2)) (hvb : vb < w.heap.size)
  (hA : LAt w a1 A w.heap.size) (hB : LAt w a2 B w.heap.size) (hm : A.length + B.length ≤ 1048600) :
  Calls Tryz.prog 52 #[.slice (some ⟨vb, 0,none⟩) 2 2] w fun e w' => ∃ v,e = .returned v ∧ OwnV w' w.heap.size 9 v (strs (A ++ B)) ∧ Below w.heap.size w w' := by
 have HV : Hid (∀ wi,Below w.heap.size w wi → wi.cell? ⟨vb, 0,none⟩ = some (.slice a1 A.length c1) ∧ wi.cell? ⟨vb, 1,none⟩ = some (.slice a2 B.length c2) ∧ LAt wi a1 A w.heap.size ∧ LAt wi a2 B w.heap.size) := fun wi hi =>
  ⟨(hi.cell (p := ⟨vb, 0,none⟩) hvb).trans hv0,(hi.cell (p := ⟨vb, 1,none⟩) hvb).trans hv1,hA.below hi (Nat.le_refl _),hB.below hi (Nat.le_refl _)⟩
 clear hA hB
 have hn1 : (A.length : Int) ≤ 1048600 := by omega
 have hn2 : (B.length : Int) ≤ 1048600 := by omega
 go_enter Tryz.func52,Tryz.ntmps52
 go_wp2
 go_loopw [3, 11] (fun s k wr => Box (wr = w ∧ ((k = .int .i64 0 ∧ s = .int .i64 0) ∨ (k = .int .i64 1 ∧ s = .int .i64 A.length) ∨ (k = .int .i64 2 ∧ s = .int .i64 ((A.length : Int) + B.length)))))
  (fun _ k _ => 2 - (intOf k).toNat)
 case atStart => exact ⟨⟨rfl,.inl ⟨rfl,rfl⟩⟩⟩
 case round =>
  obtain ⟨hwr,⟨rfl,rfl⟩ | ⟨rfl,rfl⟩ | ⟨rfl,rfl⟩⟩ := hrel.out
  all_goals rw [hwr]
  all_goals clear hwr
  ·clear hrel
   go_wp2
   go_roundw
   case rel =>
    try ((repeat apply Exists.intro); refine ⟨?_,rfl⟩)
    exact ⟨⟨by first | rfl | trivial,.inr (.inl ⟨by go_num,by go_num⟩)⟩⟩
   case measure => simp [intOf]
  ·clear hrel
   have hw1 : IntKind.i64.wrap ((A.length : Int) + (B.length : Int)) = (A.length : Int) + (B.length : Int) := by rw [IntKind.wrap_i64]; omega
   have hp : ¬ ((A.length : Int) + (B.length : Int) < 0) := by omega
   go_wp2
   go_roundw
   case rel =>
    try ((repeat apply Exists.intro); refine ⟨?_,rfl⟩)
    exact ⟨⟨by first | rfl | trivial,.inr (.inr ⟨by go_num,by go_num⟩)⟩⟩
   case measure => simp [intOf]
  ·clear hrel
   have cg := growS_any w (A.length + B.length) (by omega)
   rw [show ((A.length + B.length : Nat) : Int) = (A.length : Int) + B.length by omega] at cg
   clear hv0 hv1
   go_wp2_with fail
   refine cg.mono ?_
   rintro e w1 ⟨v1,rfl,ho1,hb1⟩
   clear cg
   go_wp2
   go_loopw [6, 27] (fun v k w2 => Box (Below w.heap.size w w2 ∧ ((k = .int .i64 0 ∧ OwnV w2 w.heap.size 9 v (strs [])) ∨ (k = .int .i64 1 ∧ OwnV w2 w.heap.size 9 v (strs A)) ∨ (k = .int .i64 2 ∧ OwnV w2 w.heap.size 9 v (strs (A ++ B))))))
    (fun _ k _ => 2 - (intOf k).toNat)
   case atStart => exact ⟨⟨hb1,.inl ⟨rfl,ho1⟩⟩⟩
   case round =>
    obtain ⟨hb2,⟨rfl,ho2⟩ | ⟨rfl,ho2⟩ | ⟨rfl,ho2⟩⟩ := hrel.out
    ·clear hrel
     obtain ⟨q0,q1,hA,hB⟩ := HV.out _ hb2
     have hsz := hb2.size
     go_wp2_with (at_builtin; refine wpList_plusS rfl (.tmp 31) (.tmp 32) 27 rfl w.heap.size 9 Tryz.underlying27 Tryz.infoSK _ [] rfl ho2 a1 c1 A _ rfl hA (by simp; omega) hsz ?_; intro v4 w4 ho4 hgr4)
     go_roundw
     case rel =>
      try ((repeat apply Exists.intro); refine ⟨?_,rfl⟩)
      exact ⟨⟨hb2.grown hgr4 hsz (fun k e => (ho2.lt k e).1),.inr (.inl ⟨by go_num,by simpa using ho4⟩)⟩⟩
     case measure => simp [intOf]
    ·clear hrel
     obtain ⟨q0,q1,hA,hB⟩ := HV.out _ hb2
     have hsz := hb2.size
     go_wp2_with (at_builtin; refine wpList_plusS rfl (.tmp 31) (.tmp 32) 27 rfl w.heap.size 9 Tryz.underlying27 Tryz.infoSK _ A rfl ho2 a2 c2 B _ rfl hB (by omega) hsz ?_; intro v4 w4 ho4 hgr4)
     go_roundw
     case rel =>
      try ((repeat apply Exists.intro); refine ⟨?_,rfl⟩)
      exact ⟨⟨hb2.grown hgr4 hsz (fun k e => (ho2.lt k e).1),.inr (.inr ⟨by go_num,ho4⟩)⟩⟩
     case measure => simp [intOf]
    ·clear hrel
     go_wp2
     go_ret
     exact ⟨_,rfl,ho2,hb2⟩
theorem okK_false {rows : List (List Int)} {added : Int} {k : Nat} (hk : k < rows.length) (h : rowOk rows[k] = false) : okK ⟨rows,added⟩ = false := by
 unfold okK
 rw [Bool.and_eq_false_iff]
 right
 rw [List.all_eq_false]
 exact ⟨rows[k],List.getElem_mem _,by simp [h]⟩
theorem okK_true {rows : List (List Int)} {added : Int} (h0 : headOkK ⟨rows,added⟩ = true) (h : ∀ j (hj : j < rows.length),rowOk rows[j] = true) : okK ⟨rows,added⟩ = true := by
 unfold okK
 rw [Bool.and_eq_true]
 refine ⟨h0, ?_⟩
 rw [List.all_eq_true]
 intro r hr
 obtain ⟨j,hj,rfl⟩ := List.getElem_of_mem hr
 exact h j hj
theorem rowOk_len_false {r : List Int} (h : ¬ r.length = 16) : rowOk r = false := by simp [rowOk,h]
theorem listOkTo_succ (l : List ByteArray) (k : Nat) : listOkTo l (k + 1) = (listOkTo l k && (keyOk (l.getD k noKey) && !inL (l.take k) (l.getD k noKey))) := by
 unfold listOkTo
 rw [List.range_succ,List.all_append]
 simp
theorem listOkTo_down (l : List ByteArray) {k : Nat} : ∀ n,k ≤ n → listOkTo l k = false → listOkTo l n = false
 | 0,hk,h => by
  have : k = 0 := by omega
  rw [← this]
  exact h
 | n + 1,hk,h => by
  by_cases e : k = n + 1
  ·rw [← e]; exact h
  ·rw [listOkTo_succ,listOkTo_down l n (by omega) h]; rfl
theorem LAt.take {w : World} {a : Option Addr} {L : List ByteArray} {B : Nat} (h : LAt w a L B) (k : Nat) : LAt w a (L.take k) B := fun j hj => by
 rw [List.length_take] at hj
 obtain ⟨g,off,e,hg,hc⟩ := h j (by omega)
 exact ⟨g,off,e,hg,by rw [List.getElem_take]; exact hc⟩
theorem getD_key {l : List ByteArray} {k : Nat} (h : k < l.length) : l.getD k noKey = l[k] := by
 rw [List.getD_eq_getElem?_getD,List.getElem?_eq_getElem h]; rfl
end Go.Proofs.YtaahjcljanckaaaGreatDoor
