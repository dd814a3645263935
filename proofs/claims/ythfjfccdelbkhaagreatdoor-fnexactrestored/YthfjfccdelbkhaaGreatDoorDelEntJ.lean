/- Texts that stand in one: DelEnt, Forget, ForgetT, OwnCut. -/
import Derived.Test.YthfjfccdelbkhaaGreatDoorHallKitJ
import Derived.Test.YthfjfccdelbkhaaGreatDoorPxPlainJ
import Derived.Test.YthfjfccdelbkhaaGreatDoorSumTabJ
namespace Go.Proofs.YthfjfccdelbkhaaGreatDoor
open Go.RowKit Go.Sort
theorem zeroEnt_len (n : Nat) : (Builtin.zeroCells (Value.agg #[.string ⟨#[]⟩,.int .i64 0,.int .i64 0,.string ⟨#[]⟩]).cells n).toList.length = n * 4 := by simp [Builtin.zeroCells,Value.cells]
theorem zeroEnt_one (n : Nat) : ∀ v ∈ (Builtin.zeroCells (Value.agg #[.string ⟨#[]⟩,.int .i64 0,.int .i64 0,.string ⟨#[]⟩]).cells n).toList,v.oneCell' = true := by
 intro v hv
 simp only [Builtin.zeroCells,Array.toList_map,List.mem_map] at hv
 obtain ⟨i,_,rfl⟩ := hv
 have h2 : (Value.agg #[.string ⟨#[]⟩,.int .i64 0,.int .i64 0,.string ⟨#[]⟩]).cells = #[.string ⟨#[]⟩,.int .i64 0,.int .i64 0,.string ⟨#[]⟩] := rfl
 rw [h2]
 have h3 : i % (#[Value.string ⟨#[]⟩,.int .i64 0,.int .i64 0,.string ⟨#[]⟩]).size = 0 ∨ i % (#[Value.string ⟨#[]⟩,.int .i64 0,.int .i64 0,.string ⟨#[]⟩]).size = 1 ∨ i % (#[Value.string ⟨#[]⟩,.int .i64 0,.int .i64 0,.string ⟨#[]⟩]).size = 2 ∨ i % (#[Value.string ⟨#[]⟩,.int .i64 0,.int .i64 0,.string ⟨#[]⟩]).size = 3 := by simp; omega
 rcases h3 with h3 | h3 | h3 | h3 <;> rw [h3] <;> rfl
theorem OwnN.row {w : World} {base G n c : Nat} {e : TypeId} {L : List En} (h : OwnN w base e (.slice (some ⟨G, 0,none⟩) n c) L) : ∃ cur : List Value,w.heap[G]? = some (.cells cur.toArray e (0, 0)) ∧ base ≤ G ∧ n = L.length ∧ L.length ≤ c ∧ c ≤ maxLen ∧ cur.length = c * 4 ∧ cur.take (L.length * 4) = enl L := by
 rcases h.2 with ⟨e1,_⟩ | ⟨g',cp,cur,e1,h1,h2,h3,h4,h5,h6⟩
 ·cases e1
 ·simp only [Value.slice.injEq,Option.some.injEq,Addr.mk.injEq,and_true] at e1
  obtain ⟨rfl,rfl,rfl⟩ := e1
  exact ⟨cur.toList,by simpa using h2,h1,rfl,h3,h4,by simpa using h5,h6⟩
theorem OwnN.of_row {w : World} {base G c : Nat} {e : TypeId} {L : List En} {cur : List Value} (h2 : w.heap[G]? = some (.cells cur.toArray e (0, 0))) (h1 : base ≤ G) (h3 : L.length ≤ c) (h4 : c ≤ maxLen) (h5 : cur.length = c * 4) (h6 : cur.take (L.length * 4) = enl L) : OwnN w base e (.slice (some ⟨G, 0,none⟩) L.length c) L :=
 ⟨by rw [enl_length],.inr ⟨G,c,cur.toArray,rfl,h1,h2,h3,h4,by simpa using h5,by simpa using h6⟩⟩
theorem OwnN.cellP {w : World} {base G n c : Nat} {e : TypeId} {L : List En} (h : OwnN w base e (.slice (some ⟨G, 0,none⟩) n c) L) (j : Nat) (hj : j < L.length) : w.cell? ⟨G,j * 4,none⟩ = some (.string L[j].key) ∧ w.cell? ⟨G,j * 4 + 1,none⟩ = some (.int .i64 L[j].st) ∧ w.cell? ⟨G,j * 4 + 2,none⟩ = some (.int .i64 L[j].lf) ∧ w.cell? ⟨G,j * 4 + 3,none⟩ = some (.string L[j].bd) := by
 obtain ⟨a,cp,e1,hA⟩ := h.at
 simp only [Value.slice.injEq] at e1
 obtain ⟨rfl,_,_⟩ := e1
 obtain ⟨g,off,e2,_,q0,q1,q2,q3⟩ := hA j hj
 simp only [Option.some.injEq,Addr.mk.injEq,and_true] at e2
 obtain ⟨rfl,rfl⟩ := e2
 rw [Nat.zero_add] at q0 q1 q2 q3
 exact ⟨q0,q1,q2,q3⟩
theorem Tryz.zeroXEnt : ∀ w,(zeroValue 47).run Tryz.prog w = .ok (.agg #[.string ⟨#[]⟩,.int .i64 0,.int .i64 0,.string ⟨#[]⟩]) w := by intro w; kernel_rfl
set_option maxRecDepth 100000 in
set_option maxHeartbeats 4000000 in
theorem deleteEnt_row (g : Nat) (lb : Array Value) (p : En → Bool) (eg : ∀ args w,(callFunc g args).run Tryz.prog w = .ok (.enter g args) w) (w : World) (base G c : Nat) (L : List (En)) (ho : OwnN w base 47 (.slice (some ⟨G, 0,none⟩) L.length c) L) (hm : L.length ≤ 1048576)
  (hp : ∀ (W : World) (x : En),Tch (fun k => k = G) w W → Calls Tryz.prog g (#[.agg #[.string x.key,.int .i64 x.st,.int .i64 x.lf,.string x.bd]] ++ lb) W fun e w' => e = .returned (.bool (p x)) ∧ Below W.heap.size W w') :
  Calls Tryz.prog 73 #[.slice (some ⟨G, 0,none⟩) L.length c,.func (.func g) #[] lb] w fun e w' => ∃ n c',e = .returned (.slice (some ⟨G, 0,none⟩) n c') ∧ OwnN w' base 47 (.slice (some ⟨G, 0,none⟩) n c') (keepX p L) ∧ Tch (fun k => k = G) w w' := by
 obtain ⟨cur0,hg0,hbG,hx1,hLc,hcm,hx2,hx3⟩ := ho.row
 have hGs : G < w.heap.size := (Array.getElem?_eq_some_iff.1 hg0).1
 obtain ⟨a0,c0,e0,hL⟩ := ho.at
 simp only [Value.slice.injEq,true_and] at e0
 obtain ⟨rfl,rfl⟩ := e0
 have c1 := indexEnt_any g lb p eg w (some ⟨G, 0,none⟩) c L hL (by omega) (fun W x hb => (hp W x (Tch.of_below hb)).mono (by rintro e w' ⟨rfl,h⟩; exact ⟨rfl,hb.trans (h.mono hb.size)⟩))
 have HP : Hid (∀ (W : World) (x : En),Tch (fun k => k = G) w W → Calls Tryz.prog g (#[.agg #[.string x.key,.int .i64 x.st,.int .i64 x.lf,.string x.bd]] ++ lb) W fun e w' => e = .returned (.bool (p x)) ∧ Below W.heap.size W w') := hp
 clear hp hg0 hx1 hx2 hx3 cur0
 go_enter Tryz.func73,Tryz.ntmps73
 go_wp2_with fail
 refine c1.mono ?_
 rintro e w1 ⟨rfl,hb1⟩
 clear c1
 have HT1 : Hid (Tch (fun k => k = G) w w1) := Tch.of_below hb1
 have ho1 := ho.below hb1 (Nat.le_refl _)
 clear hL ho hb1
 rcases idxX_cases p L with ⟨k0,hk0,hidx,h1,h2⟩ | ⟨hidx,h⟩
 ·rw [hidx]
  have hi0 : ¬ ((k0 : Int) = -1) := by omega
  have HS : Hid (keepX p (L.take (k0 + 1)) = L.take k0) := keepX_step hk0 h1 h2
  have hk0b : k0 ≤ 1048576 := by omega
  have HLK : Hid (k0 < L.length) := hk0
  clear h1 h2 hk0 hidx
  go_wp2_with fail
  go_loopw [5, 6] (fun i j wr => Box (∃ (k n : Nat) (M : List (En)),k ≤ L.length ∧ j = .int .i64 k ∧ i = .int .i64 n ∧ n < k ∧ Hid (n = (keepX p (L.take k)).length) ∧ Hid (M.length = L.length) ∧ Hid (M.take n = keepX p (L.take k)) ∧ Hid (M.drop k = L.drop k) ∧ Hid (OwnN wr base 47 (.slice (some ⟨G, 0,none⟩) L.length c) M) ∧ Hid (Tch (fun k => k = G) w wr)))
   (fun _ j _ => L.length - (intOf j).toNat)
  case atStart => exact ⟨⟨k0 + 1,k0,L,HLK.out,by go_num,rfl,by omega,by show _ = _; rw [HS.out,List.length_take]; have := HLK.out; omega,rfl,by show _ = _; rw [HS.out],rfl,ho1,HT1⟩⟩
  case round =>
   obtain ⟨k,n,M,hk,rfl,rfl,hnk,HN,HML,HMT,HMD,HO,HG⟩ := hrel.out
   clear hrel ho1 HS
   by_cases hlt : k < L.length
   ·have HMk : Hid (∃ h : k < M.length,M[k] = L[k]) := by
     have hx : k < M.length := by rw [HML.out]; exact hlt
     refine ⟨hx, ?_⟩
     have := congrArg (fun l => l[0]?) HMD.out
     simp only [List.getElem?_drop,Nat.add_zero] at this
     rw [List.getElem?_eq_getElem hx,List.getElem?_eq_getElem hlt] at this
     exact Option.some.inj this
    obtain ⟨z,hzz⟩ : ∃ z,L[k] = z := ⟨_,rfl⟩
    have HZ : Hid (keepX p (L.take (k + 1)) = keepX p (L.take k) ++ if p z = true then [] else [z]) := by show _ = _; rw [keepX_take hlt,hzz]
    have hck := HO.out.cellP k HMk.out.1
    rw [HMk.out.2,hzz] at hck
    obtain ⟨q0,q1,q2,q3⟩ := hck
    obtain ⟨w2,hw2⟩ : ∃ w2,wr.alloc (.cells #[.string z.key,.int .i64 z.st,.int .i64 z.lf,.string z.bd] 47) = w2 := ⟨_,rfl⟩
    have hb2 : Below wr.heap.size wr w2 := by rw [← hw2]; exact (Below.refl _ _).alloc (Nat.le_refl _) _
    have hV2 : w2.heap[wr.heap.size]? = some (.cells #[.string z.key,.int .i64 z.st,.int .i64 z.lf,.string z.bd] 47 (0, 0)) := by rw [← hw2]; exact heap_alloc_new wr _
    have v0 : w2.cell? ⟨wr.heap.size, 0,none⟩ = some (.string z.key) := by rw [cell_of_row w2 wr.heap.size 0 _ _ (0, 0) hV2]; rfl
    have v1 : w2.cell? ⟨wr.heap.size, 1,none⟩ = some (.int .i64 z.st) := by rw [cell_of_row w2 wr.heap.size 1 _ _ (0, 0) hV2]; rfl
    have v2 : w2.cell? ⟨wr.heap.size, 2,none⟩ = some (.int .i64 z.lf) := by rw [cell_of_row w2 wr.heap.size 2 _ _ (0, 0) hV2]; rfl
    have v3 : w2.cell? ⟨wr.heap.size, 3,none⟩ = some (.string z.bd) := by rw [cell_of_row w2 wr.heap.size 3 _ _ (0, 0) hV2]; rfl
    have HW2 : Hid (wr.alloc (.cells #[.string z.key,.int .i64 z.st,.int .i64 z.lf,.string z.bd] 47) = w2) := hw2
    have hT2 : Tch (fun k => k = G) w w2 := HG.out.trans (Tch.of_below hb2)
    have hcall := HP.out w2 z hT2
    have hO2 := HO.out.below hb2 (Nat.le_refl _)
    have hi1 : (0 : Int) ≤ (k : Int) := by omega
    have hi2 : (k : Int) < (L.length : Int) := by omega
    have hi3 : (0 : Int) ≤ (n : Int) := by omega
    have hi4 : (n : Int) < (L.length : Int) := by omega
    cases hz : p z with
    | true =>
     rw [hz] at hcall
     rw [hz,if_pos rfl,List.append_nil] at HZ
     have HC : Hid (OwnN w2 base 47 (.slice (some ⟨G, 0,none⟩) L.length c) M ∧ Tch (fun k => k = G) w w2) := ⟨hO2,hT2⟩
     clear hzz hO2 hT2 hb2 hV2 hw2 HO HG
     go_wp2_with fail
     rw [HW2.out]
     refine hcall.mono ?_
     rintro e w3 ⟨rfl,hb3⟩
     go_wp2_with fail
     go_roundw
     case rel =>
      try ((repeat apply Exists.intro); refine ⟨?_,rfl⟩)
      refine ⟨⟨k + 1,n,M,by omega,by go_num,rfl,by omega,by show _ = _; rw [HZ.out]; exact HN.out,HML,by show _ = _; rw [HZ.out]; exact HMT.out, ?_,HC.out.1.below hb3 (Nat.le_refl _),HC.out.2.trans (Tch.of_below hb3)⟩⟩
      show M.drop (k + 1) = L.drop (k + 1)
      rw [← List.drop_drop,HMD.out,List.drop_drop]
     case measure => simp [intOf]; omega
    | false =>
     rw [hz] at hcall
     rw [hz,if_neg (by decide)] at HZ
     have HC : Hid (OwnN w2 base 47 (.slice (some ⟨G, 0,none⟩) L.length c) M ∧ Tch (fun k => k = G) w w2 ∧ w2.heap[wr.heap.size]? = some (.cells #[.string z.key,.int .i64 z.st,.int .i64 z.lf,.string z.bd] 47 (0, 0))) := ⟨hO2,hT2,hV2⟩
     clear hzz hO2 hT2 hb2 hV2 hw2 HO HG
     go_wp2_with fail
     rw [HW2.out]
     refine hcall.mono ?_
     rintro e w3 ⟨rfl,hb3⟩
     obtain ⟨hO2,hT2,hV2⟩ := HC.out
     have hO3 := hO2.below hb3 (Nat.le_refl _)
     have hT3 := hT2.trans (Tch.of_below hb3)
     have hV3 : w3.heap[wr.heap.size]? = some (.cells #[.string z.key,.int .i64 z.st,.int .i64 z.lf,.string z.bd] 47 (0, 0)) := (hb3.block _ (Array.getElem?_eq_some_iff.1 hV2).1).trans hV2
     have x0 : w3.cell? ⟨wr.heap.size, 0,none⟩ = some (.string z.key) := by rw [cell_of_row w3 wr.heap.size 0 _ _ (0, 0) hV3]; rfl
     have x1 : w3.cell? ⟨wr.heap.size, 1,none⟩ = some (.int .i64 z.st) := by rw [cell_of_row w3 wr.heap.size 1 _ _ (0, 0) hV3]; rfl
     have x2 : w3.cell? ⟨wr.heap.size, 2,none⟩ = some (.int .i64 z.lf) := by rw [cell_of_row w3 wr.heap.size 2 _ _ (0, 0) hV3]; rfl
     have x3 : w3.cell? ⟨wr.heap.size, 3,none⟩ = some (.string z.bd) := by rw [cell_of_row w3 wr.heap.size 3 _ _ (0, 0) hV3]; rfl
     obtain ⟨y0,y1,y2,y3⟩ := hO3.cellP n (by rw [HML.out]; omega)
     have hR3 : w3.ownsRow base 47 4 (.slice (some ⟨G, 0,none⟩) L.length c) L.length (enl M) := by have h := hO3; unfold OwnN at h; rwa [HML.out] at h
     have f0 := World.ownsRow.frozenAt hR3 (n * 4)
     have f1 := World.ownsRow.frozenAt hR3 (n * 4 + 1)
     have f2 := World.ownsRow.frozenAt hR3 (n * 4 + 2)
     have f3 := World.ownsRow.frozenAt hR3 (n * 4 + 3)
     have HST : Hid (OwnN ((((w3.setCell ⟨G,n * 4,none⟩ (.string z.key)).setCell ⟨G,n * 4 + 1,none⟩ (.int .i64 z.st)).setCell ⟨G,n * 4 + 2,none⟩ (.int .i64 z.lf)).setCell ⟨G,n * 4 + 3,none⟩ (.string z.bd)) base 47 (.slice (some ⟨G, 0,none⟩) L.length c) (M.set n z) ∧ Tch (fun k => k = G) w ((((w3.setCell ⟨G,n * 4,none⟩ (.string z.key)).setCell ⟨G,n * 4 + 1,none⟩ (.int .i64 z.st)).setCell ⟨G,n * 4 + 2,none⟩ (.int .i64 z.lf)).setCell ⟨G,n * 4 + 3,none⟩ (.string z.bd))) := ⟨(hO3.stored HML.out.symm n z).1,hT3.trans (Tch.of_grown (hO3.stored HML.out.symm n z).2 (fun k e => by cases e; rfl))⟩
     clear hO2 hT2 hV2 hO3 hR3 hT3 hV3 hb3 HC hcall
     go_wp2_with fail
     go_roundw
     case rel =>
      try ((repeat apply Exists.intro); refine ⟨?_,rfl⟩)
      have hML := HML.out
      have hMT := HMT.out
      have hN := HN.out
      refine ⟨⟨k + 1,n + 1,M.set n z,by omega,by go_num,by go_num,by omega, ?_,by show _ = _; rw [List.length_set]; exact hML, ?_, ?_,HST.out.1,HST.out.2⟩⟩
      ·show n + 1 = _
       rw [HZ.out,List.length_append, ← hN]
       rfl
      ·show (M.set n z).take (n + 1) = _
       rw [HZ.out, ← hMT,List.take_succ_eq_append_getElem (by rw [List.length_set]; omega),List.getElem_set_self,List.take_set_of_le (Nat.le_refl _)]
      ·show (M.set n z).drop (k + 1) = L.drop (k + 1)
       rw [List.drop_set_of_lt (by omega), ← List.drop_drop,HMD.out,List.drop_drop]
     case measure => simp [intOf]; omega
   ·have hke : k = L.length := by omega
    subst hke
    have hML := HML.out
    have hMT := HMT.out
    rw [List.take_length] at hMT
    have hnl : n < L.length := hnk
    obtain ⟨cur,hg,hy1,hy2,hy3,hy4,hcl,hct⟩ := HO.out.row
    have hzl := zeroEnt_len (L.length - n)
    have hfit : n * 4 + (Builtin.zeroCells (Value.agg #[.string ⟨#[]⟩,.int .i64 0,.int .i64 0,.string ⟨#[]⟩]).cells (L.length - n)).toList.length ≤ cur.length := by rw [hzl]; omega
    have hclr : ∀ ty cc,(Builtin.clear_ #[24] ty #[.slice (some ⟨G,n * 4,none⟩) (L.length - n) cc]).run Tryz.prog wr = .ok (.tuple #[]) (wr.setRow G (splice cur (n * 4) (Builtin.zeroCells (Value.agg #[.string ⟨#[]⟩,.int .i64 0,.int .i64 0,.string ⟨#[]⟩]).cells (L.length - n)).toList).toArray) := fun ty cc =>
     run_clear_x wr 24 47 ty _ Tryz.underlying24 Tryz.zeroXEnt (L.length - n) (by omega) (zeroEnt_one _) G (n * 4) cc cur 47 hg hfit
    obtain ⟨W2,hW2⟩ : ∃ W2,wr.setRow G (splice cur (n * 4) (Builtin.zeroCells (Value.agg #[.string ⟨#[]⟩,.int .i64 0,.int .i64 0,.string ⟨#[]⟩]).cells (L.length - n)).toList).toArray = W2 := ⟨_,rfl⟩
    rw [hW2] at hclr
    have HF : Hid (OwnN W2 base 47 (.slice (some ⟨G, 0,none⟩) n c) (keepX p L) ∧ Tch (fun k => k = G) w W2) := by
     have hnl2 : (keepX p L).length = n := by rw [← hMT,List.length_take]; omega
     refine ⟨?_, ?_⟩
     ·rw [← hnl2]
      refine OwnN.of_row (cur := splice cur (n * 4) (Builtin.zeroCells (Value.agg #[.string ⟨#[]⟩,.int .i64 0,.int .i64 0,.string ⟨#[]⟩]).cells (L.length - n)).toList) ?_ hbG (by omega) hcm (by rw [length_splice _ _ _ hfit]; exact hcl) ?_
      ·rw [← hW2]; exact setRow_heap wr G _ _ _ _ hg
      ·rw [hnl2]
       have e1 : (splice cur (n * 4) (Builtin.zeroCells (Value.agg #[.string ⟨#[]⟩,.int .i64 0,.int .i64 0,.string ⟨#[]⟩]).cells (L.length - n)).toList).take (n * 4) = cur.take (n * 4) := by
        unfold splice
        rw [List.take_append_of_le_length (by simp; omega),List.take_take,Nat.min_eq_left (Nat.le_refl _)]
       have e2 : cur.take (n * 4) = (enl M).take (n * 4) := by rw [← hct,List.take_take,Nat.min_eq_left (by omega)]
       have e3 : ∀ (A : List (En)) (i : Nat),(enl A).take (i * 4) = enl (A.take i) := by
        intro A
        induction A with
        | nil => intro i; simp [enl]
        | cons f A ih =>
         intro i
         cases i with
         | zero => simp [enl]
         | succ i => rw [enl_cons,show (i + 1) * 4 = i * 4 + 1 + 1 + 1 + 1 by omega]; simp only [En.cells,List.cons_append,List.take_succ_cons,List.nil_append,enl_cons,ih]
       rw [e1,e2,e3,hMT]
     ·rw [← hW2]
      exact HG.out.trans ⟨below_setRow (Below.refl 0 wr) (Nat.zero_le _) _,fun k _ hn => setRow_other wr G k _ hn⟩
    have hi1 : (0 : Int) ≤ (n : Int) := by omega
    have hi2 : (n : Int) ≤ (L.length : Int) := by omega
    have hi3 : (n : Int) ≤ (c : Int) := by omega
    have hi4 : (L.length : Int) ≤ (c : Int) := by omega
    have hd1 : ¬ (c = n) := by omega
    clear hML hMT HN HML HMT HMD HO HG hW2 hg hcl hct hzl hfit hy1 hy2 hy3 hy4
    go_wp2
    go_ret
    exact ⟨_,_,rfl,HF.out.1,HF.out.2⟩
 ·rw [hidx]
  have HW : Hid (keepX p L = L) := keepX_none h
  clear h hidx
  go_wp2_with fail
  go_ret
  exact ⟨_,_,rfl,by rw [HW.out]; exact ho1,HT1.out⟩
theorem forget1_eg : ∀ args w,(callFunc 74 args).run Tryz.prog w = .ok (.enter 74 args) w := enters_of Tryz.func74 (by kernel_rfl) rfl
set_option maxHeartbeats 2000000 in
theorem forget1_any (T : Nat) (x : En) (key : ByteArray) (w : World) (hT : w.heap[T]? = some (.cells #[.string key] 9 (0, 0))) :
  Calls Tryz.prog 74 (#[.agg #[.string x.key,.int .i64 x.st,.int .i64 x.lf,.string x.bd]] ++ #[.pointer (some ⟨T, 0,none⟩)]) w fun e w' => e = .returned (.bool (eqS x.key key)) ∧ Below w.heap.size w w' := by
 show Calls _ _ #[.agg #[.string x.key,.int .i64 x.st,.int .i64 x.lf,.string x.bd],.pointer (some ⟨T, 0,none⟩)] _ _
 have hb1 : Below w.heap.size w (w.alloc (.cells #[.string x.key,.int .i64 x.st,.int .i64 x.lf,.string x.bd] 47)) := (Below.refl _ _).alloc (Nat.le_refl _) _
 have p0 : (w.alloc (.cells #[.string x.key,.int .i64 x.st,.int .i64 x.lf,.string x.bd] 47)).cell? ⟨T, 0,none⟩ = some (.string key) := by rw [cell_of_row _ T 0 _ _ (0, 0) ((hb1.block T (Array.getElem?_eq_some_iff.1 hT).1).trans hT)]; rfl
 go_enter Tryz.func74,Tryz.ntmps74
 go_wp2_with fail
 go_ret
 exact ⟨rfl,hb1⟩
theorem deleteEnt_in (g : Nat) (lb : Array Value) (p : En → Bool) (eg : ∀ args w,(callFunc g args).run Tryz.prog w = .ok (.enter g args) w) (w : World) (base : Nat) (v : Value) (L : List (En)) (ho : OwnN w base 47 v L) (hm : L.length ≤ 1048576)
  (hp : ∀ (W : World) (x : En),Tch (fun k => v.ownBlock = some k) w W → Calls Tryz.prog g (#[.agg #[.string x.key,.int .i64 x.st,.int .i64 x.lf,.string x.bd]] ++ lb) W fun e w' => e = .returned (.bool (p x)) ∧ Below W.heap.size W w') :
  Calls Tryz.prog 73 #[v,.func (.func g) #[] lb] w fun e w' => ∃ v',e = .returned v' ∧ OwnN w' base 47 v' (keepX p L) ∧ Tch (fun k => v.ownBlock = some k) w w' ∧ (∀ j,v'.ownBlock = some j → v.ownBlock = some j) := by
 rcases ho.2 with ⟨rfl,h0⟩ | ⟨G,c,cur,rfl,_⟩
 ·have hl : L = [] := List.length_eq_zero_iff.1 h0
  subst hl
  have c1 := indexEnt_any g lb p eg w none 0 [] (fun j hj => by simp at hj) (by simp) (fun W x hb => (hp W x (Tch.of_below hb)).mono (by rintro e w' ⟨rfl,h⟩; exact ⟨rfl,hb.trans (h.mono hb.size)⟩))
  go_enter Tryz.func73,Tryz.ntmps73
  go_wp2_with fail
  refine c1.mono ?_
  rintro e w' ⟨rfl,hb⟩
  clear c1
  rw [idxX_miss (fun x hx => by cases hx)]
  go_wp2_with fail
  go_ret
  exact ⟨_,rfl,ho.below hb (Nat.le_refl _),Tch.of_below hb,fun _ h => h⟩
 ·refine (deleteEnt_row g lb p eg w base G c L ho hm (fun W x ht => hp W x (ht.weak (fun k e => by rw [e]; rfl)))).mono ?_
  rintro e w' ⟨n,c',rfl,h1,h2⟩
  exact ⟨_,rfl,h1,h2.weak (fun k e => by rw [e]; rfl),fun _ h => h⟩
theorem delEntT_call (w : World) (base T : Nat) (v : Value) (L : List En) (key : ByteArray) (ho : OwnN w base 47 v L) (hm : L.length ≤ 1048576) (hTb : w.heap[T]? = some (.cells #[.string key] 9 (0, 0))) :
  Calls Tryz.prog 73 #[v,.func (.func 74) #[] #[.pointer (some ⟨T, 0,none⟩)]] w fun e w' => ∃ d0 d1,e = .returned (.slice d0 (offE L key).length d1) ∧ OwnN w' base 47 (.slice d0 (offE L key).length d1) (offE L key) ∧ Tch (fun k => v.ownBlock = some k) w w' ∧ (∀ j,(Value.slice d0 (offE L key).length d1).ownBlock = some j → v.ownBlock = some j) := by
 refine (deleteEnt_in 74 #[.pointer (some ⟨T, 0,none⟩)] (fun e => eqS e.key key) forget1_eg w base v L ho hm (fun W' x ht => forget1_any T x key W' (by
  rw [ht.2 T (Array.getElem?_eq_some_iff.1 hTb).1 (fun e => by
   obtain ⟨cs,hc⟩ := ho.type T e
   rw [hTb] at hc
   simp only [Option.some.injEq,Obj.cells.injEq] at hc
   exact absurd hc.2.1 (by decide))]
  exact hTb))).mono ?_
 rintro e w' ⟨v',rfl,h1,h2,h3⟩
 obtain ⟨d0,d1,rfl,_⟩ := h1.at
 exact ⟨d0,d1,rfl,h1,h2,h3⟩
set_option maxRecDepth 100000 in
set_option maxHeartbeats 8000000 in
theorem hallForgetT_any (w : World) (lo T : Nat) (X : Pc) (R : Prx) (key : ByteArray) (H : HallAt w lo T X R) (hm : R.ents.length ≤ 1048576) :
  Calls Tryz.prog 45 #[.pointer (some ⟨T, 0,none⟩),.string key] w fun e w' => e = .returned (.tuple #[]) ∧ ∃ v',HallAt w' lo T ⟨v',X.w,X.m,X.k,X.f,X.c⟩ ⟨R.now,offE R.ents key,R.pol,R.fes,R.cls,R.hits⟩ ∧ Below lo w w' ∧ Tch (fun j => j = T ∨ X.e.ownBlock = some j) w w' ∧ (∀ j,v'.ownBlock = some j → X.e.ownBlock = some j) := by
 obtain ⟨w1,hw1⟩ : ∃ y,w.alloc (.cells #[.string key] 9) = y := ⟨_,rfl⟩
 have hb1 : Below w.heap.size w w1 := by rw [← hw1]; exact (Below.refl _ _).alloc (Nat.le_refl _) _
 have hK : w1.heap[w.heap.size]? = some (.cells #[.string key] 9 (0, 0)) := by rw [← hw1]; exact heap_alloc_new _ _
 have hlo : lo ≤ w.heap.size := Nat.le_trans H.le (Nat.le_of_lt H.box.lt)
 have hB1 := H.box.on hb1
 have hO1 := H.own.below hb1 (Nat.le_refl _)
 obtain ⟨M,hM⟩ : ∃ M,offE R.ents key = M := ⟨_,rfl⟩
 have c1 := delEntT_call w1 lo w.heap.size X.e R.ents key hO1.e hm hK
 rw [hM] at c1 ⊢
 have y1 := hB1.cells.2.1
 have hmf : ∀ (fn : Fn) (first cap : Array Value) (w : World),(Instr.makeFunc fn first cap).run Tryz.prog w = .ok (.func fn first cap) w := fun _ _ _ _ => rfl
 have HW : Hid (w.alloc (.cells #[.string key] 9) = w1) := hw1
 have HI : Hid (NB w1 T 53 (.int .i64 R.now) X.e X.w X.m X.k (.int .i64 R.pol.sk.added) X.f X.c (.int .i64 R.hits) ∧ PxOwn w1 lo w.heap.size X R ∧ Below lo w w1 ∧ lo ≤ T ∧ Below w.heap.size w w1) := ⟨hB1,hO1,hb1.mono hlo,H.le,hb1⟩
 rw [← hw1] at y1
 clear hw1 hb1 hK hB1 hO1 H hM hlo
 go_enter Tryz.func45,Tryz.ntmps45
 go_wp2_with fail
 rw [HW.out] at y1 ⊢
 refine c1.mono ?_
 rintro e w2 ⟨d0,d1,rfl,hd,ht,hown⟩
 obtain ⟨hB1,hO1,hB0,hle,hbw⟩ := HI.out
 have hB2 := hB1.kept (ht.2 T hB1.lt (fun e => by
  obtain ⟨cs,hc⟩ := hO1.e.type T e
  have h := hB1
  unfold NB at h
  rw [h] at hc
  simp only [Option.some.injEq,Obj.cells.injEq] at hc
  exact absurd hc.2.1 (by decide)))
 have hg : w1.grownBy w2 X.e.ownBlock := ⟨ht.1.os,ht.1.tape,ht.1.output,ht.1.size,fun k hk hn => ht.2 k hk (fun e => hn e.symm)⟩
 have hO2 := hO1.setE hg hd
 have x1 := hB2.cells.2.1
 have xt := hB2.thaw 1
 have HF : Hid (HallAt (w2.setCell ⟨T, 1,none⟩ (.slice d0 M.length d1)) lo T ⟨.slice d0 M.length d1,X.w,X.m,X.k,X.f,X.c⟩ ⟨R.now,M,R.pol,R.fes,R.cls,R.hits⟩ ∧ Below lo w (w2.setCell ⟨T, 1,none⟩ (.slice d0 M.length d1)) ∧ Tch (fun j => j = T ∨ X.e.ownBlock = some j) w (w2.setCell ⟨T, 1,none⟩ (.slice d0 M.length d1))) :=
  ⟨⟨hB2.set1 _,(hO2.box hB2 (by unfold PxT; decide) (fun k hk => Below.heap_setCell _ _ _ _ (by exact hk))).up,hle⟩,(Tch.below hB0 ht (Nat.le_trans hle (Nat.le_of_lt hB1.lt)) (fun k hk => (hO1.e.lt k hk).1)).setCell hle _,((Tch.of_below hbw).trans (ht.weak fun j hj => .inr hj)).trans ((tch_setV (v := .slice (some ⟨T, 0,none⟩) 0 0) (G := T) (i := 1) (u := .slice d0 M.length d1) rfl (Tch.of_below (Below.refl _ _))).weak (fun b hb => .inl (Option.some.inj hb).symm))⟩
 have HOW : Hid (∀ j,(Value.slice d0 M.length d1).ownBlock = some j → X.e.ownBlock = some j) := hown
 clear hB1 hO1 hB0 hle hbw hB2 hg hO2 hd ht y1 c1 HI hown
 go_wp2_with fail
 exact bodyPost_end (results_none rfl _ _ _) rfl ⟨rfl,_,HF.out.1,HF.out.2.1,HF.out.2.2,HOW.out⟩
end Go.Proofs.YthfjfccdelbkhaaGreatDoor
namespace Go.Proofs.YthfjfccdelbkhaaGreatDoor
open Go.RowKit
theorem OwnV.storedAll {base g n cap : Nat} {e : TypeId} : ∀ (vs : List Value) (o : Nat) (w : World) (xs : List Value),OwnV w base e (.slice (some ⟨g, 0,none⟩) n cap) xs → n = xs.length →
  ∃ ys,ys.length = xs.length ∧ (∀ j,j < o → ys[j]? = xs[j]?) ∧ (∀ j,j < vs.length → o + j < xs.length → ys[o + j]? = vs[j]?) ∧ (∀ j,o + vs.length ≤ j → ys[j]? = xs[j]?) ∧ OwnV (w.setCells g o vs) base e (.slice (some ⟨g, 0,none⟩) n cap) ys ∧ w.grownBy (w.setCells g o vs) (some g)
 | [],o,w,xs,h,hn => ⟨xs,rfl,fun _ _ => rfl,fun j hj => by simp at hj,fun _ _ => rfl,h,grownBy_refl _ _⟩
 | v :: rest,o,w,xs,h,hn => by
  obtain ⟨h1,hg1⟩ := h.stored hn o v
  obtain ⟨ys,e1,e2,e3,e4,e5,e6⟩ := OwnV.storedAll rest (o + 1) (w.setCell ⟨g,o,none⟩ v) (xs.set o v) h1 (by rw [List.length_set]; exact hn)
  refine ⟨ys,by rw [e1,List.length_set],fun j hj => ?_,fun j hj hx => ?_,fun j hj => ?_,e5,grownBy_trans hg1 e6⟩
  ·rw [e2 j (by omega),List.getElem?_set_ne (by omega)]
  ·cases j with
   | zero =>
    rw [Nat.add_zero] at hx ⊢
    rw [e2 o (by omega),List.getElem?_set_self hx]
    rfl
   | succ j =>
    have := e3 j (by simp at hj; omega) (by rw [List.length_set]; omega)
    rw [show o + (j + 1) = o + 1 + j by omega,this]
    rfl
  ·simp only [List.length_cons] at hj
   rw [e4 j (by omega),List.getElem?_set_ne (by omega)]
theorem OwnV.cut {w : World} {base g n cap : Nat} {e : TypeId} {xs : List Value} (h : OwnV w base e (.slice (some ⟨g, 0,none⟩) n cap) xs) (hn : n = xs.length) (m : Nat) (hm : m ≤ n) : OwnV w base e (.slice (some ⟨g, 0,none⟩) m cap) (xs.take m) := by
 rcases h.2 with ⟨e1,_⟩ | ⟨g',cp,cur,e1,h1,h2,h3,h4,h5,h6⟩
 ·cases e1
 ·simp only [Value.slice.injEq,Option.some.injEq,Addr.mk.injEq,and_true] at e1
  obtain ⟨rfl,e2,rfl⟩ := e1
  have hl : (xs.take m).length = m := by rw [List.length_take]; omega
  unfold OwnV
  rw [hl]
  refine ⟨by rw [hl,Nat.mul_one],.inr ⟨g,cap,cur,rfl,h1,h2,by omega,h4,h5, ?_⟩⟩
  rw [← h6,List.take_take,Nat.mul_one,Nat.mul_one,Nat.min_eq_left (by omega)]
theorem OwnV.cell {w : World} {base g n cap : Nat} {e : TypeId} {xs : List Value} (h : OwnV w base e (.slice (some ⟨g, 0,none⟩) n cap) xs) {j : Nat} (hj : j < xs.length) : w.cell? ⟨g,j,none⟩ = some xs[j] ∧ w.frozen? ⟨g,j,none⟩ = false ∧ base ≤ g ∧ g < w.heap.size := by
 obtain ⟨a,c,e1,h1⟩ := h.shape
 simp only [Value.slice.injEq] at e1
 obtain ⟨g',e2,h2,h3,h4,h5⟩ := h1 j hj
 rw [← e1.1] at e2
 simp only [Option.some.injEq,Addr.mk.injEq,and_true] at e2
 subst e2
 exact ⟨h2,h3,h4,h5⟩
theorem OwnV.capOf {w : World} {base g n cap : Nat} {e : TypeId} {xs : List Value} (h : OwnV w base e (.slice (some ⟨g, 0,none⟩) n cap) xs) : n ≤ cap ∧ cap ≤ maxLen := by
 rcases h.2 with ⟨e1,_⟩ | ⟨g',cp,cur,e1,h1,h2,h3,h4,h5,h6⟩
 ·cases e1
 ·simp only [Value.slice.injEq] at e1
  omega
end Go.Proofs.YthfjfccdelbkhaaGreatDoor
