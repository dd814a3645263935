/- Texts that stand in one: HitsPlain, ClientLaw, Ret9, InsCli. -/
import Derived.Test.YtaahjcljanckaaaGreatDoorEntPlaceJ
import Derived.Test.YtaahjcljanckaaaGreatDoorRoundImplJ
import Derived.Test.YtaahjcljanckaaaGreatDoorSkNewSpecJ
import Derived.Test.YtaahjcljanckaaaGreatDoorReachedCJ
import Derived.Test.YtaahjcljanckaaaGreatDoorPxSlicesJ
import Derived.Test.YtaahjcljanckaaaGreatDoorPolSzTextJ
import Derived.Test.YtaahjcljanckaaaGreatDoorPrxBaseJ
import Derived.Test.YtaahjcljanckaaaGreatDoorCliLawJ
import Derived.Test.YtaahjcljanckaaaGreatDoorFindPlainJ
import Derived.Test.YtaahjcljanckaaaGreatDoorSkBaseJ
import Derived.Lib.Overlaps
import Derived.Lib.AppendZerosOnto
import Derived.Deep.RegionLaw
import Derived.Deep.AppendLies
namespace Go.Proofs.YtaahjcljanckaaaGreatDoor
open Go.RowKit Go.Sort
theorem wf64 {z : Int} (h0 : -1000000000000 ≤ z) (h1 : z ≤ 1000000000000) : (Lit.int .i64 z).wf = true := by
 have e1 : IntKind.i64.min = -9223372036854775808 := rfl
 have e2 : IntKind.i64.max = 9223372036854775807 := rfl
 simp only [Lit.wf,decide_eq_true_eq,Bool.and_eq_true,e1,e2]
 omega
theorem okX_sz {R : Prx} (h : okX R = true) : PxSz R := by
 have h1 := (okX_wgt h).1
 unfold PxSz
 omega
theorem okX_m {R : Prx} (hok : okX R = true) (hag : ∀ c ∈ R.cls,c.ag ≤ 1000000000) : PxM R := by
 have h := okX_sz hok
 have H := okX_iff.1 hok
 have hq : wgtX R ≤ 1048576 := h
 obtain ⟨l1,hp,l2,l3⟩ := h.parts
 have hp2 : wgtP R.pol ≤ 1048576 := hp
 have ht := hp.texts
 have hm : (1048576 : Nat) ≤ maxLen := by decide
 have hn := H.now
 have hh := H.hits
 refine ⟨wf64 (by omega) (by omega),wf64 (by omega) (by omega), ?_,by omega, ?_, ?_,by omega, ?_,by omega⟩
 ·intro j hj
  have h1 := h.ents _ (List.getElem_mem hj)
  have h2 := enOk_iff.1 (H.ents _ (List.getElem_mem hj))
  exact ⟨⟨by omega,by omega⟩,wf64 (by omega) (by omega),wf64 (by omega) (by omega)⟩
 ·unfold wgtP at hp2
  refine ⟨by omega,by omega, ?_, ?_,by omega, ?_⟩
  ·intro j hj
   have := ht _ (List.mem_append_left _ (List.getElem_mem hj))
   omega
  ·intro j hj
   have := ht _ (List.mem_append_right _ (List.getElem_mem hj))
   omega
  ·intro j hj
   have := tot_at R.pol.sk.rows j hj
   omega
 ·intro j hj
  have h1 := h.fes _ (List.getElem_mem hj)
  obtain ⟨_,_,h2,h3,h4⟩ := H.fes _ (List.getElem_mem hj)
  exact ⟨⟨by omega,by omega⟩,wf64 (by omega) (by omega),wf64 (by omega) (by omega),wf64 (by omega) (by omega)⟩
 ·intro j hj
  have h1 := h.cls _ (List.getElem_mem hj)
  obtain ⟨h2,_,h3,_,h4,h5,h6⟩ := H.cls _ (List.getElem_mem hj)
  have h7 := hag _ (List.getElem_mem hj)
  have h8 := H.flen
  exact ⟨⟨by omega,by omega⟩,wf64 (by omega) (by omega),wf64 (by omega) (by omega),wf64 (by omega) (by omega),wf64 (by omega) (by omega),wf64 (by omega) (by omega)⟩
def polN (s : Sk) : Pol := ⟨[], [],s⟩
def polK (key : ByteArray) (s : Sk) : Pol := ⟨[key], [],s⟩
theorem polN_ok {s : Sk} (h : okK s = true) : okP (polN s) = true := okP_iff.2 ⟨by simp [polN],by simp [polN],by simp [polN],by simp [polN],by simp [polN],by simp [polN],by simp [polN],h⟩
theorem polK_ok {key : ByteArray} {s : Sk} (hk : keyOk key = true) (h : okK s = true) : okP (polK key s) = true := okP_iff.2 ⟨by simpa [polK] using hk,by simp [polK],by simp [polK],by simp [polK],by simp [polK],by simp [polK],by simp [polK],h⟩
theorem without_self (key : ByteArray) : without [key] key = [] := by simp [without]
theorem waitP_K (key : ByteArray) (s : Sk) : waitP (polK key s) key = polN (bumpS s key) := by
 unfold waitP dropP polK polN
 dsimp only
 rw [without_self]
 rfl
theorem touchP_N {key : ByteArray} {s : Sk} (hk : keyOk key = true) (h : okK s = true) : touchP (polN s) key = (polK key (bumpS s key),noKey) := by
 unfold touchP
 rw [if_pos (by rw [polN_ok h,hk]; rfl)]
 rfl
theorem touchP_K {key : ByteArray} {s : Sk} (hk : keyOk key = true) (h : okK s = true) : touchP (polK key s) key = (polK key (bumpS s key),noKey) := by
 unfold touchP
 rw [if_pos (by rw [polK_ok hk h,hk]; rfl),if_pos (by simp [polK,inL])]
 unfold polK
 dsimp only
 rw [without_self]
 rfl
def s1 (key : ByteArray) : Sk := bumpS newS key
def s2 (key : ByteArray) : Sk := bumpS (s1 key) key
def s3 (key : ByteArray) : Sk := bumpS (s2 key) key
theorem s1_ok (key : ByteArray) : okK (s1 key) = true := bumpS_ok key newS_ok
theorem s2_ok (key : ByteArray) : okK (s2 key) = true := bumpS_ok key (s1_ok key)
theorem s3_ok (key : ByteArray) : okK (s3 key) = true := bumpS_ok key (s2_ok key)
def hR1 (t : Int) : Prx := ⟨t, [],polN newS, [], [], 0⟩
def hR2 (t : Int) (key : ByteArray) : Prx := ⟨t, [],polN (s1 key), [newF key], [⟨1,key, 1, 0, 1,⟨#[]⟩, 0⟩], 0⟩
def hR3 (t : Int) (key bd : ByteArray) : Prx := ⟨t, [],polN (s1 key), [⟨key,bd, 1, 0, 0⟩], [⟨1,key, 1, 0, 1,bd, 0⟩], 0⟩
def hR4 (u t life : Int) (key bd : ByteArray) : Prx := ⟨u, [⟨key,t,life,bd⟩],polK key (s2 key), [⟨key,bd, 2,life,t⟩], [⟨1,key, 1, 0, 2,bd, 0⟩], 0⟩
def hR6 (t n life : Int) (key bd : ByteArray) : Prx := ⟨t + n, [⟨key,t,life,bd⟩],polK key (s3 key), [⟨key,bd, 2,life,t⟩], [⟨1,key, 1, 0, 2,bd, 0⟩,⟨2,key, 0,t, 2,bd,n⟩], 1⟩
def hR7 (t n life : Int) (key bd : ByteArray) : Prx := ⟨t + n, [],polN (s3 key), [⟨key,bd, 2,life,t⟩,newF key], [⟨1,key, 1, 0, 2,bd, 0⟩,⟨2,key, 2, 0, 1,⟨#[]⟩, 0⟩], 0⟩
structure HitL (t n life : Int) (key bd : ByteArray) : Prop where
 t : 1 ≤ t ∧ t ≤ 1000
 n : 0 ≤ n ∧ n < 700
 life : 1 ≤ life ∧ life ≤ 500
 key : enKey key = true
 bd : 1 ≤ bd.size ∧ bd.size ≤ 40
theorem enKey_ok {s : ByteArray} (h : enKey s = true) : keyOk s = true := h
theorem hR1_ok {t : Int} (h : 1 ≤ t ∧ t ≤ 1000) : okX (hR1 t) = true := okX_iff.2 {
  now := ⟨h.1,by show t ≤ 1000000000; omega⟩
  hits := ⟨by show (0 : Int) ≤ 0; omega,by show (0 : Int) ≤ 1000000000; omega⟩
  pol := polN_ok newS_ok
  len := rfl
  ents := fun e he => by cases he
  up := List.Pairwise.nil
  sub := fun e he => by cases he
  flen := by show 0 ≤ 20; omega
  fes := fun f hf => by cases hf
  one := fun i k hi => by cases hi
  clen := by show 0 ≤ 6; omega
  cls := fun c hc => by cases hc
  cup := List.Pairwise.nil }
theorem hR2_ok {t n life : Int} {key bd : ByteArray} (h : HitL t n life key bd) : okX (hR2 t key) = true := okX_iff.2 {
  now := ⟨h.t.1,by have := h.t; show t ≤ 1000000000; omega⟩
  hits := ⟨by show (0 : Int) ≤ 0; omega,by show (0 : Int) ≤ 1000000000; omega⟩
  pol := polN_ok (s1_ok key)
  len := rfl
  ents := fun e he => by cases he
  up := List.Pairwise.nil
  sub := fun e he => by cases he
  flen := by show 1 ≤ 20; omega
  fes := fun f hf => by
   have ht := h.t
   rw [show f = newF key from List.mem_singleton.1 hf]
   exact ⟨h.key,by show 0 ≤ 400; omega,by show (1 : Int) ≤ 1 ∧ (1 : Int) ≤ 3; omega,by show (0 : Int) ≤ 0 ∧ (0 : Int) ≤ 999999; omega,by show (0 : Int) ≤ 0 ∧ (0 : Int) ≤ t; omega⟩
  one := fun i k hi hk _ _ _ => by
   have h1 : i < 1 := hi
   have h2 : k < 1 := hk
   omega
  clen := by show 1 ≤ 6; omega
  cls := fun c hc => by
   have ht := h.t
   rw [show c = ⟨1,key, 1, 0, 1,⟨#[]⟩, 0⟩ from List.mem_singleton.1 hc]
   exact ⟨by show (1 : Int) ≤ 1 ∧ (1 : Int) ≤ 9; omega,h.key,by show (1 : Int) ≤ 1 ∧ (1 : Int) ≤ 3; omega,by show 0 ≤ 400; omega,by show (0 : Int) ≤ 1 ∧ (1 : Int) ≤ ((1 : Nat) : Int); omega,by show (0 : Int) ≤ 0 ∧ (0 : Int) ≤ t; omega,by show (0 : Int) ≤ 0; omega⟩
  cup := List.pairwise_singleton _ _ }
theorem hR3_ok {t n life : Int} {key bd : ByteArray} (h : HitL t n life key bd) : okX (hR3 t key bd) = true := okX_iff.2 {
  now := ⟨h.t.1,by have := h.t; show t ≤ 1000000000; omega⟩
  hits := ⟨by show (0 : Int) ≤ 0; omega,by show (0 : Int) ≤ 1000000000; omega⟩
  pol := polN_ok (s1_ok key)
  len := rfl
  ents := fun e he => by cases he
  up := List.Pairwise.nil
  sub := fun e he => by cases he
  flen := by show 1 ≤ 20; omega
  fes := fun f hf => by
   have ht := h.t
   have hb := h.bd
   rw [show f = ⟨key,bd, 1, 0, 0⟩ from List.mem_singleton.1 hf]
   exact ⟨h.key,by show bd.size ≤ 400; omega,by show (1 : Int) ≤ 1 ∧ (1 : Int) ≤ 3; omega,by show (0 : Int) ≤ 0 ∧ (0 : Int) ≤ 999999; omega,by show (0 : Int) ≤ 0 ∧ (0 : Int) ≤ t; omega⟩
  one := fun i k hi hk _ _ _ => by
   have h1 : i < 1 := hi
   have h2 : k < 1 := hk
   omega
  clen := by show 1 ≤ 6; omega
  cls := fun c hc => by
   have ht := h.t
   have hb := h.bd
   rw [show c = ⟨1,key, 1, 0, 1,bd, 0⟩ from List.mem_singleton.1 hc]
   exact ⟨by show (1 : Int) ≤ 1 ∧ (1 : Int) ≤ 9; omega,h.key,by show (1 : Int) ≤ 1 ∧ (1 : Int) ≤ 3; omega,by show bd.size ≤ 400; omega,by show (0 : Int) ≤ 1 ∧ (1 : Int) ≤ ((1 : Nat) : Int); omega,by show (0 : Int) ≤ 0 ∧ (0 : Int) ≤ t; omega,by show (0 : Int) ≤ 0; omega⟩
  cup := List.pairwise_singleton _ _ }
theorem hit_ent {t n life : Int} {key bd : ByteArray} (h : HitL t n life key bd) : enOk ⟨key,t,life,bd⟩ = true := by
 have hk := h.key
 have ht := h.t
 have hl := h.life
 have hb := h.bd
 unfold enKey at hk
 rw [decide_eq_true_eq] at hk
 exact enOk_iff.2 ⟨hk,by dsimp only; omega,by dsimp only; omega,by dsimp only; omega⟩
theorem hR4_ok {t n life u : Int} {key bd : ByteArray} (h : HitL t n life key bd) (hu : t ≤ u ∧ u ≤ 2000) : okX (hR4 u t life key bd) = true := okX_iff.2 {
  now := ⟨by have := h.t; show 1 ≤ u; omega,by show u ≤ 1000000000; omega⟩
  hits := ⟨by show (0 : Int) ≤ 0; omega,by show (0 : Int) ≤ 1000000000; omega⟩
  pol := polK_ok (enKey_ok h.key) (s2_ok key)
  len := rfl
  ents := fun e he => by rw [show e = ⟨key,t,life,bd⟩ from List.mem_singleton.1 he]; exact hit_ent h
  up := List.pairwise_singleton _ _
  sub := fun e he => by rw [show e = ⟨key,t,life,bd⟩ from List.mem_singleton.1 he]; simp [hR4,hasP,inL,polK]
  flen := by show 1 ≤ 20; omega
  fes := fun f hf => by
   have ht := h.t
   have hb := h.bd
   have hl := h.life
   rw [show f = ⟨key,bd, 2,life,t⟩ from List.mem_singleton.1 hf]
   exact ⟨h.key,by show bd.size ≤ 400; omega,by show (1 : Int) ≤ 2 ∧ (2 : Int) ≤ 3; omega,by show (0 : Int) ≤ life ∧ life ≤ 999999; omega,by show (0 : Int) ≤ t ∧ t ≤ u; omega⟩
  one := fun i k hi hk _ _ _ => by
   have h1 : i < 1 := hi
   have h2 : k < 1 := hk
   omega
  clen := by show 1 ≤ 6; omega
  cls := fun c hc => by
   have ht := h.t
   have hb := h.bd
   rw [show c = ⟨1,key, 1, 0, 2,bd, 0⟩ from List.mem_singleton.1 hc]
   exact ⟨by show (1 : Int) ≤ 1 ∧ (1 : Int) ≤ 9; omega,h.key,by show (1 : Int) ≤ 2 ∧ (2 : Int) ≤ 3; omega,by show bd.size ≤ 400; omega,by show (0 : Int) ≤ 1 ∧ (1 : Int) ≤ ((1 : Nat) : Int); omega,by show (0 : Int) ≤ 0 ∧ (0 : Int) ≤ u; omega,by show (0 : Int) ≤ 0; omega⟩
  cup := List.pairwise_singleton _ _ }
theorem hR6_ok {t n life : Int} {key bd : ByteArray} (h : HitL t n life key bd) : okX (hR6 t n life key bd) = true := okX_iff.2 {
  now := ⟨by have := h.t; have := h.n; show 1 ≤ t + n; omega,by have := h.t; have := h.n; show t + n ≤ 1000000000; omega⟩
  hits := ⟨by show (0 : Int) ≤ 1; omega,by show (1 : Int) ≤ 1000000000; omega⟩
  pol := polK_ok (enKey_ok h.key) (s3_ok key)
  len := rfl
  ents := fun e he => by rw [show e = ⟨key,t,life,bd⟩ from List.mem_singleton.1 he]; exact hit_ent h
  up := List.pairwise_singleton _ _
  sub := fun e he => by rw [show e = ⟨key,t,life,bd⟩ from List.mem_singleton.1 he]; simp [hR6,hasP,inL,polK]
  flen := by show 1 ≤ 20; omega
  fes := fun f hf => by
   have ht := h.t
   have hn := h.n
   have hb := h.bd
   have hl := h.life
   rw [show f = ⟨key,bd, 2,life,t⟩ from List.mem_singleton.1 hf]
   exact ⟨h.key,by show bd.size ≤ 400; omega,by show (1 : Int) ≤ 2 ∧ (2 : Int) ≤ 3; omega,by show (0 : Int) ≤ life ∧ life ≤ 999999; omega,by show (0 : Int) ≤ t ∧ t ≤ t + n; omega⟩
  one := fun i k hi hk _ _ _ => by
   have h1 : i < 1 := hi
   have h2 : k < 1 := hk
   omega
  clen := by show 2 ≤ 6; omega
  cls := fun c hc => by
   have ht := h.t
   have hn := h.n
   have hb := h.bd
   rcases List.mem_cons.1 hc with rfl | hc
   ·exact ⟨by show (1 : Int) ≤ 1 ∧ (1 : Int) ≤ 9; omega,h.key,by show (1 : Int) ≤ 2 ∧ (2 : Int) ≤ 3; omega,by show bd.size ≤ 400; omega,by show (0 : Int) ≤ 1 ∧ (1 : Int) ≤ ((1 : Nat) : Int); omega,by show (0 : Int) ≤ 0 ∧ (0 : Int) ≤ t + n; omega,by show (0 : Int) ≤ 0; omega⟩
   ·rw [show c = ⟨2,key, 0,t, 2,bd,n⟩ from List.mem_singleton.1 hc]
    exact ⟨by show (1 : Int) ≤ 2 ∧ (2 : Int) ≤ 9; omega,h.key,by show (1 : Int) ≤ 2 ∧ (2 : Int) ≤ 3; omega,by show bd.size ≤ 400; omega,by show (0 : Int) ≤ 0 ∧ (0 : Int) ≤ ((1 : Nat) : Int); omega,by show (0 : Int) ≤ t ∧ t ≤ t + n; omega,by show (0 : Int) ≤ n; omega⟩
  cup := List.pairwise_pair.2 (by show (1 : Int) < 2; omega) }
theorem hR7_ok {t n life : Int} {key bd : ByteArray} (h : HitL t n life key bd) : okX (hR7 t n life key bd) = true := okX_iff.2 {
  now := ⟨by have := h.t; have := h.n; show 1 ≤ t + n; omega,by have := h.t; have := h.n; show t + n ≤ 1000000000; omega⟩
  hits := ⟨by show (0 : Int) ≤ 0; omega,by show (0 : Int) ≤ 1000000000; omega⟩
  pol := polN_ok (s3_ok key)
  len := rfl
  ents := fun e he => by cases he
  up := List.Pairwise.nil
  sub := fun e he => by cases he
  flen := by show 2 ≤ 20; omega
  fes := fun f hf => by
   have ht := h.t
   have hn := h.n
   have hb := h.bd
   have hl := h.life
   rcases List.mem_cons.1 hf with rfl | hf
   ·exact ⟨h.key,by show bd.size ≤ 400; omega,by show (1 : Int) ≤ 2 ∧ (2 : Int) ≤ 3; omega,by show (0 : Int) ≤ life ∧ life ≤ 999999; omega,by show (0 : Int) ≤ t ∧ t ≤ t + n; omega⟩
   ·rw [show f = newF key from List.mem_singleton.1 hf]
    exact ⟨h.key,by show 0 ≤ 400; omega,by show (1 : Int) ≤ 1 ∧ (1 : Int) ≤ 3; omega,by show (0 : Int) ≤ 0 ∧ (0 : Int) ≤ 999999; omega,by show (0 : Int) ≤ 0 ∧ (0 : Int) ≤ t + n; omega⟩
  one := fun i k hi hk h1 h2 _ => by
   have hi' : i < 2 := hi
   have hk' : k < 2 := hk
   match i,k with
   | 0,_ => exact absurd (show (2 : Int) = 1 from h1) (by omega)
   | _, 0 => exact absurd (show (2 : Int) = 1 from h2) (by omega)
   | 1, 1 => rfl
   | i + 2,_ => omega
   | _,k + 2 => omega
  clen := by show 2 ≤ 6; omega
  cls := fun c hc => by
   have ht := h.t
   have hn := h.n
   have hb := h.bd
   rcases List.mem_cons.1 hc with rfl | hc
   ·exact ⟨by show (1 : Int) ≤ 1 ∧ (1 : Int) ≤ 9; omega,h.key,by show (1 : Int) ≤ 2 ∧ (2 : Int) ≤ 3; omega,by show bd.size ≤ 400; omega,by show (0 : Int) ≤ 1 ∧ (1 : Int) ≤ ((2 : Nat) : Int); omega,by show (0 : Int) ≤ 0 ∧ (0 : Int) ≤ t + n; omega,by show (0 : Int) ≤ 0; omega⟩
   ·rw [show c = ⟨2,key, 2, 0, 1,⟨#[]⟩, 0⟩ from List.mem_singleton.1 hc]
    exact ⟨by show (1 : Int) ≤ 2 ∧ (2 : Int) ≤ 9; omega,h.key,by show (1 : Int) ≤ 1 ∧ (1 : Int) ≤ 3; omega,by show 0 ≤ 400; omega,by show (0 : Int) ≤ 2 ∧ (2 : Int) ≤ ((2 : Nat) : Int); omega,by show (0 : Int) ≤ 0 ∧ (0 : Int) ≤ t + n; omega,by show (0 : Int) ≤ 0; omega⟩
  cup := List.pairwise_pair.2 (by show (1 : Int) < 2; omega) }
theorem hit_1 {a : Int} (h : 0 ≤ a ∧ a < 1000) : passR newR a = hR1 (1 + a) := by
 have e : a % 1000 = a := by omega
 unfold passR passN newR
 dsimp only
 rw [e,if_neg (by omega)]
 rfl
theorem hit_2 {t n life : Int} {key bd : ByteArray} (h : HitL t n life key bd) : askR (hR1 t) 1 key = (hR2 t key, 0) := by
 rw [askR_wait (by unfold mayB; rw [hR1_ok h.t,h.key]; rfl) rfl (by show ¬ (0 : Nat) = 20; omega)]
 rfl
theorem hit_3 {t n life : Int} {key bd : ByteArray} (h : HitL t n life key bd) : partR (hR2 t key) 0 bd = (hR3 t key bd,true) := by
 have hb := h.bd
 have e : putM (stmOf (newF key)) bd = (⟨1,bd, []⟩,true) := by
  unfold putM
  rw [if_pos (by rw [show okM (stmOf (newF key)) = true from rfl,decide_eq_true (show (stmOf (newF key)).st = 1 from rfl),decide_eq_true (show 1 ≤ bd.size from hb.1),decide_eq_true (show bd.size ≤ 40 from hb.2),decide_eq_true (show (stmOf (newF key)).text.size + bd.size ≤ 400 by show 0 + bd.size ≤ 400; omega)]; rfl)]
  show ((⟨1,(⟨#[]⟩ : ByteArray) ++ bd, []⟩ : Stm),true) = _
  rw [show (⟨#[]⟩ : ByteArray) ++ bd = bd from ByteArray.empty_append]
 have e2 : turnB (hR2 t key) 0 = true := by
  unfold turnB
  rw [hR2_ok h]
  rfl
 unfold partR
 rw [e2,show fetAt (hR2 t key) (0 : Int).toNat = newF key from rfl,e]
 rw [if_pos (by rfl)]
 unfold partP
 rw [show fetAt (hR2 t key) (0 : Int).toNat = newF key from rfl,e]
 rfl
theorem hit_4 {t n life : Int} {key bd : ByteArray} (h : HitL t n life key bd) : closeR (hR3 t key bd) 0 life = (hR4 t t life key bd,true) := by
 have hb := h.bd
 have hl := h.life
 have e : closeM (stmOf ⟨key,bd, 1, 0, 0⟩) life = (⟨2,bd, []⟩,true) := by
  have hm : okM (stmOf ⟨key,bd, 1, 0, 0⟩) = true := by
   unfold okM
   rw [decide_eq_true (show (stmOf (Fet.mk key bd 1 0 0)).text.size ≤ 400 by show bd.size ≤ 400; omega)]
   rfl
  unfold closeM endM
  rw [if_pos (inB_yes (by omega) (by omega)),if_pos (by rw [hm,decide_eq_true (show (stmOf (Fet.mk key bd 1 0 0)).st = 1 from rfl)]; rfl)]
  rfl
 have e2 : turnB (hR3 t key bd) 0 = true := by
  unfold turnB
  rw [hR3_ok h]
  rfl
 unfold closeR
 rw [e2,show fetAt (hR3 t key bd) (0 : Int).toNat = ⟨key,bd, 1, 0, 0⟩ from rfl,e]
 rw [if_pos (by rfl)]
 have e3 : closeG (hR3 t key bd) (0 : Int).toNat life = ⟨key,bd, 2,life,t⟩ := by
  unfold closeG
  rw [show fetAt (hR3 t key bd) (0 : Int).toNat = ⟨key,bd, 1, 0, 0⟩ from rfl,e]
  rfl
 have e4 : closeT (hR3 t key bd) (0 : Int).toNat life = ⟨t, [],polN (s1 key), [⟨key,bd, 2,life,t⟩], [⟨1,key, 1, 0, 2,bd, 0⟩], 0⟩ := by
  unfold closeT
  rw [e3]
  rfl
 unfold closeP
 rw [if_pos (by omega),e3,e4]
 unfold keepR keepB entOfF
 dsimp only
 rw [touchP_N (enKey_ok h.key) (s1_ok key)]
 dsimp only
 rw [if_pos (by simp [hasP,inL,polK])]
 rfl
theorem hit_5 {t n life : Int} {key bd : ByteArray} (h : HitL t n life key bd) : passR (hR4 t t life key bd) n = hR4 (t + n) t life key bd := by
 have ht := h.t
 have hn := h.n
 have e : n % 1000 = n := by omega
 unfold passR passN hR4
 dsimp only
 rw [e,if_neg (by omega)]
theorem hit_at (t life : Int) (key bd : ByteArray) : entAtX [⟨key,t,life,bd⟩] key = (⟨key,t,life,bd⟩,true) := by simp [entAtX]
theorem hit_fresh {t n life : Int} {key bd : ByteArray} (h : HitL t n life key bd) : hitB (hR4 (t + n) t life key bd) key = decide (n < life) := by
 have ht := h.t
 have hn := h.n
 unfold hitB hR4
 dsimp only
 rw [hit_at]
 unfold enFresh
 dsimp only
 rw [hit_ent h,inB_yes (by omega) (by omega),show t + n - t = n by omega]
 rfl
theorem hit_may {t n life : Int} {key bd : ByteArray} (h : HitL t n life key bd) : mayB (hR4 (t + n) t life key bd) 2 key = true := by
 unfold mayB
 rw [hR4_ok h (by have := h.t; have := h.n; omega),h.key]
 rfl
theorem hit_6 {t n life : Int} {key bd : ByteArray} (h : HitL t n life key bd) (hf : n < life) : askR (hR4 (t + n) t life key bd) 2 key = (hR6 t n life key bd, 0) := by
 rw [askR_hit (hit_may h) (by rw [hit_fresh h]; exact decide_eq_true hf)]
 unfold hitR hitC hR4
 dsimp only
 rw [hit_at,touchP_K (enKey_ok h.key) (s2_ok key)]
 dsimp only
 rw [show t + n - t = n by omega]
 rfl
theorem eqS_self (s : ByteArray) : eqS s s = true := by simp [eqS]
theorem hit_7 {t n life : Int} {key bd : ByteArray} (h : HitL t n life key bd) (hf : ¬ n < life) : askR (hR4 (t + n) t life key bd) 2 key = (hR7 t n life key bd, 0) := by
 have e : idxX (openP key) (hR4 (t + n) t life key bd).fes = -1 := idxX_miss fun f hf => by
  rw [show f = ⟨key,bd, 2,life,t⟩ from List.mem_singleton.1 hf]
  unfold openP
  dsimp only
  rw [show ((2 : Int) == 1) = false from rfl,Bool.and_false]
 have e2 : askAt (hR4 (t + n) t life key bd) key = 1 := askAt_none e
 rw [askR_wait (hit_may h) (by rw [hit_fresh h]; exact decide_eq_false hf) (by rw [e2]; omega)]
 unfold waitR
 rw [e2]
 unfold hR4
 dsimp only
 rw [waitP_K]
 have e3 : offE [⟨key,t,life,bd⟩] key = [] := by
  unfold offE keepX
  simp [eqS_self]
 rw [e3]
 rfl
def cliAtX (L : List Cli) (id : Int) : Cli × Bool := match L.find? (fun x => decide (x.id = id)) with | some x => (x,true) | none => (⟨0,⟨#[]⟩, 0, 0, 0,⟨#[]⟩, 0⟩,false)
theorem cliAtX_there {L : List Cli} {id : Int} {k : Nat} (hk : k < L.length) (hno : ∀ j (hj : j < L.length),j < k → ¬ L[j].id = id) (he : L[k].id = id) : cliAtX L id = (L[k],true) := by
 have h : L.find? (fun x => decide (x.id = id)) = some L[k] := by
  rw [List.find?_eq_some_iff_getElem]
  exact ⟨by simpa using he,k,hk,rfl,fun j hj => by simpa using hno j (by omega) hj⟩
 unfold cliAtX
 rw [h]
theorem cliAtX_none {L : List Cli} {id : Int} (hno : ∀ j (hj : j < L.length),j < L.length → ¬ L[j].id = id) : cliAtX L id = (⟨0,⟨#[]⟩, 0, 0, 0,⟨#[]⟩, 0⟩,false) := by
 have h : L.find? (fun x => decide (x.id = id)) = none := by
  rw [List.find?_eq_none]
  intro x hx
  obtain ⟨j,hj,rfl⟩ := List.getElem_of_mem hx
  simpa using hno j hj hj
 unfold cliAtX
 rw [h]
def putCl (w : World) (T : Nat) (f : Cli) : World := ((((((w.setCell ⟨T, 0,none⟩ (.int .i64 f.id)).setCell ⟨T, 1,none⟩ (.string f.key)).setCell ⟨T, 2,none⟩ (.int .i64 f.fe)).setCell ⟨T, 3,none⟩ (.int .i64 f.fr)).setCell ⟨T, 4,none⟩ (.int .i64 f.st)).setCell ⟨T, 5,none⟩ (.string f.got)).setCell ⟨T, 6,none⟩ (.int .i64 f.ag)
theorem CliB.put {w : World} {T : Nat} {t : TypeId} {f : Cli} (h : CliB w T t f) (g : Cli) : CliB (putCl w T g) T t g := by
 unfold CliB at h ⊢
 unfold putCl
 simp only [World.setCell,Array.getElem?_modify,h]
 simp
set_option maxRecDepth 100000 in
set_option maxHeartbeats 8000000 in
theorem client_any (w : World) (X : Pc) (R : Prx) (id : Int) (hA : PxAt w X R w.heap.size) (hm : R.cls.length ≤ 1048576) :
  Calls Tryz.prog 11 #[.agg #[.int .i64 R.now,X.e,X.w,X.m,X.k,.int .i64 R.pol.sk.added,X.f,X.c,.int .i64 R.hits],.int .i64 id] w fun e w' => ∃ x : Cli,e = .returned (.tuple #[.agg #[.int .i64 x.id,.string x.key,.int .i64 x.fe,.int .i64 x.fr,.int .i64 x.st,.string x.got,.int .i64 x.ag],.bool (cliAtX R.cls id).2]) ∧ x = (cliAtX R.cls id).1 ∧ Below w.heap.size w w' := by
 obtain ⟨e0,e1,p0,p1,m0,m1,k0,k1,f0,f1,c0,c1,rfl⟩ := hA.slices
 dsimp only
 obtain ⟨ax,cx,hvx,hex⟩ := hA.c
 simp only [Value.slice.injEq,true_and] at hvx
 obtain ⟨hax,hcx'⟩ := hvx
 subst hax hcx'
 obtain ⟨w1,hw1⟩ : ∃ x,w.alloc (.cells #[.int .i64 R.now,.slice e0 R.ents.length e1,.slice p0 R.pol.win.length p1,.slice m0 R.pol.main.length m1,.slice k0 R.pol.sk.rows.length k1,.int .i64 R.pol.sk.added,.slice f0 R.fes.length f1,.slice c0 R.cls.length c1,.int .i64 R.hits] 36) = x := ⟨_,rfl⟩
 obtain ⟨w2,hw2⟩ : ∃ x,w1.alloc (.cells #[.int .i64 0,.string ⟨#[]⟩,.int .i64 0,.int .i64 0,.int .i64 0,.string ⟨#[]⟩,.int .i64 0] 45) = x := ⟨_,rfl⟩
 have hb1 : Below w.heap.size w w1 := by rw [← hw1]; exact (Below.refl _ _).alloc (Nat.le_refl _) _
 have hb2 : Below w1.heap.size w1 w2 := by rw [← hw2]; exact (Below.refl _ _).alloc (Nat.le_refl _) _
 have s1 : w1.heap.size = w.heap.size + 1 := by rw [← hw1]; simp
 have hb : Below w.heap.size w w2 := hb1.trans (hb2.mono hb1.size)
 have hB1 : NB w1 w.heap.size 36 (.int .i64 R.now) (.slice e0 R.ents.length e1) (.slice p0 R.pol.win.length p1) (.slice m0 R.pol.main.length m1) (.slice k0 R.pol.sk.rows.length k1) (.int .i64 R.pol.sk.added) (.slice f0 R.fes.length f1) (.slice c0 R.cls.length c1) (.int .i64 R.hits) := by rw [← hw1]; exact NB.new _ _ _ _ _ _ _ _ _ _ _
 have hE1 : CliB w2 (w.heap.size + 1) 45 ⟨0,⟨#[]⟩, 0, 0, 0,⟨#[]⟩, 0⟩ := by rw [← hw2, ← s1]; exact CliB.new w1 _ ⟨0,⟨#[]⟩, 0, 0, 0,⟨#[]⟩, 0⟩
 have HD : Hid (∀ W,Below w2.heap.size w2 W → NB W w.heap.size 36 (.int .i64 R.now) (.slice e0 R.ents.length e1) (.slice p0 R.pol.win.length p1) (.slice m0 R.pol.main.length m1) (.slice k0 R.pol.sk.rows.length k1) (.int .i64 R.pol.sk.added) (.slice f0 R.fes.length f1) (.slice c0 R.cls.length c1) (.int .i64 R.hits) ∧ CliB W (w.heap.size + 1) 45 ⟨0,⟨#[]⟩, 0, 0, 0,⟨#[]⟩, 0⟩ ∧ CliAt W c0 R.cls W.heap.size ∧ Below w.heap.size w W) := fun W h =>
  ⟨(hB1.on hb2).on h,hE1.on h,(hex.on hb).on h,hb.trans (h.mono hb.size)⟩
 have HW : Hid ((w.alloc (.cells #[.int .i64 R.now,.slice e0 R.ents.length e1,.slice p0 R.pol.win.length p1,.slice m0 R.pol.main.length m1,.slice k0 R.pol.sk.rows.length k1,.int .i64 R.pol.sk.added,.slice f0 R.fes.length f1,.slice c0 R.cls.length c1,.int .i64 R.hits] 36)).alloc (.cells #[.int .i64 0,.string ⟨#[]⟩,.int .i64 0,.int .i64 0,.int .i64 0,.string ⟨#[]⟩,.int .i64 0] 45) = w2) := by show _ = _; rw [hw1]; exact hw2
 clear hw1 hw2 hb1 hb2 s1 hb hB1 hE1 hex hA
 go_enter Tryz.func11,Tryz.ntmps11
 go_wp2_with fail
 rw [HW.out]
 go_loopw [6] (fun i wr => Box (∃ k : Nat,k ≤ R.cls.length ∧ i = .int .i64 k ∧ Below w2.heap.size w2 wr ∧ ∀ j (hj : j < R.cls.length),j < k → ¬ R.cls[j].id = id))
  (fun i _ => R.cls.length - (intOf i).toNat)
 case atStart => exact ⟨⟨0,by omega,rfl,Below.refl _ _,fun j hj h => absurd h (by omega)⟩⟩
 case round =>
  obtain ⟨k,hk,rfl,hbel,hno⟩ := hrel.out
  clear hrel
  obtain ⟨hP,hE,hL,hbw⟩ := HD.out wr hbel
  obtain ⟨b0,b1,b2,b3,b4,b5,b6,b7,b8⟩ := hP.cells
  have HR : Hid (∀ j (hj : j < R.cls.length),j < k → ¬ R.cls[j].id = id) := hno
  have HB : Hid (Below w2.heap.size w2 wr ∧ Below w.heap.size w wr) := ⟨hbel,hbw⟩
  have HE : Hid (CliB wr (w.heap.size + 1) 45 ⟨0,⟨#[]⟩, 0, 0, 0,⟨#[]⟩, 0⟩) := hE
  by_cases hlt : k < R.cls.length
  ·obtain ⟨g,off,hga,hgl,q0,q1,q2,q3,q4,q5,q6⟩ := hL k hlt
   obtain ⟨x,hx⟩ : ∃ x,R.cls[k] = x := ⟨_,rfl⟩
   rw [hx] at q0 q1 q2 q3 q4 q5 q6
   have HX : Hid (R.cls[k] = x) := hx
   have hi1 : (0 : Int) ≤ (k : Int) := by omega
   have hi2 : (k : Int) < (R.cls.length : Int) := by omega
   subst hga
   by_cases he : x.id = id
   ·have HA : Hid (cliAtX R.cls id = (x,true)) := by show _ = _; rw [cliAtX_there hlt HR.out (by rw [hx]; exact he),hx]
    subst he
    obtain ⟨r0,r1,r2,r3,r4,r5,r6⟩ := hE.cells
    have t0 := hE.thaw 0
    have t1 := hE.thaw 1
    have t2 := hE.thaw 2
    have t3 := hE.thaw 3
    have t4 := hE.thaw 4
    have t5 := hE.thaw 5
    have t6 := hE.thaw 6
    have HF : Hid (CliB (putCl wr (w.heap.size + 1) x) (w.heap.size + 1) 45 x ∧ Below w.heap.size w (putCl wr (w.heap.size + 1) x)) := ⟨hE.put x,by
     unfold putCl
     exact ((((((hbw.setCell (Nat.le_succ _) _).setCell (Nat.le_succ _) _).setCell (Nat.le_succ _) _).setCell (Nat.le_succ _) _).setCell (Nat.le_succ _) _).setCell (Nat.le_succ _) _).setCell (Nat.le_succ _) _⟩
    clear hx hP hL hno hbel hbw hE
    go_wp2_with fail
    obtain ⟨u0,u1,u2,u3,u4,u5,u6⟩ := HF.out.1.cells
    unfold putCl at u0 u1 u2 u3 u4 u5 u6
    refine bodyPost_ret (v := .tuple #[.agg #[.int .i64 x.id,.string x.key,.int .i64 x.fe,.int .i64 x.fr,.int .i64 x.st,.string x.got,.int .i64 x.ag],.bool true]) (by simp [results,Tryz.results11,go_sem,u0,u1,u2,u3,u4,u5,u6]) rfl ⟨x,by rw [HA.out],by rw [HA.out],HF.out.2⟩
   ·have hne : ¬ x.id = id := he
    clear hP hL hno hbel hbw hE hx
    go_wp2_with fail
    go_roundw
    case rel =>
     try ((repeat apply Exists.intro); refine ⟨?_,rfl⟩)
     refine ⟨⟨k + 1,by omega,by go_num,HB.out.1,fun j hj hjk => ?_⟩⟩
     by_cases hjk' : j = k
     ·subst hjk'; rw [HX.out]; exact he
     ·exact HR.out j hj (by omega)
    case measure => simp [intOf]; omega
  ·have hke : k = R.cls.length := by omega
   subst hke
   have HA : Hid (cliAtX R.cls id = (⟨0,⟨#[]⟩, 0, 0, 0,⟨#[]⟩, 0⟩,false)) := cliAtX_none HR.out
   have hi2 : ¬ ((R.cls.length : Int) < (R.cls.length : Int)) := by omega
   obtain ⟨r0,r1,r2,r3,r4,r5,r6⟩ := hE.cells
   have t0 := hE.thaw 0
   have t1 := hE.thaw 1
   have t2 := hE.thaw 2
   have t3 := hE.thaw 3
   have t4 := hE.thaw 4
   have t5 := hE.thaw 5
   have t6 := hE.thaw 6
   have HF : Hid (CliB (putCl wr (w.heap.size + 1) ⟨0,⟨#[]⟩, 0, 0, 0,⟨#[]⟩, 0⟩) (w.heap.size + 1) 45 ⟨0,⟨#[]⟩, 0, 0, 0,⟨#[]⟩, 0⟩ ∧ Below w.heap.size w (putCl wr (w.heap.size + 1) ⟨0,⟨#[]⟩, 0, 0, 0,⟨#[]⟩, 0⟩)) := ⟨hE.put _,by
    unfold putCl
    exact ((((((hbw.setCell (Nat.le_succ _) _).setCell (Nat.le_succ _) _).setCell (Nat.le_succ _) _).setCell (Nat.le_succ _) _).setCell (Nat.le_succ _) _).setCell (Nat.le_succ _) _).setCell (Nat.le_succ _) _⟩
   clear hP hL hno hbel hbw hE
   go_wp2_with fail
   obtain ⟨u0,u1,u2,u3,u4,u5,u6⟩ := HF.out.1.cells
   unfold putCl at u0 u1 u2 u3 u4 u5 u6
   refine bodyPost_ret (v := .tuple #[.agg #[.int .i64 0,.string ⟨#[]⟩,.int .i64 0,.int .i64 0,.int .i64 0,.string ⟨#[]⟩,.int .i64 0],.bool false]) (by simp [results,Tryz.results11,go_sem,u0,u1,u2,u3,u4,u5,u6]) rfl ⟨⟨0,⟨#[]⟩, 0, 0, 0,⟨#[]⟩, 0⟩,by rw [HA.out],by rw [HA.out],HF.out.2⟩
theorem hidR {p : Prop} (h : p) : Hid p := h
theorem ret9 {w w0 : World} {A lo hi : Nat} {X : Pc} {R : Prx} {z0 z1 z2 z3 z4 z5 z6 z7 z8 : Value} (ho : PxOwn w lo hi X R) (hr : NB w (A + 1) 36 z0 z1 z2 z3 z4 z5 z6 z7 z8) (hb : Below A w0 w) :
  NB (((((((((w.setCell ⟨A + 1, 0,none⟩ (.int .i64 R.now)).setCell ⟨A + 1, 1,none⟩ X.e).setCell ⟨A + 1, 2,none⟩ X.w).setCell ⟨A + 1, 3,none⟩ X.m).setCell ⟨A + 1, 4,none⟩ X.k).setCell ⟨A + 1, 5,none⟩ (.int .i64 R.pol.sk.added)).setCell ⟨A + 1, 6,none⟩ X.f).setCell ⟨A + 1, 7,none⟩ X.c).setCell ⟨A + 1, 8,none⟩ (.int .i64 R.hits)) (A + 1) 36 (.int .i64 R.now) X.e X.w X.m X.k (.int .i64 R.pol.sk.added) X.f X.c (.int .i64 R.hits) ∧ PxOwn (((((((((w.setCell ⟨A + 1, 0,none⟩ (.int .i64 R.now)).setCell ⟨A + 1, 1,none⟩ X.e).setCell ⟨A + 1, 2,none⟩ X.w).setCell ⟨A + 1, 3,none⟩ X.m).setCell ⟨A + 1, 4,none⟩ X.k).setCell ⟨A + 1, 5,none⟩ (.int .i64 R.pol.sk.added)).setCell ⟨A + 1, 6,none⟩ X.f).setCell ⟨A + 1, 7,none⟩ X.c).setCell ⟨A + 1, 8,none⟩ (.int .i64 R.hits)) lo (((((((((w.setCell ⟨A + 1, 0,none⟩ (.int .i64 R.now)).setCell ⟨A + 1, 1,none⟩ X.e).setCell ⟨A + 1, 2,none⟩ X.w).setCell ⟨A + 1, 3,none⟩ X.m).setCell ⟨A + 1, 4,none⟩ X.k).setCell ⟨A + 1, 5,none⟩ (.int .i64 R.pol.sk.added)).setCell ⟨A + 1, 6,none⟩ X.f).setCell ⟨A + 1, 7,none⟩ X.c).setCell ⟨A + 1, 8,none⟩ (.int .i64 R.hits)).heap.size X R ∧ Below A w0 (((((((((w.setCell ⟨A + 1, 0,none⟩ (.int .i64 R.now)).setCell ⟨A + 1, 1,none⟩ X.e).setCell ⟨A + 1, 2,none⟩ X.w).setCell ⟨A + 1, 3,none⟩ X.m).setCell ⟨A + 1, 4,none⟩ X.k).setCell ⟨A + 1, 5,none⟩ (.int .i64 R.pol.sk.added)).setCell ⟨A + 1, 6,none⟩ X.f).setCell ⟨A + 1, 7,none⟩ X.c).setCell ⟨A + 1, 8,none⟩ (.int .i64 R.hits)) :=
 ⟨hr.put _ _ _ _ _ _ _ _ _,(ho.box hr (by unfold PxT; decide) (fun j hj => put9_other w (A + 1) _ _ _ _ _ _ _ _ _ j hj)).up,Below.put9 hb (T := A + 1) (by omega) _ _ _ _ _ _ _ _ _⟩
theorem cltl_takeI (L : List (Cli)) (i : Nat) : (cltl L).take (i * 7) = cltl (L.take i) := by
 induction L generalizing i with
 | nil => simp [cltl]
 | cons f L ih =>
  cases i with
  | zero => simp [cltl]
  | succ i =>
   rw [cltl_cons,show (i + 1) * 7 = i * 7 + 1 + 1 + 1 + 1 + 1 + 1 + 1 by omega]
   simp only [Cli.cells,List.cons_append,List.take_succ_cons,List.nil_append,cltl_cons,ih]
theorem cltl_dropI (L : List (Cli)) (i : Nat) : (cltl L).drop (i * 7) = cltl (L.drop i) := by
 induction L generalizing i with
 | nil => simp [cltl]
 | cons f L ih =>
  cases i with
  | zero => simp
  | succ i =>
   rw [cltl_cons,show (i + 1) * 7 = i * 7 + 1 + 1 + 1 + 1 + 1 + 1 + 1 by omega]
   simp only [Cli.cells,List.cons_append,List.drop_succ_cons,List.nil_append,ih]
theorem cltl_appendI (A B : List (Cli)) : cltl (A ++ B) = cltl A ++ cltl B := by simp [cltl]
set_option maxHeartbeats 4000000 in
set_option maxRecDepth 100000 in
theorem insertCli_end (w : World) (base : Nat) (v : Value) (L : List (Cli)) (f : Cli) (vb : Nat) (ho : OwnCli w base 45 v L) (hbase : base ≤ w.heap.size) (hm : L.length ≤ 1048577)
  (hV : w.heap[vb]? = some (.cells #[.int .i64 f.id,.string f.key,.int .i64 f.fe,.int .i64 f.fr,.int .i64 f.st,.string f.got,.int .i64 f.ag] 45 (0, 0))) :
  Calls Tryz.prog 69 #[v,.int .i64 L.length,.slice (some ⟨vb, 0,none⟩) 1 1] w fun e w' => ∃ v',e = .returned v' ∧ OwnCli w' base 45 v' (L ++ [f]) ∧ Tch (fun k => v.ownBlock = some k) w w' := by
 have hsrc : ∀ j u,(cltl [f])[j]? = some u → w.cell? ((⟨vb, 0,none⟩ : Addr).add j) = some u := fun j u hu => World.news_of_block hV j u (by simpa [cltl,Cli.cells] using hu)
 obtain ⟨i0,hi,hz0,hz1,hz2⟩ := info_parts Tryz.infoCli
 have hone : ∀ u ∈ cltl [f],u.oneCell' = true := cltl_one [f]
 have hlt : ∀ k,v.ownBlock = some k → base ≤ k := fun k hk => (ho.lt k hk).1
 obtain ⟨a,cap,rfl,hP⟩ := ho.at
 have hn : (L.length : Int) ≤ 1048577 := by omega
 have HO : Hid (OwnCli w base 45 (.slice a L.length cap) L) := ho
 have hcap : L.length ≤ cap := by
  rcases ho.2 with ⟨e,h0⟩ | ⟨g,cp,cur,e,_,_,h1,_⟩
  ·simp only [Value.slice.injEq] at e; omega
  ·simp only [Value.slice.injEq] at e; omega
 clear ho hV hP
 go_enter Tryz.func69,Tryz.ntmps69
 go_wp2_with (at_builtin; refine wpList_append_own _ rfl _ _ 34 rfl base 45 i0 _ 7 72 Tryz.underlying34 hi hz0 hz1 hz2 rfl (by decide) _ L.length (cltl L) rfl HO.out ⟨vb, 0,none⟩ 1 1 (cltl [f]) rfl rfl hsrc hone (by unfold maxLen; omega) (by omega) hbase ?_; intro v' w' h1 h2 _)
 all_goals (
  go_ret
  refine ⟨_,rfl, ?_,Tch.of_grown (row := (Value.slice a L.length cap).ownBlock) h2 (fun k e => by cases a <;> exact e)⟩
  unfold OwnCli
  rw [cltl_appendI,List.length_append,List.length_singleton]
  exact h1)
theorem ins_spliceCli {α : Type} (X D F : List α) (o m : Nat) (hF : F.length = m) (hX : o + m + D.length ≤ X.length) : (splice (splice X (o + m) D) o F).take (o + m + D.length) = X.take o ++ F ++ D := by
 subst hF
 unfold splice
 have e1 : (X.take (o + F.length) ++ (D ++ X.drop (o + F.length + D.length))).take o = X.take o := by
  rw [List.take_append_of_le_length (by simp; omega),List.take_take,Nat.min_eq_left (by omega)]
 have e2 : (X.take (o + F.length) ++ (D ++ X.drop (o + F.length + D.length))).drop (o + F.length) = D ++ X.drop (o + F.length + D.length) := by
  rw [List.drop_append_of_le_length (by simp; omega),List.drop_of_length_le (by simp; omega),List.nil_append]
 rw [e1,e2, ← List.append_assoc, ← List.append_assoc,List.take_append_of_le_length (by simp; omega)]
 exact List.take_of_length_le (by simp; omega)
theorem ins_spliceCli' {α : Type} (X D F : List α) (o m : Nat) (hF : F.length = m) (hX : o + m + D.length ≤ X.length) : (splice (splice X o F) (o + m) D).take (o + m + D.length) = X.take o ++ F ++ D := by
 subst hF
 unfold splice
 have e1 : (X.take o ++ (F ++ X.drop (o + F.length))).take (o + F.length) = X.take o ++ F := by
  rw [← List.append_assoc,List.take_append_of_le_length (by simp; omega)]
  exact List.take_of_length_le (by simp; omega)
 rw [e1, ← List.append_assoc,List.take_append_of_le_length (by simp; omega)]
 exact List.take_of_length_le (by simp; omega)
theorem row_srcCli {w : World} {g : Nat} {cur : List Value} {t : TypeId} {fr : Nat × Nat} (hg : w.heap[g]? = some (.cells cur.toArray t fr)) (L : List (Cli)) (hL : cur.take (L.length * 7) = cltl L) (i : Nat) (hi : i ≤ L.length) :
  ∀ j v,(cltl (L.drop i))[j]? = some v → w.cell? ((⟨g,i * 7,none⟩ : Addr).add j) = some v := by
 intro j v hj
 rw [Addr.add_mid]
 have hlt := (List.getElem?_eq_some_iff.1 hj).1
 rw [cltl_length,List.length_drop] at hlt
 rw [← cltl_dropI, ← hL,List.getElem?_drop,List.getElem?_take,if_pos (by omega)] at hj
 simp [World.cell?,hg,hj]
theorem Tryz.sizeCli : (Tryz.prog.info? 45).map (·.size) = some 7 := by kernel_rfl
theorem overCli (w : World) (vb g : Nat) (hne : vb ≠ g) (vcur cur : List Value) (hV : w.heap[vb]? = some (.cells vcur.toArray 45 (0, 0))) (hG : w.heap[g]? = some (.cells cur.toArray 45 (0, 0))) (h0 : cur.length ≠ 0) (m vc o lb cb : Nat) :
  (callFunc 92 #[.slice (some ⟨vb, 0,none⟩) m vc,.slice (some ⟨g,o,none⟩) lb cb]).run Tryz.prog w = .ok (.value (.bool false)) w := by
 rw [run_callFunc_extern Tryz.func92 (by kernel_rfl) (by kernel_rfl) (by kernel_rfl) (e := Extern.SlicesOverlaps.overlaps #[34, 34] #[4]) (by kernel_rfl),
  Lib.run_overlaps_apart w 34 4 45 Tryz.underlying34 7 (by intro w; kernel_rfl) ⟨vb, 0,none⟩ ⟨g,o,none⟩ m vc lb cb hne 45 45 vcur.length cur.length (by simp [World.shape?,hV]) (by simp [World.shape?,hG]) h0 (by simp [World.frozen?,hV]) (by simp [World.frozen?,hV])]
 rfl
set_option maxHeartbeats 4000000 in
set_option maxRecDepth 100000 in
theorem insertCli_room (w : World) (base g cap i : Nat) (L : List (Cli)) (f : Cli) (vb : Nat) (cur : List Value) (hg : w.heap[g]? = some (.cells cur.toArray 45 (0, 0))) (hcur : cur.length = cap * 7) (htk : cur.take (L.length * 7) = cltl L)
  (hcap : cap ≤ maxLen) (hbg : base ≤ g) (hroom : L.length + 1 ≤ cap) (hi : i < L.length)
  (hV : w.heap[vb]? = some (.cells #[.int .i64 f.id,.string f.key,.int .i64 f.fe,.int .i64 f.fr,.int .i64 f.st,.string f.got,.int .i64 f.ag] 45 (0, 0))) (hne : vb ≠ g) :
  Calls Tryz.prog 69 #[.slice (some ⟨g, 0,none⟩) L.length cap,.int .i64 i,.slice (some ⟨vb, 0,none⟩) 1 1] w fun e w' => ∃ v',e = .returned v' ∧ OwnCli w' base 45 v' (L.take i ++ f :: L.drop i) ∧ Tch (fun k => k = g) w w' := by
 have hov := overCli w vb g hne [.int .i64 f.id,.string f.key,.int .i64 f.fe,.int .i64 f.fr,.int .i64 f.st,.string f.got,.int .i64 f.ag] cur hV hg (by omega) 1 1
 have hsrc1 : Hid (∀ (wi : World),wi.heap[g]? = w.heap[g]? → ∀ j v,(cltl (L.drop i))[j]? = some v → wi.cell? ((⟨g,i * 7,none⟩ : Addr).add j) = some v) := fun wi h => row_srcCli (h.trans hg) L htk i (by omega)
 have hsrc2 : Hid (∀ (wi : World),wi.heap[vb]? = w.heap[vb]? → ∀ j v,(cltl [f])[j]? = some v → wi.cell? ((⟨vb, 0,none⟩ : Addr).add j) = some v) := fun wi h j u hu => World.news_of_block (h.trans hV) j u (by simpa [cltl,Cli.cells] using hu)
 have HG : Hid (w.heap[g]? = some (.cells cur.toArray 45 (0, 0)) ∧ cur.length = cap * 7 ∧ cur.take (L.length * 7) = cltl L) := ⟨hg,hcur,htk⟩
 obtain ⟨D,hD⟩ : ∃ D,cltl (L.drop i) = D := ⟨_,rfl⟩
 obtain ⟨F,hF⟩ : ∃ F,cltl [f] = F := ⟨_,rfl⟩
 have hDl : Hid (D.length = (L.length - i) * 7) := by show _ = _; rw [← hD,cltl_length,List.length_drop]
 have hFl : Hid (F.length = 7) := by show _ = _; rw [← hF]; rfl
 have hD1 : Hid (∀ v ∈ D,v.oneCell' = true) := by show ∀ v ∈ D,_; rw [← hD]; exact cltl_one _
 have hF1 : Hid (∀ v ∈ F,v.oneCell' = true) := by show ∀ v ∈ F,_; rw [← hF]; exact cltl_one _
 rw [hD] at hsrc1
 rw [hF] at hsrc2
 have HD : Hid (cltl (L.drop i) = D ∧ cltl [f] = F) := ⟨hD,hF⟩
 obtain ⟨n,hn⟩ : ∃ n,L.length = n := ⟨_,rfl⟩
 have HN : Hid (L.length = n) := hn
 rw [hn] at hroom hi hDl HG ⊢
 clear hg hcur htk hV hD hF hn
 have hc1 : (cap : Int) ≤ 9223372036854775807 := by unfold maxLen at hcap; omega
 have hz2 : ¬ ((i : Int) = (n : Int)) := by omega
 have hw1 : IntKind.i64.wrap ((i : Int) + 1) = (i : Int) + 1 := by rw [IntKind.wrap_i64]; omega
 have hw2 : IntKind.i64.wrap ((n : Int) + 1) = (n : Int) + 1 := by rw [IntKind.wrap_i64]; omega
 have hz3 : ¬ ((cap : Int) < (n : Int) + 1) := by omega
 have htn : ((i : Int) + 1).toNat = i + 1 := by omega
 have htn2 : ((n : Int) + 1).toNat = n + 1 := by omega
 have hb1 : (0 : Int) ≤ (i : Int) + 1 := by omega
 have hb2 : ¬ (cap = i + 1) := by omega
 have hb3 : (i : Int) ≤ (n : Int) + 1 := by omega
 have hb4 : ¬ (cap = i) := by omega
 have hb5 : (i : Int) + 1 ≤ (n : Int) + 1 := by omega
 have hb6 : (0 : Int) ≤ (n : Int) + 1 := by omega
 have hb7 : (n : Int) + 1 ≤ (cap : Int) := by omega
 have hin : i ≤ n := by omega
 go_enter Tryz.func69,Tryz.ntmps69
 go_wp2_with (simp only [hov])
 go_region_law (refine step_copy_spliceN rfl (.tmp 73) (.tmp 76) 34 34 rfl 45 7 Tryz.underlying34 Tryz.sizeCli (n - i) (cap - (i + 1)) (n + 1 - i) (cap - i) g ((i + 1) * 7) ⟨g,i * 7,none⟩ (by simp [Act.eval,Act.put]) (by simp [Act.eval,Act.put]) cur 45 HG.out.1 D (by rw [hDl.out]; simp only [Nat.min_def]; split <;> omega) (hsrc1.out _ rfl) (by rw [hDl.out,HG.out.2.1]; omega) hD1.out base w ⟨rfl,rfl,rfl,Nat.le_refl _,fun _ _ => rfl⟩ hbg ?_; intro w1 hW1 hB1)
 go_wp2_with (refine wpList_copy_spliceN rfl (.tmp 80) (.tmp 81) 34 34 rfl 45 7 Tryz.underlying34 Tryz.sizeCli (n + 1 - i) (cap - i) 1 1 g (i * 7) ⟨vb, 0,none⟩ rfl rfl (splice cur ((i + 1) * 7) D) 45 hW1.out.1 F (by rw [hFl.out]; simp only [Nat.min_def]; split <;> omega) (hsrc2.out _ (hW1.out.2 _ hne)) (by rw [length_splice _ _ _ (by rw [hDl.out,HG.out.2.1]; omega),hFl.out,HG.out.2.1]; omega) hF1.out base w hB1 hbg ?_; intro w2 hW2 hB2)
 go_ret
 refine ⟨_,rfl, ?_,⟨hB2.mono (Nat.zero_le _),fun k _ hn => (hW2.out.2 k hn).trans (hW1.out.2 k hn)⟩⟩
 have hl1 : (splice cur ((i + 1) * 7) D).length = cap * 7 := by rw [length_splice _ _ _ (by rw [hDl.out,HG.out.2.1]; omega),HG.out.2.1]
 have hl2 : (splice (splice cur ((i + 1) * 7) D) (i * 7) F).length = cap * 7 := by rw [length_splice _ _ _ (by rw [hl1,hFl.out]; omega),hl1]
 have hLn : (L.take i ++ f :: L.drop i).length = n + 1 := by have := HN.out; simp; omega
 refine ⟨by rw [cltl_length],.inr ⟨g,cap,(splice (splice cur ((i + 1) * 7) D) (i * 7) F).toArray,by rw [hLn]; rfl,hbg,hW2.out.1,by omega,hcap,by simpa using hl2, ?_⟩⟩
 have e := ins_spliceCli cur D F (i * 7) 7 hFl.out (by rw [hDl.out,HG.out.2.1]; omega)
 rw [show (i + 1) * 7 = i * 7 + 7 by omega,hLn,show (n + 1) * 7 = i * 7 + 7 + D.length by rw [hDl.out]; omega]
 show List.take _ (splice (splice cur (i * 7 + 7) D) (i * 7) F) = _
 rw [e, ← HD.out.1, ← HD.out.2,show cur.take (i * 7) = cltl (L.take i) by rw [← cltl_takeI, ← HG.out.2.2,List.take_take,Nat.min_eq_left (by omega)]]
 rw [show L.take i ++ f :: L.drop i = L.take i ++ [f] ++ L.drop i by simp,cltl_appendI,cltl_appendI]
set_option maxHeartbeats 4000000 in
set_option maxRecDepth 100000 in
theorem insertCli_grow (w : World) (base g cap i : Nat) (L : List (Cli)) (f : Cli) (vb : Nat) (cur : List Value) (hg : w.heap[g]? = some (.cells cur.toArray 45 (0, 0))) (htk : cur.take (L.length * 7) = cltl L)
  (hnc : L.length ≤ cap) (hroom : cap < L.length + 1) (hi : i < L.length) (hm : L.length ≤ 1048577) (hbase : base ≤ w.heap.size)
  (hV : w.heap[vb]? = some (.cells #[.int .i64 f.id,.string f.key,.int .i64 f.fe,.int .i64 f.fr,.int .i64 f.st,.string f.got,.int .i64 f.ag] 45 (0, 0))) :
  Calls Tryz.prog 69 #[.slice (some ⟨g, 0,none⟩) L.length cap,.int .i64 i,.slice (some ⟨vb, 0,none⟩) 1 1] w fun e w' => ∃ v',e = .returned v' ∧ OwnCli w' base 45 v' (L.take i ++ f :: L.drop i) ∧ Below w.heap.size w w' := by
 have hgs : g < w.heap.size := (Array.getElem?_eq_some_iff.1 hg).1
 have hvs : vb < w.heap.size := (Array.getElem?_eq_some_iff.1 hV).1
 obtain ⟨i0,hi0,hz0,hzs,hzb⟩ := info_parts Tryz.infoCli
 have hsrc1 : Hid (∀ (wi : World),wi.heap[g]? = w.heap[g]? → ∀ j v,(cltl (L.drop i))[j]? = some v → wi.cell? ((⟨g,i * 7,none⟩ : Addr).add j) = some v) := fun wi h => row_srcCli (h.trans hg) L htk i (by omega)
 have hsrc2 : Hid (∀ (wi : World),wi.heap[vb]? = w.heap[vb]? → ∀ j v,(cltl [f])[j]? = some v → wi.cell? ((⟨vb, 0,none⟩ : Addr).add j) = some v) := fun wi h j u hu => World.news_of_block (h.trans hV) j u (by simpa [cltl,Cli.cells] using hu)
 have hold : (Builtin.firstCells i0.size i (.slice (some ⟨g, 0,none⟩) i cap)).run Tryz.prog w.drew = .ok (cltl (L.take i)).toArray w.drew := by
  rw [hzs]
  exact run_firstCells_some w.drew 7 i ⟨g, 0,none⟩ i cap (cltl (L.take i)) (by rw [cltl_length,List.length_take]; omega) (fun j v hj => by
   have h0 := row_srcCli (w := w.drew) hg L htk 0 (by omega) j v (by
    have hl := (List.getElem?_eq_some_iff.1 hj).1
    rw [← cltl_takeI,List.getElem?_take] at hj
    split at hj
    ·exact hj
    ·cases hj)
   simpa using h0)
 obtain ⟨D,hD⟩ : ∃ D,cltl (L.drop i) = D := ⟨_,rfl⟩
 obtain ⟨F,hF⟩ : ∃ F,cltl [f] = F := ⟨_,rfl⟩
 have hDl : Hid (D.length = (L.length - i) * 7) := by show _ = _; rw [← hD,cltl_length,List.length_drop]
 have hFl : Hid (F.length = 7) := by show _ = _; rw [← hF]; rfl
 have hD1 : Hid (∀ v ∈ D,v.oneCell' = true) := by show ∀ v ∈ D,_; rw [← hD]; exact cltl_one _
 have hF1 : Hid (∀ v ∈ F,v.oneCell' = true) := by show ∀ v ∈ F,_; rw [← hF]; exact cltl_one _
 rw [hD] at hsrc1
 rw [hF] at hsrc2
 have HD : Hid (cltl (L.drop i) = D ∧ cltl [f] = F) := ⟨hD,hF⟩
 obtain ⟨n,hn⟩ : ∃ n,L.length = n := ⟨_,rfl⟩
 have HN : Hid (L.length = n) := hn
 rw [hn] at hnc hroom hi hDl hm ⊢
 have hkk : (n : Int) + 1 - (i : Int) = ((n + 1 - i : Nat) : Int) := by omega
 have hik : i + (n + 1 - i) = n + 1 := by omega
 obtain ⟨G,hG⟩ : ∃ G,G = grownCap w (n + 1) cap 45 := ⟨_,rfl⟩
 obtain ⟨ROW,hROW⟩ : ∃ ROW : Array Value,ROW = (cltl (L.take i)).toArray ++ Builtin.zeroCells (Value.agg #[.int .i64 0,.string ⟨#[]⟩,.int .i64 0,.int .i64 0,.int .i64 0,.string ⟨#[]⟩,.int .i64 0]).cells (n + 1 - i) ++ Builtin.zeroCells (Value.agg #[.int .i64 0,.string ⟨#[]⟩,.int .i64 0,.int .i64 0,.int .i64 0,.string ⟨#[]⟩,.int .i64 0]).cells (G - (n + 1)) := ⟨_,rfl⟩
 have hGn : n + 1 ≤ G := by rw [hG]; exact grownCap_ge w _ _ _
 have hG63 : G ≤ maxLen := by rw [hG]; exact grownCap_le_maxLen w (n + 1) cap 45 (by unfold maxLen; omega)
 have hRl : ROW.toList.length = G * 7 := by
  have hzl : ∀ k,(Builtin.zeroCells (Value.agg #[.int .i64 0,.string ⟨#[]⟩,.int .i64 0,.int .i64 0,.int .i64 0,.string ⟨#[]⟩,.int .i64 0]).cells k).size = k * 7 := fun k => by simp [Builtin.zeroCells,Value.cells]
  rw [hROW,Array.length_toList,Array.size_append,Array.size_append,hzl,hzl,List.size_toArray,cltl_length,List.length_take]
  omega
 have hRt : ROW.toList.take (i * 7) = cltl (L.take i) := by
  rw [hROW]
  simp only [Array.toList_append]
  rw [List.append_assoc,List.take_append_of_le_length (by rw [cltl_length,List.length_take]; omega)]
  exact List.take_of_length_le (by rw [cltl_length,List.length_take]; omega)
 have hrz : ∀ ty,(Builtin.append_ #[34, 3] ty #[.slice (some ⟨g, 0,none⟩) i cap,.int .i64 ((n : Int) + 1 - (i : Int))]).run Tryz.prog w =
   .ok (.slice (some ⟨w.heap.size, 0,none⟩) (n + 1) G) (w.drew.alloc (.cells ROW 45)) := fun ty => by
  have h := Lib.run_append_grow_zeros w 34 3 ty 45 i0 _ .i64 .i64 Tryz.underlying34 Tryz.underlying3 hi0 hz0 (some ⟨g, 0,none⟩) i cap (cltl (L.take i)) hold (n + 1 - i) (by omega) (by omega) (by omega) (by omega) (by rw [hzb]; omega) (by rw [hzb,hik]; exact growslice_fits hroom (by omega))
  rw [hik] at h
  rw [hkk,hROW,hG]
  exact h
 obtain ⟨W1,hW1⟩ : ∃ W1,w.drew.alloc (.cells ROW 45) = W1 := ⟨_,rfl⟩
 rw [hW1] at hrz
 have HW : Hid (W1.heap[w.heap.size]? = some (.cells ROW.toList.toArray 45 (0, 0)) ∧ W1.heap[g]? = w.heap[g]? ∧ W1.heap[vb]? = w.heap[vb]? ∧ Below w.heap.size w W1) := by
  rw [← hW1]
  refine ⟨by rw [Array.toArray_toList]; exact heap_alloc_new w.drew _,Below.heap_alloc w.drew _ _ hgs,Below.heap_alloc w.drew _ _ hvs, ?_⟩
  exact (show Below w.heap.size w w.drew from ⟨rfl,rfl,rfl,Nat.le_refl _,fun _ _ => rfl⟩).alloc (Nat.le_refl _) _
 obtain ⟨S,hS⟩ : ∃ S,w.heap.size = S := ⟨_,rfl⟩
 rw [hS] at hrz HW hbase hgs hvs
 have HR : Hid (ROW.toList.length = G * 7 ∧ ROW.toList.take (i * 7) = cltl (L.take i)) := ⟨hRl,hRt⟩
 clear hg htk hV hD hF hn hold hROW hG hRl hRt hW1 hkk hik
 have hc1 : (G : Int) ≤ 9223372036854775807 := by unfold maxLen at hG63; omega
 have hz2 : ¬ ((i : Int) = (n : Int)) := by omega
 have hw1 : IntKind.i64.wrap ((i : Int) + 1) = (i : Int) + 1 := by rw [IntKind.wrap_i64]; omega
 have hw2 : IntKind.i64.wrap ((n : Int) + 1) = (n : Int) + 1 := by rw [IntKind.wrap_i64]; omega
 have hw3 : IntKind.i64.wrap ((n : Int) + 1 - (i : Int)) = (n : Int) + 1 - (i : Int) := by rw [IntKind.wrap_i64]; omega
 have hz3 : (cap : Int) < (n : Int) + 1 := by omega
 have htn : ((i : Int) + 1).toNat = i + 1 := by omega
 have hb1 : (0 : Int) ≤ (i : Int) + 1 := by omega
 have hb2 : ¬ (G = i + 1) := by omega
 have hb3 : (i : Int) ≤ (n : Int) + 1 := by omega
 have hb4 : ¬ (G = i) := by omega
 have hb8 : ¬ (cap = i) := by omega
 have hb5 : (i : Int) + 1 ≤ (n : Int) + 1 := by omega
 have hic : (i : Int) ≤ (cap : Int) := by omega
 have hin : i ≤ n := by omega
 have hin' : (i : Int) ≤ (n : Int) := by omega
 have hne1 : g ≠ S := by omega
 have hne2 : vb ≠ S := by omega
 go_enter Tryz.func69,Tryz.ntmps69
 go_wp2_with (first | (at_builtin; refine Lib.wpList_append_run _ rfl _ _ _ _ rfl _ _ rfl rfl _ _ (hrz _) ?_) | (refine wpList_copy_spliceN rfl (.tmp 43) (.tmp 44) 34 34 rfl 45 7 Tryz.underlying34 Tryz.sizeCli (n + 1 - i) (G - i) 1 1 S (i * 7) ⟨vb, 0,none⟩ rfl rfl ROW.toList 45 HW.out.1 F (by rw [hFl.out]; simp only [Nat.min_def]; split <;> omega) (hsrc2.out _ HW.out.2.2.1) (by rw [HR.out.1,hFl.out]; omega) hF1.out S w HW.out.2.2.2 (Nat.le_refl _) ?_; intro w1 hC1 hB1))
 go_region_law (refine step_copy_spliceN rfl (.tmp 50) (.tmp 53) 34 34 rfl 45 7 Tryz.underlying34 Tryz.sizeCli (n - i) (G - (i + 1)) (n - i) (cap - i) S ((i + 1) * 7) ⟨g,i * 7,none⟩ (by simp [Act.eval,Act.put]) (by simp [Act.eval,Act.put]) (splice ROW.toList (i * 7) F) 45 hC1.out.1 D (by rw [hDl.out]; simp only [Nat.min_def]; split <;> omega) (hsrc1.out _ ((hC1.out.2 _ hne1).trans HW.out.2.1)) (by rw [length_splice _ _ _ (by rw [HR.out.1,hFl.out]; omega),hDl.out,HR.out.1]; omega) hD1.out S w (hB1.trans ⟨rfl,rfl,rfl,Nat.le_refl _,fun _ _ => rfl⟩) (Nat.le_refl _) ?_; intro w2 hC2 hB2)
 go_wp2
 go_ret
 refine ⟨_,rfl, ?_,by rw [hS]; exact hB2⟩
 have hl1 : (splice ROW.toList (i * 7) F).length = G * 7 := by rw [length_splice _ _ _ (by rw [HR.out.1,hFl.out]; omega),HR.out.1]
 have hl2 : (splice (splice ROW.toList (i * 7) F) ((i + 1) * 7) D).length = G * 7 := by rw [length_splice _ _ _ (by rw [hl1,hDl.out]; omega),hl1]
 have hLn : (L.take i ++ f :: L.drop i).length = n + 1 := by have := HN.out; simp; omega
 refine ⟨by rw [cltl_length],.inr ⟨S,G,(splice (splice ROW.toList (i * 7) F) ((i + 1) * 7) D).toArray,by rw [hLn]; rfl,hbase,hC2.out.1,by omega,hG63,by simpa using hl2, ?_⟩⟩
 have e := ins_spliceCli' ROW.toList D F (i * 7) 7 hFl.out (by rw [hDl.out,HR.out.1]; omega)
 rw [show (i + 1) * 7 = i * 7 + 7 by omega,hLn,show (n + 1) * 7 = i * 7 + 7 + D.length by rw [hDl.out]; omega]
 show List.take _ (splice (splice ROW.toList (i * 7) F) (i * 7 + 7) D) = _
 rw [e, ← HD.out.1, ← HD.out.2,HR.out.2]
 rw [show L.take i ++ f :: L.drop i = L.take i ++ [f] ++ L.drop i by simp,cltl_appendI,cltl_appendI]
theorem insertCli_any (w : World) (base : Nat) (v : Value) (L : List (Cli)) (i : Nat) (f : Cli) (vb : Nat) (ho : OwnCli w base 45 v L) (hbase : base ≤ w.heap.size) (hm : L.length ≤ 1048577) (hi : i ≤ L.length)
  (hV : w.heap[vb]? = some (.cells #[.int .i64 f.id,.string f.key,.int .i64 f.fe,.int .i64 f.fr,.int .i64 f.st,.string f.got,.int .i64 f.ag] 45 (0, 0))) (hne : v.ownBlock ≠ some vb) :
  Calls Tryz.prog 69 #[v,.int .i64 i,.slice (some ⟨vb, 0,none⟩) 1 1] w fun e w' => ∃ v',e = .returned v' ∧ OwnCli w' base 45 v' (L.take i ++ f :: L.drop i) ∧ Tch (fun k => v.ownBlock = some k) w w' := by
 by_cases he : i = L.length
 ·subst he
  have := insertCli_end w base v L f vb ho hbase hm hV
  simpa using this
 ·rcases ho.2 with ⟨_,h0⟩ | ⟨g,cap,cur,rfl,hb,hg,h1,h2,h3,h4⟩
  ·omega
  ·have hg' : w.heap[g]? = some (.cells cur.toList.toArray 45 (0, 0)) := by simpa using hg
   by_cases hr : L.length + 1 ≤ cap
   ·exact (insertCli_room w base g cap i L f vb cur.toList hg' (by simpa using h3) h4 h2 hb hr (by omega) hV (fun e => hne (by rw [e]; rfl))).mono (fun e w' h => by obtain ⟨v',he,ho',ht⟩ := h; exact ⟨v',he,ho',ht.weak (fun k e => by rw [e]; rfl)⟩)
   ·exact (insertCli_grow w base g cap i L f vb cur.toList hg' h4 h1 (by omega) (by omega) hm hbase hV).mono (fun e w' h => by obtain ⟨v',he,ho',ht⟩ := h; exact ⟨v',he,ho',Tch.of_below ht⟩)
end Go.Proofs.YtaahjcljanckaaaGreatDoor
