/- Texts that stand in one: CellPlain, CellSpec. -/
import Derived.Test.YtaahjcljanckaaaGreatDoorSkBaseJ
import Derived.Deep.DeepCutAuto
import Derived.Deep.MidRow
import Derived.Deep.RegionLaw
namespace Go.Proofs.YtaahjcljanckaaaGreatDoor
open Go.RowKit
end Go.Proofs.YtaahjcljanckaaaGreatDoor
namespace Go.Proofs.YtaahjcljanckaaaGreatDoor
open Go.RowKit Go.Sort
theorem ints_one' (l : List Int) : ∀ u ∈ ints l,u.oneCell' = true := by
 intro u hu
 simp only [ints,List.mem_map] at hu
 obtain ⟨x,_,rfl⟩ := hu
 rfl
theorem wpList_allI {P : Program} {ops : Array Oper} {rest : List Oper} {o : Oper} {a : Act} {Q : Exit → Act → World → Prop} {w : World} (hgd : o.guard = none) (s x : Operand) (t : TypeId)
  (ho : o.op = .call { callee := .builtin .append,args := #[s,x],argTypes := #[t,t] }) (base : Nat) (e : TypeId) (ht : P.underlying t = some (.slice e))
  (hinfo : (P.info? e).map (fun i => (i.zero,i.size,i.bytes)) = some (some (.int .i64 0), 1, 8)) (E : Nat) (hs : a.eval s = .slice (some ⟨E, 0,none⟩) 0 0) (hown : OwnV w base e (.slice (some ⟨E, 0,none⟩) 0 0) [])
  (ad : Addr) (cap : Nat) (l : List Int) (B : Nat) (hx : a.eval x = .slice (some ad) l.length cap) (hI : IAt w (some ad) l B) (hlen : l.length ≤ 1048576) (hbase : base ≤ w.heap.size)
  (h : ∀ v' w',OwnV w' base e v' (ints l) → w.grownBy w' (some E) → wpList P ops Q rest (a.put o.dst v') w') :
  wpList P ops Q (o :: rest) a w := by
 obtain ⟨i0,hi,hz0,hz1,hz2⟩ := info_parts hinfo
 refine wpList_append_own _ hgd s x t ho base e i0 _ 1 8 ht hi hz0 hz1 hz2 rfl (by decide) _ 0 [] hs hown ad l.length cap (ints l) hx (by rw [ints_length,Nat.mul_one]) ?_ (ints_one' l) (by unfold maxLen; omega) (by omega) hbase ?_
 ·intro j u hu
  obtain ⟨hj,hu'⟩ := List.getElem?_eq_some_iff.1 hu
  have hj' : j < l.length := by rw [ints_length] at hj; exact hj
  obtain ⟨g,off,ha,_,hc⟩ := hI j hj'
  simp only [Option.some.injEq] at ha
  subst ha
  rw [Addr.add_mid,hc, ← hu',ints_at hj']
 ·intro v' w' h1 h2 _
  exact h v' w' (by unfold OwnV; rw [ints_length]; simpa using h1) h2
theorem IAt.alloc {w : World} {a : Option Addr} {l : List Int} (h : IAt w a l w.heap.size) (o : Obj) : IAt (w.alloc o) a l (w.alloc o).heap.size := h.on ((Below.refl _ _).alloc (Nat.le_refl _) o)
theorem own_empty (w : World) : OwnV (w.alloc (.cells #[] 3)) w.heap.size 3 (.slice (some ⟨w.heap.size, 0,none⟩) 0 0) [] := ⟨rfl,.inr ⟨w.heap.size, 0,#[],rfl,Nat.le_refl _,heap_alloc_new _ _,Nat.le_refl _,by simp [maxLen],by simp,rfl⟩⟩
end Go.Proofs.YtaahjcljanckaaaGreatDoor
