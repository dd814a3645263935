/- Texts that stand in one: SkStep, PolStep, DelBase. -/
import Derived.Test.YtpgcfgbhkodmeaaSkLaw
import Derived.Deep.AppendLies
import Derived.Deep.RegionHeld3
import Derived.Deep.RegionLaw
import Derived.Test.YtpgcfgbhkodmeaaStrsJ
import Derived.Test.YtpgcfgbhkodmeaaFindPlainJ
import Derived.Test.YtpgcfgbhkodmeaaRowedJ
namespace Go.Proofs.Ytpgcfgbhkodmeaa
open Go.RowKit Go.Sort

/-- An append of all onto an empty row without room: a row of its own, or the same. -/
theorem step_allI {P : Program} {ops : Array Oper} {o : Oper} {a : Act} {K : Act → World → Prop} {Q : Exit → Act → World → Prop} {E' : Prop} {w : World} (hgd : o.guard = none) (s x : Operand) (t : TypeId)
    (ho : o.op = .call { callee := .builtin .append, args := #[s, x], argTypes := #[t, t] }) (e : TypeId) (ht : P.underlying t = some (.slice e)) (z : Value) (size bytes : Nat)
    (hinfo : (P.info? e).map (fun i => (i.zero, i.size, i.bytes)) = some (some z, size, bytes)) (hzs : z.cells.size = size) (hsz : 0 < size) (hby : bytes ≤ 1000)
    (G : Nat) (hs : a.eval s = .slice (some ⟨G, 0, none⟩) 0 0) (hG : w.heap[G]? = some (.cells #[] e (0, 0)))
    (a0 : Option Addr) (n cap : Nat) (news : List Value) (hx : a.eval x = .slice a0 n cap) (hl : news.length = n * size) (hnone : a0 = none → n = 0) (hnews : ∀ ad, a0 = some ad → ∀ j u, news[j]? = some u → w.cell? (ad.add j) = some u) (h1 : ∀ u ∈ news, u.oneCell' = true) (hn : n ≤ 1048576)
    (h : ∀ g c w', w'.ownsRow G e size (.slice (some ⟨g, 0, none⟩) n c) n news → Below G w w' → (g = G ∨ w.heap.size ≤ g) → (∀ k, k < w.heap.size → k ≠ G → w'.heap[k]? = w.heap[k]?) → K (a.put o.dst (.slice (some ⟨g, 0, none⟩) n c)) w') :
    if Region.wanted o (yielded ops a.tmps) = true then Oper.wp P o a w K Q else E' := by
  obtain ⟨i0, hi, hz0, hz1, hz2⟩ := info_parts hinfo
  have hGs : G < w.heap.size := (Array.getElem?_eq_some_iff.1 hG).1
  by_cases h0 : n = 0
  · subst h0
    have hnil : news = [] := List.length_eq_zero_iff.1 (by simpa using hl)
    subst hnil
    have hw : Region.wanted o (yielded ops a.tmps) = true := by simp [Region.wanted, hgd]
    rw [if_pos hw]
    have hrun : (Builtin.append_ #[t, t] o.type #[.slice (some ⟨G, 0, none⟩) 0 0, .slice a0 0 cap]).run P w = .ok (.slice (some ⟨G, 0, none⟩) 0 0) w := by
      cases a0 with
      | none => simp [Builtin.append_, run_underlying ht, sizeOf, typeInfo, hi, Builtin.lenOf, Builtin.firstCells, storeCells]
      | some ad =>
        have hld := run_loadCells_list (P := P) w ad [] (fun j u hu => by simp at hu)
        simp at hld
        simp [Builtin.append_, run_underlying ht, sizeOf, typeInfo, hi, Builtin.lenOf, Builtin.firstCells, storeCells, hld]
    unfold Oper.wp
    simp [execOp, ho, resolve, invoke, builtin, hs, hx, hrun, Result.andThen]
    exact h G 0 w ⟨by simp, .inr ⟨G, 0, #[], rfl, Nat.le_refl _, hG, Nat.le_refl _, by simp [maxLen], by simp, by simp⟩⟩ (Below.refl _ _) (.inl rfl) (fun _ _ _ => rfl)
  · obtain ⟨ad, rfl⟩ : ∃ ad, a0 = some ad := by
      cases a0 with
      | none => exact absurd (hnone rfl) h0
      | some ad => exact ⟨ad, rfl⟩
    have hown : w.ownsRow G e size (.slice (some ⟨G, 0, none⟩) 0 0) 0 [] := ⟨by simp, .inr ⟨G, 0, #[], rfl, Nat.le_refl _, hG, Nat.le_refl _, by simp [maxLen], by simp, by simp⟩⟩
    have hbs : (0 + n) * bytes ≤ 140737488355328 := by
      have : (0 + n) * bytes ≤ 1048576 * 1000 := by rw [Nat.zero_add]; exact Nat.mul_le_mul hn hby
      omega
    refine step_append_lies w hgd s x t ho G e i0 z size bytes ht hi hz0 hz1 hz2 hzs hsz _ 0 [] hs hown ad n cap news hx hl (hnews ad rfl) h1 (by omega) (by unfold maxLen; omega) hbs (by omega) w.heap.size rfl ?_
    intro g c w' ho' hgr hg hgl
    rw [Nat.zero_add, List.nil_append] at ho'
    rw [Nat.zero_add]
    refine h g c w' ho' ((Below.refl _ w).grown hgr (by omega) (fun k e => by cases e; exact Nat.le_refl _)) ?_ (fun k hk hne => hgr.block k hk (fun e => hne (by cases e; rfl)))
    rcases hg with hg | hg
    · left; cases hg; rfl
    · right; omega

theorem IAt.srcI {w : World} {a0 : Option Addr} {l : List Int} {B : Nat} (h : IAt w a0 l B) : (a0 = none → l.length = 0) ∧ ∀ ad, a0 = some ad → ∀ j u, (ints l)[j]? = some u → w.cell? (ad.add j) = some u := by
  refine ⟨fun e => ?_, fun ad e j u hu => ?_⟩
  · cases l with
    | nil => rfl
    | cons x r => obtain ⟨g, off, ha, _⟩ := h 0 (by simp); rw [e] at ha; cases ha
  · have hj := (List.getElem?_eq_some_iff.1 hu).1
    rw [ints_length] at hj
    obtain ⟨g, off, ha, _, hc⟩ := h j hj
    rw [e] at ha
    simp only [Option.some.injEq] at ha
    subst ha
    rw [Addr.add_mid, hc]
    rw [List.getElem?_eq_getElem (by rw [ints_length]; exact hj), ints_at hj] at hu
    exact hu
theorem bdrewS (w : World) : Below w.heap.size w w.drew := ⟨rfl, rfl, rfl, Nat.le_refl _, fun _ _ => rfl⟩
/-- One value more is appended to a row that is owned. -/
theorem step_snocO {P : Program} {ops : Array Oper} {o : Oper} {a : Act} {K : Act → World → Prop} {Q : Exit → Act → World → Prop} {E : Prop} {w : World} (hgd : o.guard = none) (s x : Operand) (t : TypeId)
    (ho : o.op = .call { callee := .builtin .append, args := #[s, x], argTypes := #[t, t] }) (base : Nat) (e : TypeId) (ht : P.underlying t = some (.slice e)) (z : Value) (bytes : Nat)
    (hinfo : (P.info? e).map (fun i => (i.zero, i.size, i.bytes)) = some (some z, 1, bytes)) (hzc : z.cells.size = 1) (v : Value) (xs : List Value) (hs : a.eval s = v) (hown : OwnV w base e v xs)
    (B : Nat) (y : Value) (fr : Nat × Nat) (hx : a.eval x = .slice (some ⟨B, 0, none⟩) 1 1) (hB : w.heap[B]? = some (.cells #[y] e fr)) (hy : y.oneCell' = true) (hlen : (xs.length + 1) * bytes ≤ 140737488355328) (hlen2 : xs.length < 140737488355328) (hbase : base ≤ w.heap.size)
    (h : ∀ g cap w', OwnV w' base e (.slice (some ⟨g, 0, none⟩) (xs.length + 1) cap) (xs ++ [y]) → w.grownBy w' v.ownBlock → K (a.put o.dst (.slice (some ⟨g, 0, none⟩) (xs.length + 1) cap)) w') :
    if Region.wanted o (yielded ops a.tmps) = true then Oper.wp P o a w K Q else E := by
  obtain ⟨i0, hi, hz0, hz1, hz2⟩ := info_parts hinfo
  refine step_append_lies w hgd s x t ho base e i0 z 1 bytes ht hi hz0 hz1 hz2 hzc (by decide) v xs.length xs hs hown ⟨B, 0, none⟩ 1 1 [y] hx rfl (fun j u hu => World.news_of_block hB j u (by simpa using hu)) ?_ (by decide) (by unfold maxLen; omega) hlen hbase w.heap.size rfl ?_
  · intro u hu
    simp at hu
    subst hu
    exact hy
  · intro g cap w' h1 h2 _ _
    refine h g cap w' ?_ h2
    unfold OwnV
    rw [List.length_append, List.length_singleton]
    exact h1
/-- Rows of numbers are no rows of rows. -/
theorem ownVS_ne {w : World} {b1 b2 : Nat} {v u : Value} {xs ys : List Value} (h1 : OwnV w b1 3 v xs) (h2 : OwnV w b2 49 u ys) : ∀ k, v.ownBlock = some k → u.ownBlock ≠ some k := by
  intro k hk hu
  rcases h1.2 with ⟨rfl, _⟩ | ⟨g, cap, cur, rfl, _, hg, _⟩
  · simp [Value.ownBlock] at hk
  · rcases h2.2 with ⟨rfl, _⟩ | ⟨g', cap', cur', rfl, _, hg', _⟩
    · simp [Value.ownBlock] at hu
    · simp [Value.ownBlock] at hk hu
      subst hk
      subst hu
      have := hg.symm.trans hg'
      simp at this
/-- One row more, just made, is appended. -/
theorem OwnSS.grow {wr wx w' : World} {lo : Nat} {v v' u : Value} {LL : List (List Int)} {l : List Int} {vs : List Value} (hv : OwnV wr lo 49 v vs) (hl : vs.length = LL.length)
    (hr : ∀ (i : Nat) (u : Value) (l : List Int), vs[i]? = some u → LL[i]? = some l → OwnV wr lo 3 u (ints l) ∧ ∀ k, u.ownBlock = some k → k < wr.heap.size)
    (hd : ∀ (i j : Nat) (u u' : Value) (k : Nat), vs[i]? = some u → vs[j]? = some u' → u.ownBlock = some k → u'.ownBlock = some k → i = j)
    (hx : Below wr.heap.size wr wx) (hu : OwnV wx wr.heap.size 3 u (ints l)) (hg : wx.grownBy w' v.ownBlock) (hv' : OwnV w' lo 49 v' (vs ++ [u])) (hlo : lo ≤ wr.heap.size) : OwnSS w' lo w'.heap.size v' (LL ++ [l]) := by
  have hvx := hv.below hx (Nat.le_refl _)
  refine OwnSS.snoc (hi := wr.heap.size) hl (fun i x m hx' hm => ?_) hd hv' (hu.grown hg fun k hk e => ownVS_ne hu hvx k hk e) hlo
  obtain ⟨h1, h2⟩ := hr i x m hx' hm
  have h1x := h1.below hx (Nat.le_refl _)
  exact ⟨h1x.grown hg fun k hk e => ownVS_ne h1x hvx k hk e, h2⟩
/-- A variable T that gathers rows: one more, just made, is appended and stored back. -/
theorem gatherSS {w wr wx w3 : World} {B T lo : Nat} {v v' u n : Value} {LL : List (List Int)} {l : List Int} {vs : List Value} (hT : SkBox wr T v n) (hTl : T < lo) (hlo : lo ≤ wr.heap.size) (hbel : Below B w wr) (hBT : B ≤ T)
    (hv : OwnV wr lo 49 v vs) (hl : vs.length = LL.length)
    (hr : ∀ (i : Nat) (u : Value) (l : List Int), vs[i]? = some u → LL[i]? = some l → OwnV wr lo 3 u (ints l) ∧ ∀ k, u.ownBlock = some k → k < wr.heap.size)
    (hd : ∀ (i j : Nat) (u u' : Value) (k : Nat), vs[i]? = some u → vs[j]? = some u' → u.ownBlock = some k → u'.ownBlock = some k → i = j)
    (hx : Below wr.heap.size wr wx) (hu : OwnV wx wr.heap.size 3 u (ints l)) (hg : wx.grownBy w3 v.ownBlock) (hv' : OwnV w3 lo 49 v' (vs ++ [u])) :
    w3.cell? ⟨T, 0, none⟩ = some v ∧ w3.frozen? ⟨T, 0, none⟩ = false ∧ SkBox (w3.setCell ⟨T, 0, none⟩ v') T v' n ∧ OwnSS (w3.setCell ⟨T, 0, none⟩ v') lo (w3.setCell ⟨T, 0, none⟩ v').heap.size v' (LL ++ [l]) ∧
      (∀ j, j < lo → j ≠ T → (w3.setCell ⟨T, 0, none⟩ v').heap[j]? = wr.heap[j]?) ∧ Below B w (w3.setCell ⟨T, 0, none⟩ v') := by
  have hvb : ∀ k, v.ownBlock = some k → lo ≤ k := fun k hk => (hv.lt k hk).1
  have hxs := hx.size
  have keep : ∀ j, j < lo → w3.heap[j]? = wr.heap[j]? := fun j hj => (hg.block j (by omega) (fun e => by have := hvb j e.symm; omega)).trans (hx.block j (by omega))
  have hT3 : SkBox w3 T v n := hT.kept (keep T hTl)
  have hO := OwnSS.grow hv hl hr hd hx hu hg hv' hlo
  have hbs := hT.lt
  refine ⟨hT3.cells.1, hT3.thaw 0, hT3.set0 v', by simpa using hO.far hT3 0 v', fun j hj hn => ?_, ?_⟩
  · rw [Below.heap_setCell _ _ _ _ (by exact hn)]
    exact keep j hj
  · exact ((hbel.trans (hx.mono (by omega))).grown hg (by omega) (fun k hk => by have := hvb k hk; omega)).setCell (show B ≤ T from hBT) _
end Go.Proofs.Ytpgcfgbhkodmeaa

namespace Go.Proofs.Ytpgcfgbhkodmeaa
open Go.RowKit Go.Sort

/-- An append of all onto an owned row. -/
theorem step_plusO {P : Program} {ops : Array Oper} {o : Oper} {a : Act} {K : Act → World → Prop} {Q : Exit → Act → World → Prop} {E' : Prop} {w : World} (hgd : o.guard = none) (s x : Operand) (t : TypeId)
    (ho : o.op = .call { callee := .builtin .append, args := #[s, x], argTypes := #[t, t] }) (base : Nat) (e : TypeId) (ht : P.underlying t = some (.slice e)) (z : Value) (bytes : Nat)
    (hinfo : (P.info? e).map (fun i => (i.zero, i.size, i.bytes)) = some (some z, 1, bytes)) (hzs : z.cells.size = 1) (hby : bytes ≤ 1000)
    (G m c0 : Nat) (xs : List Value) (hs : a.eval s = .slice (some ⟨G, 0, none⟩) m c0) (hown : OwnV w base e (.slice (some ⟨G, 0, none⟩) m c0) xs) (hm : m = xs.length) (hmb : m ≤ 10000000) (hbase : base ≤ w.heap.size)
    (a0 : Option Addr) (n cap : Nat) (news : List Value) (hx : a.eval x = .slice a0 n cap) (hl : news.length = n) (hnone : a0 = none → n = 0) (hnews : ∀ ad, a0 = some ad → ∀ j u, news[j]? = some u → w.cell? (ad.add j) = some u) (h1 : ∀ u ∈ news, u.oneCell' = true) (hn : n ≤ 10000000)
    (h : ∀ g c w', OwnV w' base e (.slice (some ⟨g, 0, none⟩) (m + n) c) (xs ++ news) → w.grownBy w' (some G) → K (a.put o.dst (.slice (some ⟨g, 0, none⟩) (m + n) c)) w') :
    if Region.wanted o (yielded ops a.tmps) = true then Oper.wp P o a w K Q else E' := by
  obtain ⟨i0, hi, hz0, hz1, hz2⟩ := info_parts hinfo
  by_cases h0 : n = 0
  · subst h0
    have hnil : news = [] := List.length_eq_zero_iff.1 hl
    subst hnil
    have hw : Region.wanted o (yielded ops a.tmps) = true := by simp [Region.wanted, hgd]
    rw [if_pos hw]
    have hmc : m ≤ c0 := by
      rcases hown.2 with ⟨e1, _⟩ | ⟨g, cp, cur, e1, _, _, hle, _⟩
      · cases e1
      · simp only [Value.slice.injEq] at e1
        omega
    have hrun : (Builtin.append_ #[t, t] o.type #[.slice (some ⟨G, 0, none⟩) m c0, .slice a0 0 cap]).run P w = .ok (.slice (some ⟨G, 0, none⟩) m c0) w := by
      cases a0 with
      | none => simp [Builtin.append_, run_underlying ht, sizeOf, typeInfo, hi, Builtin.lenOf, Builtin.firstCells, storeCells, hmc]
      | some ad =>
        have hld := run_loadCells_list (P := P) w ad [] (fun j u hu => by simp at hu)
        simp at hld
        simp [Builtin.append_, run_underlying ht, sizeOf, typeInfo, hi, Builtin.lenOf, Builtin.firstCells, storeCells, hld, hmc]
    unfold Oper.wp
    simp [execOp, ho, resolve, invoke, builtin, hs, hx, hrun, Result.andThen]
    exact h G c0 w (by rw [List.append_nil]; exact hown) (grownBy_refl _ _)
  · obtain ⟨ad, rfl⟩ : ∃ ad, a0 = some ad := by
      cases a0 with
      | none => exact absurd (hnone rfl) h0
      | some ad => exact ⟨ad, rfl⟩
    subst hm
    have hbs : (xs.length + n) * bytes ≤ 140737488355328 := by
      have : (xs.length + n) * bytes ≤ 20000000 * 1000 := Nat.mul_le_mul (by omega) hby
      omega
    refine step_append_lies w hgd s x t ho base e i0 z 1 bytes ht hi hz0 hz1 hz2 hzs (by decide) _ xs.length xs hs hown ad n cap news hx (by omega) (hnews ad rfl) h1 (by omega) (by unfold maxLen; omega) hbs hbase w.heap.size rfl ?_
    intro g c w' ho' hgr _ _
    refine h g c w' ?_ hgr
    unfold OwnV
    rw [List.length_append, hl]
    exact ho'
theorem LAt.srcS {w : World} {a0 : Option Addr} {l : List ByteArray} {B : Nat} (h : LAt w a0 l B) : (a0 = none → l.length = 0) ∧ ∀ ad, a0 = some ad → ∀ j u, (strs l)[j]? = some u → w.cell? (ad.add j) = some u := by
  refine ⟨fun e => ?_, fun ad e j u hu => ?_⟩
  · cases l with
    | nil => rfl
    | cons x r => obtain ⟨g, off, ha, _⟩ := h 0 (by simp); rw [e] at ha; cases ha
  · have hj := (List.getElem?_eq_some_iff.1 hu).1
    rw [strs_length] at hj
    obtain ⟨g, off, ha, _, hc⟩ := h j hj
    rw [e] at ha
    simp only [Option.some.injEq] at ha
    subst ha
    rw [Addr.add_mid, hc]
    simp [strs, List.getElem?_eq_getElem hj] at hu
    rw [hu]
theorem strs_one (l : List ByteArray) : ∀ u ∈ strs l, u.oneCell' = true := by
  intro u hu
  simp only [strs, List.mem_map] at hu
  obtain ⟨b, _, rfl⟩ := hu
  rfl
theorem ownV_of_rowS {w : World} {base : Nat} {v : Value} {l : List ByteArray} (h : w.ownsRow base 9 1 v l.length (strs l)) : OwnV w base 9 v (strs l) := by unfold OwnV; rw [strs_length]; exact h
end Go.Proofs.Ytpgcfgbhkodmeaa

namespace Go.Proofs.Ytpgcfgbhkodmeaa
open Go.RowKit Go.Sort
def idxX {α : Type} (p : α → Bool) (L : List α) : Int := match L.findIdx? p with | some i => (i : Int) | none => -1
theorem idxX_hit {α : Type} {p : α → Bool} {L : List α} {k : Nat} (hk : k < L.length) (h : p L[k] = true) (hno : ∀ j (hj : j < k), p (L[j]'(by omega)) = false) : idxX p L = k := by
  have : L.findIdx? p = some k := by
    rw [List.findIdx?_eq_some_iff_getElem]
    exact ⟨hk, h, fun j hj => by simp [hno j hj]⟩
  simp [idxX, this]
theorem idxX_miss {α : Type} {p : α → Bool} {L : List α} (h : ∀ x ∈ L, p x = false) : idxX p L = -1 := by
  have : L.findIdx? p = none := by
    rw [List.findIdx?_eq_none_iff]
    exact h
  simp [idxX, this]
theorem idxX_cases {α : Type} (p : α → Bool) (L : List α) : (∃ (k : Nat) (hk : k < L.length), idxX p L = k ∧ p L[k] = true ∧ ∀ j (hj : j < k), p (L[j]'(by omega)) = false) ∨ (idxX p L = -1 ∧ ∀ x ∈ L, p x = false) := by
  cases h : L.findIdx? p with
  | none =>
    rw [List.findIdx?_eq_none_iff] at h
    exact .inr ⟨idxX_miss h, h⟩
  | some k =>
    have h0 := h
    rw [List.findIdx?_eq_some_iff_getElem] at h
    obtain ⟨hk, h1, h2⟩ := h
    exact .inl ⟨k, hk, by simp [idxX, h0], h1, fun j hj => by simpa using h2 j hj⟩

def keepX {α : Type} (p : α → Bool) (L : List α) : List α := L.filter fun x => !p x
theorem keepX_take {α : Type} {p : α → Bool} {L : List α} {k : Nat} (hk : k < L.length) : keepX p (L.take (k + 1)) = keepX p (L.take k) ++ if p L[k] = true then [] else [L[k]] := by
  unfold keepX
  rw [List.take_succ_eq_append_getElem hk, List.filter_append]
  cases h : p L[k] <;> simp [h]
theorem keepX_none {α : Type} {p : α → Bool} {L : List α} (h : ∀ x ∈ L, p x = false) : keepX p L = L := List.filter_eq_self.2 fun x hx => by rw [h x hx]; rfl
theorem keepX_step {α : Type} {p : α → Bool} {L : List α} {k : Nat} (hk : k < L.length) (hx : p L[k] = true) (hno : ∀ j (hj : j < k), p (L[j]'(by omega)) = false) : keepX p (L.take (k + 1)) = L.take k := by
  rw [keepX_take hk, if_pos hx, List.append_nil]
  refine keepX_none fun x hx => ?_
  obtain ⟨j, hj, rfl⟩ := List.getElem_of_mem hx
  rw [List.length_take] at hj
  rw [List.getElem_take]
  exact hno j (by omega)
/-- 'clear(s)' of elements of several cells. -/
theorem run_clear_x {P : Program} (w : World) (t e ty : TypeId) (z : Value) (ht : P.underlying t = some (.slice e)) (hv : ∀ w, (zeroValue e).run P w = .ok z w) (n : Nat) (hn : 0 < n) (h1 : ∀ v ∈ (Builtin.zeroCells z.cells n).toList, v.oneCell' = true) (g o c : Nat)
    (cur : List Value) (tt : TypeId) (hg : w.heap[g]? = some (.cells cur.toArray tt (0, 0))) (hfit : o + (Builtin.zeroCells z.cells n).toList.length ≤ cur.length) :
    (Builtin.clear_ #[t] ty #[.slice (some ⟨g, o, none⟩) n c]).run P w = .ok (.tuple #[]) (w.setRow g (splice cur o (Builtin.zeroCells z.cells n).toList).toArray) := by
  have hst := run_storeCells_at P g o tt (Builtin.zeroCells z.cells n).toList 0 cur.toArray w hg (by simpa using hfit) h1
  simp only [Nat.add_zero] at hst
  obtain ⟨m, rfl⟩ : ∃ m, n = m + 1 := ⟨n - 1, by omega⟩
  simp [Builtin.clear_, run_underlying ht, hv, hst, splice]
end Go.Proofs.Ytpgcfgbhkodmeaa
