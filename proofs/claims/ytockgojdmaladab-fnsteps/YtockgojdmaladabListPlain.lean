/- A list that many change: its steps, plain, no program. -/
import Derived.Test.YtockgojdmaladabCellPlain
namespace Go.Proofs.Ytockgojdmaladab
open Go.RowKit

/-- A task. -/
structure Tk where
  kind : Int
  key : Int
  val : Int
  node : Int
  pc : Int
  prev : Int
  cur : Int
  next : Int
  mark : Int
  done : Bool
  ans : Int

/-- x lies between a and b. -/
def btw (x a b : Int) : Bool := decide (a ≤ x ∧ x ≤ b)
theorem btw_iff {x a b : Int} : btw x a b = true ↔ a ≤ x ∧ x ≤ b := by simp [btw]

def Tk.ok (t : Tk) : Bool := btw t.kind 1 3 && (btw t.key 1 99 && (btw t.val 0 99 && (btw t.node 1 20 && (btw t.pc 0 6 && (btw t.prev 0 20 && (btw t.cur 0 20 && (btw t.next 0 20 && btw t.mark 0 1)))))))
theorem Tk.ok_iff {t : Tk} : t.ok = true ↔ (1 ≤ t.kind ∧ t.kind ≤ 3) ∧ (1 ≤ t.key ∧ t.key ≤ 99) ∧ (0 ≤ t.val ∧ t.val ≤ 99) ∧ (1 ≤ t.node ∧ t.node ≤ 20) ∧ (0 ≤ t.pc ∧ t.pc ≤ 6) ∧ (0 ≤ t.prev ∧ t.prev ≤ 20) ∧ (0 ≤ t.cur ∧ t.cur ≤ 20) ∧ (0 ≤ t.next ∧ t.next ≤ 20) ∧ (0 ≤ t.mark ∧ t.mark ≤ 1) := by
  simp only [Tk.ok, Bool.and_eq_true, btw_iff]

/-- The cell at a place. -/
def cellL6 (l : List Int) (i : Int) : Int := l.getD i.toNat 0
def setL6 (l : List Int) (i z : Int) : List Int := l.set i.toNat z
theorem setL6_len (l : List Int) (i z : Int) : (setL6 l i z).length = l.length := by simp [setL6]

/-- The place of a node's word. -/
def wordC (n : Int) : Int := if n = 0 then 0 else 3 * n + 2
/-- The node of a word. -/
def nodeC (x : Int) : Int := if 0 ≤ x / 2 ∧ x / 2 ≤ 20 then x / 2 else 0
theorem nodeC_bd (x : Int) : 0 ≤ nodeC x ∧ nodeC x ≤ 20 := by unfold nodeC; split <;> omega
theorem wordC_bd {n : Int} (h : 0 ≤ n ∧ n ≤ 20) : 0 ≤ wordC n ∧ wordC n < 63 := by unfold wordC; split <;> omega

/-- Nobody is there. -/
def nobodyL (l : List Int) (t : Tk) : List Int × Tk :=
  if t.kind = 2 then (setL6 (setL6 (setL6 l (3 * t.node) t.key) (3 * t.node + 1) t.val) (3 * t.node + 2) (2 * t.cur), { t with pc := 4 })
  else (l, { t with done := true, ans := 0 })
/-- A node's word is swapped, when it is what was told. -/
def swapW (l : List Int) (n o z : Int) : List Int × Bool := if cellL6 l (wordC n) = o then (setL6 l (wordC n) z, true) else (l, false)
def lookL (l : List Int) (t : Tk) : List Int × Tk :=
  if t.mark = 1 then
    let r := swapW l t.prev (2 * t.cur) (2 * t.next)
    if r.2 then (r.1, { t with cur := t.next, pc := 1 }) else (r.1, { t with pc := 0 })
  else if cellL6 l (3 * t.cur) < t.key then (l, { t with prev := t.cur, cur := t.next, pc := 1 })
  else (l, { t with pc := 3 })
def foundL (l : List Int) (t : Tk) : List Int × Tk :=
  if cellL6 l (3 * t.cur) = t.key then
    if t.kind = 1 then (l, { t with done := true, ans := cellL6 l (3 * t.cur + 1) + 1 })
    else if t.kind = 2 then (l, { t with done := true, ans := 0 })
    else (l, { t with pc := 5 })
  else nobodyL l t
/-- One step of a right task in a right list. -/
def goL (l : List Int) (t : Tk) : List Int × Tk :=
  if t.pc = 0 then (l, { t with prev := 0, cur := nodeC (cellL6 l 0), pc := 1 })
  else if t.pc = 1 then
    if t.cur = 0 then nobodyL l t
    else (l, { t with next := nodeC (cellL6 l (wordC t.cur)), mark := cellL6 l (wordC t.cur) % 2, pc := 2 })
  else if t.pc = 2 then lookL l t
  else if t.pc = 3 then foundL l t
  else if t.pc = 4 then
    let r := swapW l t.prev (2 * t.cur) (2 * t.node)
    if r.2 then (r.1, { t with done := true, ans := 1 }) else (r.1, { t with pc := 0 })
  else if t.pc = 5 then
    let r := swapW l t.cur (2 * t.next) (2 * t.next + 1)
    if r.2 then (r.1, { t with pc := 6 }) else (r.1, { t with pc := 0 })
  else ((swapW l t.prev (2 * t.cur) (2 * t.next)).1, { t with done := true, ans := 1 })
/-- A list and a task that a step changes. -/
def ready (l : List Int) (t : Tk) : Bool := !t.done && (t.ok && (decide (l.length = 63) && okC l))
def stepL (l : List Int) (t : Tk) : List Int × Tk := if ready l t then goL l t else (l, t)

theorem swapW_len (l : List Int) (n o z : Int) : (swapW l n o z).1.length = l.length := by unfold swapW; split <;> simp [setL6_len]
theorem nobodyL_len (l : List Int) (t : Tk) : (nobodyL l t).1.length = l.length := by unfold nobodyL; split <;> simp [setL6_len]
theorem goL_len (l : List Int) (t : Tk) : (goL l t).1.length = l.length := by
  unfold goL lookL foundL
  dsimp only
  repeat' split
  all_goals simp [swapW_len, nobodyL_len]
theorem stepL_len (l : List Int) (t : Tk) : (stepL l t).1.length = l.length := by unfold stepL; split <;> simp [goL_len]

/-- The nodes from here on that are not gone. -/
def nodesL (l : List Int) : Nat → Int → List Int
  | 0, _ => []
  | k + 1, n => if n = 0 then [] else (if cellL6 l (wordC n) % 2 = 0 then [n] else []) ++ nodesL l k (nodeC (cellL6 l (wordC n)))
def liveL (l : List Int) : List Int := if l.length = 63 then nodesL l 20 (nodeC (cellL6 l 0)) else []
def keysL (l : List Int) : List Int := (liveL l).map fun n => cellL6 l (3 * n)
def valueL (l : List Int) (key : Int) : Int := match (liveL l).find? (fun n => decide (cellL6 l (3 * n) = key)) with | some n => wrap64 (cellL6 l (3 * n + 1) + 1) | none => 0
theorem liveL_off {l : List Int} (h : ¬ l.length = 63) : liveL l = [] := by unfold liveL; rw [if_neg h]
theorem liveL_on {l : List Int} (h : l.length = 63) : liveL l = nodesL l 20 (nodeC (cellL6 l 0)) := by unfold liveL; rw [if_pos h]
theorem nodesL_end (l : List Int) (k : Nat) : nodesL l k 0 = [] := by cases k <;> simp [nodesL]
theorem nodesL_even {l : List Int} {k : Nat} {n : Int} (hn : ¬ n = 0) (he : cellL6 l (wordC n) % 2 = 0) : nodesL l (k + 1) n = n :: nodesL l k (nodeC (cellL6 l (wordC n))) := by
  simp [nodesL, hn, he]
theorem nodesL_odd {l : List Int} {k : Nat} {n : Int} (hn : ¬ n = 0) (he : ¬ cellL6 l (wordC n) % 2 = 0) : nodesL l (k + 1) n = nodesL l k (nodeC (cellL6 l (wordC n))) := by
  simp [nodesL, hn, he]
theorem nodesL_bd (l : List Int) : ∀ (k : Nat) (n : Int), (0 ≤ n ∧ n ≤ 20) → ∀ m ∈ nodesL l k n, 1 ≤ m ∧ m ≤ 20
  | 0, _, _, m, hm => by simp [nodesL] at hm
  | k + 1, n, hn, m, hm => by
    unfold nodesL at hm
    split at hm
    · simp at hm
    · rename_i h0
      rcases List.mem_append.1 hm with h | h
      · split at h
        · simp at h; omega
        · simp at h
      · exact nodesL_bd l k _ (nodeC_bd _) m h
theorem nodesL_len (l : List Int) : ∀ (k : Nat) (n : Int), (nodesL l k n).length ≤ k
  | 0, _ => by simp [nodesL]
  | k + 1, n => by
    unfold nodesL
    split
    · simp
    · have := nodesL_len l k (nodeC (cellL6 l (wordC n)))
      rw [List.length_append]
      split <;> simp <;> omega
theorem liveL_bd {l : List Int} {m : Int} (h : m ∈ liveL l) : 1 ≤ m ∧ m ≤ 20 := by
  unfold liveL at h
  split at h
  · exact nodesL_bd l 20 _ (nodeC_bd _) m h
  · simp at h
theorem liveL_len (l : List Int) : (liveL l).length ≤ 20 := by
  unfold liveL
  split
  · exact nodesL_len l 20 _
  · simp
theorem liveL_at {l : List Int} (h : 0 < (liveL l).length) : l.length = 63 := by
  unfold liveL at h
  split at h
  · assumption
  · simp at h
end Go.Proofs.Ytockgojdmaladab
