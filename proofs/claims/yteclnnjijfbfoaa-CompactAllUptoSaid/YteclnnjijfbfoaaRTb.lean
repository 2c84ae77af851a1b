/-
  The reference's table in memory: 'TbAt w S d0 tb T dv lv hv us': block tb of w is a table of the reference that is told by T; its draws, versions and heights lie in the slices dv, lv, hv; its blocks are in the set S, all from tb on, the draws ahead of it. The walks over tower, Size, Height.
-/
import Derived.Test.YteclnnjijfbfoaaEnD
import Derived.Test.YteclnnjijfbfoaaClR
namespace Go.Proofs.Yteclnnjijfbfoaa
open Go.RowKit

/-! ### plainly -/
structure PTb where
  draws : List Int
  L : List Ent
  H : List Int
  came : Nat
def tow (T : PTb) : Int := if T.draws.length = 0 then 1 else if 0 ≤ T.draws.getD (T.came % T.draws.length) 0 then 1 + T.draws.getD (T.came % T.draws.length) 0 % 12 else 1
def sizeE (l : List Ent) : Nat := (l.map fun e => e.key.length + e.val.length + 16).sum
def highE (l : List Int) : Int := l.foldl (fun m h => if m < h then h else m) 0
def normE (e : Ent) : Ent := { e with val := if e.gone = true then [] else e.val }
/-- Is the version there? -/
def foundE (e : Ent) (l : List Ent) : Bool := match l[plcE e l]? with | some f => atE f e | none => false
def putT (T : PTb) (e : Ent) : PTb :=
  if foundE e T.L = true then { T with L := T.L.set (plcE e T.L) e }
  else { T with L := T.L.take (plcE e T.L) ++ e :: T.L.drop (plcE e T.L), H := T.H.take (plcE e T.L) ++ tow T :: T.H.drop (plcE e T.L), came := T.came + 1 }
structure WfT (T : PTb) : Prop where
  hs : T.H.length = T.L.length
  fit : ∀ e ∈ T.L, FitE e
  one : ∀ e ∈ T.L, oneE e = true
  srt : SrtE T.L
  high : ∀ h ∈ T.H, 1 ≤ h ∧ h ≤ 12
  drw : ∀ d ∈ T.draws, -9223372036854775808 ≤ d ∧ d ≤ 9223372036854775807
theorem tow_le (T : PTb) : 1 ≤ tow T ∧ tow T ≤ 12 := by
  unfold tow
  split
  · omega
  · split <;> omega
theorem sizeE_snoc (l : List Ent) (k : Nat) (h : k < l.length) : sizeE (l.take (k + 1)) = sizeE (l.take k) + (l[k].key.length + l[k].val.length + 16) := by
  unfold sizeE
  rw [List.take_add_one, List.getElem?_eq_getElem h, List.map_append, List.sum_append]
  simp
theorem sizeE_take (l : List Ent) (k : Nat) : sizeE (l.take k) ≤ sizeE l := by
  have h : sizeE l = sizeE (l.take k) + sizeE (l.drop k) := by
    unfold sizeE
    rw [← List.sum_append, ← List.map_append, List.take_append_drop]
  omega
theorem sizeE_fit : ∀ (l : List Ent), (∀ e ∈ l, FitE e) → sizeE l ≤ l.length * 2199023255568
  | [], _ => by simp [sizeE]
  | e :: r, h => by
    have h1 := sizeE_fit r fun y hy => h y (by simp [hy])
    have h2 := h e (by simp)
    have := h2.key
    have := h2.val
    have e1 : sizeE (e :: r) = e.key.length + e.val.length + 16 + sizeE r := by simp [sizeE]
    rw [e1, List.length_cons, Nat.add_mul]
    omega
theorem highE_snoc (l : List Int) (k : Nat) (h : k < l.length) : highE (l.take (k + 1)) = if highE (l.take k) < l[k] then l[k] else highE (l.take k) := by
  unfold highE
  rw [List.take_add_one, List.getElem?_eq_getElem h, List.foldl_append]
  rfl
theorem highE_le : ∀ (l : List Int), (∀ h ∈ l, 1 ≤ h ∧ h ≤ 12) → 0 ≤ highE l ∧ highE l ≤ 12 := by
  intro l
  unfold highE
  suffices ∀ (l : List Int) (m : Int), 0 ≤ m ∧ m ≤ 12 → (∀ h ∈ l, 1 ≤ h ∧ h ≤ 12) → 0 ≤ l.foldl (fun m h => if m < h then h else m) m ∧ l.foldl (fun m h => if m < h then h else m) m ≤ 12 from fun hl => this l 0 (by omega) hl
  intro l
  induction l with
  | nil => intro m hm _; exact hm
  | cons x r ih =>
    intro m hm hl
    have hx := hl x (by simp)
    exact ih _ (by show 0 ≤ (if m < x then x else m) ∧ (if m < x then x else m) ≤ 12; split <;> omega) fun h hh => hl h (by simp [hh])

/-! ### rows of the call's own -/
section
variable {w w' : World} {base base' n s : Nat} {e : TypeId} {v : Value} {xs : List Value}
theorem row_heap (h : w.ownsRow base e s v n xs) {k : Nat} (hk : v.ownBlock = some k) : ∃ cur, w.heap[k]? = some (.cells cur e (0, 0)) := by
  rcases h.2 with ⟨rfl, _⟩ | ⟨g, cap, cur, rfl, _, hg, _⟩
  · cases hk
  · obtain rfl : g = k := by simpa [Value.ownBlock] using hk
    exact ⟨cur, hg⟩
theorem row_keep (h : w.ownsRow base e s v n xs) (hk : ∀ k, v.ownBlock = some k → w'.heap[k]? = w.heap[k]?) : w'.ownsRow base e s v n xs := by
  refine ⟨h.1, ?_⟩
  rcases h.2 with hn | ⟨g, cap, cur, rfl, h1, h2, h3⟩
  · exact .inl hn
  · exact .inr ⟨g, cap, cur, rfl, h1, (hk g (by simp [Value.ownBlock])).trans h2, h3⟩
theorem row_more (h : w.ownsRow base e s v n xs) (hb : ∀ k, v.ownBlock = some k → base' ≤ k) : w.ownsRow base' e s v n xs := by
  refine ⟨h.1, ?_⟩
  rcases h.2 with hn | ⟨g, cap, cur, rfl, h1, h2, h3⟩
  · exact .inl hn
  · exact .inr ⟨g, cap, cur, rfl, hb g (by simp [Value.ownBlock]), h2, h3⟩
theorem row_shape (h : w.ownsRow base e s v n xs) : ∃ p cap, v = .slice p n cap ∧ n ≤ cap ∧ cap ≤ 9223372036854775807 := by
  rcases h.2 with ⟨rfl, h0⟩ | ⟨g, cap, cur, rfl, _, hg, h1, h2, _⟩
  · exact ⟨none, 0, by rw [h0], by omega, by omega⟩
  · exact ⟨_, cap, rfl, h1, by unfold maxLen at h2; exact h2⟩
theorem row_low (h : w.ownsRow base e s v n xs) : ∀ k, v.ownBlock = some k → base ≤ k := fun k hk => (World.ownsRow.lt h k hk).1
theorem row_lt (h : w.ownsRow base e s v n xs) : ∀ k, v.ownBlock = some k → k < w.heap.size := fun k hk => (World.ownsRow.lt h k hk).2
end

/-! ### in memory -/
def ints (l : List Int) : List Value := l.map (Value.int .i64)
theorem ints_length (l : List Int) : (ints l).length = l.length := by simp [ints]
/-- A row of bytes in a block of S. -/
def OwnS (S : Nat → Prop) (w : World) (u : Value) (l : List UInt8) : Prop := Own w 0 u l ∧ ∀ j, u.ownBlock = some j → S j
theorem OwnS.keep {S S' : Nat → Prop} {w w' : World} {u : Value} {l : List UInt8} (h : OwnS S w u l) (hk : ∀ j, u.ownBlock = some j → w'.heap[j]? = w.heap[j]?) (hS : ∀ k, k < w.heap.size → S k → S' k) : OwnS S' w' u l :=
  ⟨h.1.keep hk, fun j hj => by
    obtain ⟨cur, hc⟩ := h.1.heap hj
    exact hS j (block_lt hc) (h.2 j hj)⟩
theorem OwnS.step {S R S' : Nat → Prop} {w w' : World} {u : Value} {l : List UInt8} (h : OwnS S w u l) (hf : Fr R w w') (hd : ∀ k, k < w.heap.size → S k → ¬ R k) (hS : ∀ k, k < w.heap.size → S k → S' k) : OwnS S' w' u l :=
  h.keep (fun j hj => by
    obtain ⟨cur, hc⟩ := h.1.heap hj
    exact hf.block j (block_lt hc) (hd j (block_lt hc) (h.2 j hj))) hS
theorem OwnS.by_ {S : Nat → Prop} {w : World} {u : Value} {l : List UInt8} (h : OwnS S w u l) (hl : l.length ≤ 140737488355328) : By w S u l := By.of_own h.1 hl h.2
theorem OwnS.nil (S : Nat → Prop) (w : World) : OwnS S w (.slice none 0 0) [] := ⟨World.ownsRow_nil _ _ _ _, fun j hj => by cases hj⟩
theorem OwnS.one {S : Nat → Prop} {w : World} {u : Value} {l : List UInt8} (h : OwnS S w u l) : u.oneCell' = true := by
  obtain ⟨p, cap, rfl, _⟩ := h.1.shp
  rfl
section
variable {w w' : World} {S S' R : Nat → Prop} {d0 tb : Nat} {T : PTb} {dv lv hv : Value} {us : List Value}
end

section
variable {w w' : World} {S : Nat → Prop} {d0 tb : Nat} {T : PTb} {dv lv hv : Value} {us : List Value}
end

end Go.Proofs.Yteclnnjijfbfoaa
