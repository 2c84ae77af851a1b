/-
  The reference's table in memory: 'TbAt w S d0 tb T dv lv hv us': block tb of w is a table of the reference that is told by T; its draws, versions and heights lie in the slices dv, lv, hv; its blocks are in the set S, all from tb on, the draws ahead of it. The walks over tower, Size, Height.
-/
import Derived.Test.YtaomneenflkpeaaEnD
import Derived.Test.YtaomneenflkpeaaClR
namespace Go.Proofs.Ytaomneenflkpeaa
open Go.RowKit

/-! ### plainly -/
structure PTb where
  draws : List Int
  L : List Ent
  H : List Int
  came : Nat
def tow (T : PTb) : Int := if T.draws.length = 0 then 1 else if 0 ≤ T.draws.getD (T.came % T.draws.length) 0 then 1 + T.draws.getD (T.came % T.draws.length) 0 % 12 else 1
def sizeE (l : List Ent) : Nat := (l.map fun e => e.key.length + e.val.length + 16).sum
def highE (l : List Int) : Int := l.foldl (fun m h => if m < h then h else m) 0
def normE (e : Ent) : Ent := { e with val := if e.gone = true then [] else e.val }
/-- Is the version there? -/
def foundE (e : Ent) (l : List Ent) : Bool := match l[plcE e l]? with | some f => atE f e | none => false
def putT (T : PTb) (e : Ent) : PTb :=
  if foundE e T.L = true then { T with L := T.L.set (plcE e T.L) e }
  else { T with L := T.L.take (plcE e T.L) ++ e :: T.L.drop (plcE e T.L), H := T.H.take (plcE e T.L) ++ tow T :: T.H.drop (plcE e T.L), came := T.came + 1 }
structure WfT (T : PTb) : Prop where
  hs : T.H.length = T.L.length
  fit : ∀ e ∈ T.L, FitE e
  one : ∀ e ∈ T.L, oneE e = true
  srt : SrtE T.L
  high : ∀ h ∈ T.H, 1 ≤ h ∧ h ≤ 12
  drw : ∀ d ∈ T.draws, -9223372036854775808 ≤ d ∧ d ≤ 9223372036854775807
theorem tow_le (T : PTb) : 1 ≤ tow T ∧ tow T ≤ 12 := by
  unfold tow
  split
  · omega
  · split <;> omega
theorem sizeE_snoc (l : List Ent) (k : Nat) (h : k < l.length) : sizeE (l.take (k + 1)) = sizeE (l.take k) + (l[k].key.length + l[k].val.length + 16) := by
  unfold sizeE
  rw [List.take_add_one, List.getElem?_eq_getElem h, List.map_append, List.sum_append]
  simp
theorem sizeE_take (l : List Ent) (k : Nat) : sizeE (l.take k) ≤ sizeE l := by
  have h : sizeE l = sizeE (l.take k) + sizeE (l.drop k) := by
    unfold sizeE
    rw [← List.sum_append, ← List.map_append, List.take_append_drop]
  omega
theorem sizeE_fit : ∀ (l : List Ent), (∀ e ∈ l, FitE e) → sizeE l ≤ l.length * 2199023255568
  | [], _ => by simp [sizeE]
  | e :: r, h => by
    have h1 := sizeE_fit r fun y hy => h y (by simp [hy])
    have h2 := h e (by simp)
    have := h2.key
    have := h2.val
    have e1 : sizeE (e :: r) = e.key.length + e.val.length + 16 + sizeE r := by simp [sizeE]
    rw [e1, List.length_cons, Nat.add_mul]
    omega
theorem highE_snoc (l : List Int) (k : Nat) (h : k < l.length) : highE (l.take (k + 1)) = if highE (l.take k) < l[k] then l[k] else highE (l.take k) := by
  unfold highE
  rw [List.take_add_one, List.getElem?_eq_getElem h, List.foldl_append]
  rfl
theorem highE_le : ∀ (l : List Int), (∀ h ∈ l, 1 ≤ h ∧ h ≤ 12) → 0 ≤ highE l ∧ highE l ≤ 12 := by
  intro l
  unfold highE
  suffices ∀ (l : List Int) (m : Int), 0 ≤ m ∧ m ≤ 12 → (∀ h ∈ l, 1 ≤ h ∧ h ≤ 12) → 0 ≤ l.foldl (fun m h => if m < h then h else m) m ∧ l.foldl (fun m h => if m < h then h else m) m ≤ 12 from fun hl => this l 0 (by omega) hl
  intro l
  induction l with
  | nil => intro m hm _; exact hm
  | cons x r ih =>
    intro m hm hl
    have hx := hl x (by simp)
    exact ih _ (by show 0 ≤ (if m < x then x else m) ∧ (if m < x then x else m) ≤ 12; split <;> omega) fun h hh => hl h (by simp [hh])

/-! ### rows of the call's own -/
section
variable {w w' : World} {base base' n s : Nat} {e : TypeId} {v : Value} {xs : List Value}
theorem row_heap (h : w.ownsRow base e s v n xs) {k : Nat} (hk : v.ownBlock = some k) : ∃ cur, w.heap[k]? = some (.cells cur e (0, 0)) := by
  rcases h.2 with ⟨rfl, _⟩ | ⟨g, cap, cur, rfl, _, hg, _⟩
  · cases hk
  · obtain rfl : g = k := by simpa [Value.ownBlock] using hk
    exact ⟨cur, hg⟩
theorem row_keep (h : w.ownsRow base e s v n xs) (hk : ∀ k, v.ownBlock = some k → w'.heap[k]? = w.heap[k]?) : w'.ownsRow base e s v n xs := by
  refine ⟨h.1, ?_⟩
  rcases h.2 with hn | ⟨g, cap, cur, rfl, h1, h2, h3⟩
  · exact .inl hn
  · exact .inr ⟨g, cap, cur, rfl, h1, (hk g (by simp [Value.ownBlock])).trans h2, h3⟩
theorem row_more (h : w.ownsRow base e s v n xs) (hb : ∀ k, v.ownBlock = some k → base' ≤ k) : w.ownsRow base' e s v n xs := by
  refine ⟨h.1, ?_⟩
  rcases h.2 with hn | ⟨g, cap, cur, rfl, h1, h2, h3⟩
  · exact .inl hn
  · exact .inr ⟨g, cap, cur, rfl, hb g (by simp [Value.ownBlock]), h2, h3⟩
theorem row_shape (h : w.ownsRow base e s v n xs) : ∃ p cap, v = .slice p n cap ∧ n ≤ cap ∧ cap ≤ 9223372036854775807 := by
  rcases h.2 with ⟨rfl, h0⟩ | ⟨g, cap, cur, rfl, _, hg, h1, h2, _⟩
  · exact ⟨none, 0, by rw [h0], by omega, by omega⟩
  · exact ⟨_, cap, rfl, h1, by unfold maxLen at h2; exact h2⟩
theorem row_low (h : w.ownsRow base e s v n xs) : ∀ k, v.ownBlock = some k → base ≤ k := fun k hk => (World.ownsRow.lt h k hk).1
theorem row_lt (h : w.ownsRow base e s v n xs) : ∀ k, v.ownBlock = some k → k < w.heap.size := fun k hk => (World.ownsRow.lt h k hk).2
end

/-! ### in memory -/
def ints (l : List Int) : List Value := l.map (Value.int .i64)
theorem ints_length (l : List Int) : (ints l).length = l.length := by simp [ints]
/-- A row of bytes in a block of S. -/
def OwnS (S : Nat → Prop) (w : World) (u : Value) (l : List UInt8) : Prop := Own w 0 u l ∧ ∀ j, u.ownBlock = some j → S j
theorem OwnS.keep {S S' : Nat → Prop} {w w' : World} {u : Value} {l : List UInt8} (h : OwnS S w u l) (hk : ∀ j, u.ownBlock = some j → w'.heap[j]? = w.heap[j]?) (hS : ∀ k, k < w.heap.size → S k → S' k) : OwnS S' w' u l :=
  ⟨h.1.keep hk, fun j hj => by
    obtain ⟨cur, hc⟩ := h.1.heap hj
    exact hS j (block_lt hc) (h.2 j hj)⟩
theorem OwnS.step {S R S' : Nat → Prop} {w w' : World} {u : Value} {l : List UInt8} (h : OwnS S w u l) (hf : Fr R w w') (hd : ∀ k, k < w.heap.size → S k → ¬ R k) (hS : ∀ k, k < w.heap.size → S k → S' k) : OwnS S' w' u l :=
  h.keep (fun j hj => by
    obtain ⟨cur, hc⟩ := h.1.heap hj
    exact hf.block j (block_lt hc) (hd j (block_lt hc) (h.2 j hj))) hS
theorem OwnS.by_ {S : Nat → Prop} {w : World} {u : Value} {l : List UInt8} (h : OwnS S w u l) (hl : l.length ≤ 140737488355328) : By w S u l := By.of_own h.1 hl h.2
theorem OwnS.nil (S : Nat → Prop) (w : World) : OwnS S w (.slice none 0 0) [] := ⟨World.ownsRow_nil _ _ _ _, fun j hj => by cases hj⟩
theorem OwnS.one {S : Nat → Prop} {w : World} {u : Value} {l : List UInt8} (h : OwnS S w u l) : u.oneCell' = true := by
  obtain ⟨p, cap, rfl, _⟩ := h.1.shp
  rfl
structure TbAt (w : World) (S : Nat → Prop) (d0 tb : Nat) (T : PTb) (dv lv hv : Value) (us : List Value) : Prop where
  blk : w.heap[tb]? = some (.cells #[dv, lv, hv, .int .i64 (T.came : Int)] 37 (0, 0))
  drw : Cl w (fun k => k < d0) dv T.draws.length (ints T.draws)
  row : w.ownsRow 0 30 4 lv T.L.length (cellsE T.L us)
  ulen : us.length = T.L.length
  val : ∀ (k : Nat) (e : Ent) (u : Value), T.L[k]? = some e → us[k]? = some u → OwnS S w u e.val
  hrow : w.ownsRow 0 3 1 hv T.H.length (ints T.H)
  inS : S tb
  inL : ∀ k, lv.ownBlock = some k → S k
  inH : ∀ k, hv.ownBlock = some k → S k
  lo : ∀ k, S k → d0 ≤ k
  wf : WfT T
def Tb (w : World) (S : Nat → Prop) (d0 tb : Nat) (T : PTb) : Prop := ∃ dv lv hv us, TbAt w S d0 tb T dv lv hv us
section
variable {w w' : World} {S S' R : Nat → Prop} {d0 tb : Nat} {T : PTb} {dv lv hv : Value} {us : List Value}
theorem TbAt.lt (h : TbAt w S d0 tb T dv lv hv us) : tb < w.heap.size := block_lt h.blk
theorem TbAt.c0 (h : TbAt w S d0 tb T dv lv hv us) : w.cell? ⟨tb, 0, none⟩ = some dv := cell_of h.blk rfl
theorem TbAt.c1 (h : TbAt w S d0 tb T dv lv hv us) : w.cell? ⟨tb, 1, none⟩ = some lv := cell_of h.blk rfl
theorem TbAt.c2 (h : TbAt w S d0 tb T dv lv hv us) : w.cell? ⟨tb, 2, none⟩ = some hv := cell_of h.blk rfl
theorem TbAt.c3 (h : TbAt w S d0 tb T dv lv hv us) : w.cell? ⟨tb, 3, none⟩ = some (.int .i64 (T.came : Int)) := cell_of h.blk rfl
theorem TbAt.fz (h : TbAt w S d0 tb T dv lv hv us) (i : Nat) : w.frozen? ⟨tb, i, none⟩ = false := frozen_of h.blk
theorem TbAt.step (h : TbAt w S d0 tb T dv lv hv us) (hf : Fr R w w') (hd : ∀ k, k < w.heap.size → S k → ¬ R k) (hR : ∀ k, k < d0 → ¬ R k) (hS : ∀ k, k < w.heap.size → S k → S' k) (hlo : ∀ k, S' k → d0 ≤ k) : TbAt w' S' d0 tb T dv lv hv us :=
  ⟨hf.keep h.blk (hd _ h.lt h.inS), h.drw.step hf (fun _ _ hk => hR _ hk), row_keep h.row (fun k hk => hf.block k (row_lt h.row k hk) (hd k (row_lt h.row k hk) (h.inL k hk))), h.ulen,
    fun k e u h1 h2 => (h.val k e u h1 h2).step hf hd hS,
    row_keep h.hrow (fun k hk => hf.block k (row_lt h.hrow k hk) (hd k (row_lt h.hrow k hk) (h.inH k hk))), hS _ h.lt h.inS, fun k hk => hS k (row_lt h.row k hk) (h.inL k hk), fun k hk => hS k (row_lt h.hrow k hk) (h.inH k hk), hlo, h.wf⟩
theorem TbAt.after (h : TbAt w S d0 tb T dv lv hv us) (hb : Below w.heap.size w w') : TbAt w' S d0 tb T dv lv hv us := h.step (Fr.of_new hb (fun _ => False)) (fun _ _ _ hf => hf) (fun _ _ hf => hf) (fun _ _ hs => hs) h.lo
theorem TbAt.drewN (h : TbAt w S d0 tb T dv lv hv us) (n : Nat) : TbAt (w.drewN n) S d0 tb T dv lv hv us := h.after (below_drewN (Below.refl _ _) n)
theorem TbAt.mono (h : TbAt w S d0 tb T dv lv hv us) (hS : ∀ k, k < w.heap.size → S k → S' k) (hlo : ∀ k, S' k → d0 ≤ k) : TbAt w S' d0 tb T dv lv hv us := h.step (Fr.refl (fun _ => False) w) (fun _ _ _ hf => hf) (fun _ _ hf => hf) hS hlo
theorem TbAt.en (h : TbAt w S d0 tb T dv lv hv us) (hl : T.L.length ≤ 68719476736) : EnU w S lv T.L us :=
  ⟨h.ulen, Cl.of_own h.row (by omega) h.inL (cellsE_length _ _ h.ulen), fun k e u h1 h2 => (h.val k e u h1 h2).by_ (by have := (h.wf.fit e (List.mem_of_getElem? h1)).val; omega)⟩
theorem TbAt.hts (h : TbAt w S d0 tb T dv lv hv us) (hl : T.L.length ≤ 68719476736) : Cl w S hv T.H.length (ints T.H) :=
  Cl.of_own h.hrow (by rw [h.wf.hs]; omega) h.inH (by rw [ints_length, Nat.mul_one])
theorem Tb.after (h : Tb w S d0 tb T) (hb : Below w.heap.size w w') : Tb w' S d0 tb T := by
  obtain ⟨dv, lv, hv, us, h⟩ := h
  exact ⟨dv, lv, hv, us, h.after hb⟩
theorem Tb.step (h : Tb w S d0 tb T) (hf : Fr R w w') (hd : ∀ k, k < w.heap.size → S k → ¬ R k) (hR : ∀ k, k < d0 → ¬ R k) (hS : ∀ k, k < w.heap.size → S k → S' k) (hlo : ∀ k, S' k → d0 ≤ k) : Tb w' S' d0 tb T := by
  obtain ⟨dv, lv, hv, us, h⟩ := h
  exact ⟨dv, lv, hv, us, h.step hf hd hR hS hlo⟩
theorem Tb.wf (h : Tb w S d0 tb T) : WfT T := by
  obtain ⟨dv, lv, hv, us, h⟩ := h
  exact h.wf
theorem Tb.en (h : Tb w S d0 tb T) (hl : T.L.length ≤ 68719476736) : ∃ lv, w.cell? ⟨tb, 1, none⟩ = some lv ∧ En w S lv T.L := by
  obtain ⟨dv, lv, hv, us, h⟩ := h
  exact ⟨lv, h.c1, us, h.en hl⟩
end

section
variable {w w' : World} {S : Nat → Prop} {d0 tb : Nat} {T : PTb} {dv lv hv : Value} {us : List Value}
theorem TbAt.far (h : TbAt w S d0 tb T dv lv hv us) : (∀ k, lv.ownBlock = some k → k ≠ tb) ∧ (∀ k, hv.ownBlock = some k → k ≠ tb) ∧ (∀ k l, lv.ownBlock = some k → hv.ownBlock = some l → k ≠ l) := by
  refine ⟨fun k hk => ?_, fun k hk => ?_, fun k l hk hl => ?_⟩
  · obtain ⟨cur, hc⟩ := row_heap h.row hk
    exact kind_ne hc h.blk (by decide)
  · obtain ⟨cur, hc⟩ := row_heap h.hrow hk
    exact kind_ne hc h.blk (by decide)
  · obtain ⟨cur, hc⟩ := row_heap h.row hk
    obtain ⟨cur2, hc2⟩ := row_heap h.hrow hl
    exact kind_ne hc hc2 (by decide)
theorem OwnS.far {R : Nat → Prop} (h : TbAt w S d0 tb T dv lv hv us) {u : Value} {l : List UInt8} (hu : OwnS R w u l) {j : Nat} (hj : u.ownBlock = some j) : j ≠ tb ∧ lv.ownBlock ≠ some j ∧ hv.ownBlock ≠ some j := by
  obtain ⟨cur, hc⟩ := hu.1.heap hj
  refine ⟨kind_ne hc h.blk (by decide), fun e => ?_, fun e => ?_⟩
  · obtain ⟨cur2, hc2⟩ := row_heap h.row e
    exact kind_ne hc hc2 (by decide) rfl
  · obtain ⟨cur2, hc2⟩ := row_heap h.hrow e
    exact kind_ne hc hc2 (by decide) rfl
/-- One new version more. -/
theorem TbAt.came (h : TbAt w S d0 tb T dv lv hv us) : TbAt (w.setCell ⟨tb, 3, none⟩ (.int .i64 ((T.came + 1 : Nat) : Int))) S d0 tb { T with came := T.came + 1 } dv lv hv us := by
  obtain ⟨f1, f2, _⟩ := h.far
  have hf : Fr (fun k => k = tb) w (w.setCell ⟨tb, 3, none⟩ (.int .i64 ((T.came + 1 : Nat) : Int))) := Fr.setCell (fun k => k = tb) w (p := ⟨tb, 3, none⟩) rfl _
  have hdt := h.lo tb h.inS
  exact ⟨setCell_same h.blk _, h.drw.step hf (fun k _ hk e => by omega), row_keep h.row (fun k hk => hf.block k (row_lt h.row k hk) (f1 k hk)), h.ulen, fun k e u h1 h2 => (h.val k e u h1 h2).keep (fun j hj => setCell_other ((h.val k e u h1 h2).far h hj).1 _) (fun _ _ hs => hs),
    row_keep h.hrow (fun k hk => hf.block k (row_lt h.hrow k hk) (f2 k hk)), h.inS, h.inL, h.inH, h.lo, ⟨h.wf.hs, h.wf.fit, h.wf.one, h.wf.srt, h.wf.high, h.wf.drw⟩⟩
end

set_option maxRecDepth 100000 in
set_option maxHeartbeats 4000000 in
theorem r5_tower (w : World) (S : Nat → Prop) (d0 tb : Nat) (T : PTb) (dv lv hv : Value) (us : List Value) (h : TbAt w S d0 tb T dv lv hv us) (hc : T.came ≤ 1048576) :
    Calls Try.prog 30 #[.pointer (some ⟨tb, 0, none⟩)] w fun e w' => e = .returned (.int .i64 (tow T)) ∧ TbAt w' S d0 tb { T with came := T.came + 1 } dv lv hv us ∧ Fr (fun k => k = tb) w w' := by
  have ec : ((T.came + 1 : Nat) : Int) = (T.came : Int) + 1 := by omega
  have HN : ∀ n, Hid (TbAt ((w.drewN n).setCell ⟨tb, 3, none⟩ (.int .i64 ((T.came : Int) + 1))) S d0 tb { T with came := T.came + 1 } dv lv hv us) := fun n => Lib.hid (ec ▸ (h.drewN n).came)
  have H0 : Hid (TbAt (w.setCell ⟨tb, 3, none⟩ (.int .i64 ((T.came : Int) + 1))) S d0 tb { T with came := T.came + 1 } dv lv hv us) := Lib.hid (ec ▸ h.came)
  clear ec
  have HD := Lib.hid h.drw
  have HW := Lib.hid h.wf.drw
  obtain ⟨pd, capd, rfl, hlc, hl47, hcm, _⟩ := h.drw.form
  have c0 := h.c0
  have c3 := h.c3
  have z3 := h.fz 3
  have ht : tow T = if T.draws.length = 0 then 1 else if 0 ≤ T.draws.getD (T.came % T.draws.length) 0 then 1 + T.draws.getD (T.came % T.draws.length) 0 % 12 else 1 := rfl
  generalize tow T = t at *
  clear h
  by_cases h0 : T.draws.length = 0
  · rw [if_pos h0] at ht
    have HT := Lib.hid ht
    have q0 : decide ((0 : Int) < (T.draws.length : Int)) = false := decide_eq_false (by omega)
    have q1 : decide (0 < T.draws.length) = false := decide_eq_false (by omega)
    clear ht h0
    go_enter Try.func30, Try.ntmps30
    go_wp2_with fail
    go_ret
    exact ⟨ret_int HT.out.symm, H0.out, Fr.setCell (fun k => k = tb) w (p := ⟨tb, 3, none⟩) rfl _⟩
  · rw [if_neg h0] at ht
    have q0 : decide ((0 : Int) < (T.draws.length : Int)) = true := decide_eq_true (by omega)
    have q1 : decide (0 < T.draws.length) = true := decide_eq_true (by omega)
    have hj : T.came % T.draws.length < T.draws.length := Nat.mod_lt _ (by omega)
    have hz : ((T.draws.length : Int) == 0) = false := by rw [beq_eq_false_iff_ne]; omega
    have ht1 : (T.came : Int).tmod (T.draws.length : Int) = ((T.came % T.draws.length : Nat) : Int) := by rw [Int.tmod_eq_emod_of_nonneg (by omega)]; omega
    have hd : T.draws.getD (T.came % T.draws.length) 0 = T.draws[T.came % T.draws.length] := by simp [hj]
    rw [hd] at ht
    have hw := HW.out _ (List.getElem_mem hj)
    obtain ⟨b, off, rfl, hb, hFb, hcell⟩ := HD.out.at_ (j := T.came % T.draws.length) (x := .int .i64 T.draws[T.came % T.draws.length]) (by simp [ints, hj])
    have hj1 : (0 : Int) ≤ ((T.came % T.draws.length : Nat) : Int) := by omega
    have hj2 : ((T.came % T.draws.length : Nat) : Int) < (T.draws.length : Int) := by omega
    clear hd h0
    generalize T.draws[T.came % T.draws.length] = d at *
    generalize hjj : T.came % T.draws.length = j at *
    clear hjj
    by_cases h1 : 0 ≤ d
    · rw [if_pos h1] at ht
      have HT := Lib.hid ht
      have q2 : decide (0 ≤ d) = true := decide_eq_true h1
      clear ht
      go_enter Try.func30, Try.ntmps30
      go_wp2_with fail
      go_quiet (fail)
      clear ht1 hz
      go_wp2_with fail
      go_ret
      exact ⟨ret_int HT.out.symm, (HN _).out, (Fr.refl _ _ : Fr (fun k => k = tb) w w).drewN _ |>.then (Fr.setCell (fun k => k = tb) _ (p := ⟨tb, 3, none⟩) rfl _)⟩
    · rw [if_neg h1] at ht
      have HT := Lib.hid ht
      have q2 : decide (0 ≤ d) = false := decide_eq_false h1
      clear ht h1
      go_enter Try.func30, Try.ntmps30
      go_wp2_with fail
      go_quiet (fail)
      clear ht1 hz
      go_wp2_with fail
      go_ret
      exact ⟨ret_int HT.out.symm, (HN _).out, (Fr.refl _ _ : Fr (fun k => k = tb) w w).drewN _ |>.then (Fr.setCell (fun k => k = tb) _ (p := ⟨tb, 3, none⟩) rfl _)⟩
end Go.Proofs.Ytaomneenflkpeaa
