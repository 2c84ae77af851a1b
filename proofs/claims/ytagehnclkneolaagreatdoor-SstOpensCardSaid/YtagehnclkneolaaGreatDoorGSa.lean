import Derived.Test.YtagehnclkneolaaGreatDoorEnP
import Derived.Test.YtagehnclkneolaaGreatDoorGQa
import Derived.Test.YtagehnclkneolaaGreatDoorEnC
import Derived.Test.YtagehnclkneolaaGreatDoorGQb
import Derived.Lib.ConvBytes
import Derived.Laws.AppendOwn
import Derived.Test.YtagehnclkneolaaGreatDoorEnH

/-
  Sorted tables, told plainly: an entry's bytes, blocks (cut from the left; laid from the front), the index' rows, the filter's bits, the foot, the table.
-/
namespace Go.Proofs.YtagehnclkneolaaGreatDoor

/-! ### an entry, a block -/
def flagB (g : Bool) : UInt8 := if g then 1 else 0
def bytB (l : List UInt8) : List UInt8 := num l.length ++ l
def seB (e : Ent) : List UInt8 := bytB e.key ++ (num e.seq ++ (flagB e.gone :: bytB e.val))
def pay : List Ent → List UInt8
  | [] => []
  | e :: r => seB e ++ pay r
theorem pay_append : ∀ (a b : List Ent), pay (a ++ b) = pay a ++ pay b
  | [], b => by simp [pay]
  | e :: r, b => by simp [pay, pay_append r b]
theorem pay_one (e : Ent) : pay [e] = seB e := by simp [pay]
theorem pay_snoc (a : List Ent) (e : Ent) : pay (a ++ [e]) = pay a ++ seB e := by rw [pay_append, pay_one]
theorem pay_take_snoc (l : List Ent) (k : Nat) (e : Ent) (h : l[k]? = some e) : pay (l.take (k + 1)) = pay (l.take k) ++ seB e := by
  rw [List.take_add_one, h]; simp [pay_append, pay_one]
theorem seB_len (e : Ent) : 2 ≤ (seB e).length := by
  have h1 := num_len_pos e.key.length
  have h2 := num_len_pos e.seq
  simp only [seB, bytB, List.length_append, List.length_cons]
  omega
theorem seB_room (e : Ent) (h1 : e.key.length < 18446744073709551616) (h2 : e.seq < 18446744073709551616) (h3 : e.val.length < 18446744073709551616) :
    (seB e).length ≤ 31 + e.key.length + e.val.length := by
  have a := num_len10 _ h1
  have b := num_len10 _ h2
  have c := num_len10 _ h3
  simp only [seB, bytB, List.length_append, List.length_cons]
  omega
/-- What a list weighs. -/
def wgt : List Ent → Nat
  | [] => 0
  | e :: r => 31 + e.key.length + e.val.length + wgt r
theorem wgt_append : ∀ (a b : List Ent), wgt (a ++ b) = wgt a + wgt b
  | [], b => by simp [wgt]
  | e :: r, b => by simp [wgt, wgt_append r b]; omega
def ShE (e : Ent) : Prop := e.key.length < 18446744073709551616 ∧ e.seq < 18446744073709551616 ∧ e.val.length < 18446744073709551616
theorem pay_room : ∀ (l : List Ent), (∀ e ∈ l, ShE e) → (pay l).length ≤ wgt l
  | [], _ => by simp [pay]
  | e :: r, h => by
    have h1 := pay_room r (fun x hx => h x (.tail _ hx))
    obtain ⟨a, b, c⟩ := h e (.head _)
    have h2 := seB_room e a b c
    simp only [pay, wgt, List.length_append]
    omega
theorem wgt_take (l : List Ent) (k : Nat) : wgt (l.take k) ≤ wgt l := by
  have := wgt_append (l.take k) (l.drop k)
  rw [List.take_append_drop] at this
  omega
theorem wgt_drop (l : List Ent) (k : Nat) : wgt (l.drop k) ≤ wgt l := by
  have := wgt_append (l.take k) (l.drop k)
  rw [List.take_append_drop] at this
  omega

/-! ### blocks -/
/-- How many are laid behind so many bytes. -/
def fillN (block : Nat) : Nat → List Ent → Nat
  | _, [] => 0
  | p, e :: r => if p < block then fillN block (p + (seB e).length) r + 1 else 0
theorem fillN_le (block : Nat) : ∀ (p : Nat) (l : List Ent), fillN block p l ≤ l.length
  | _, [] => by simp [fillN]
  | p, e :: r => by
    have := fillN_le block (p + (seB e).length) r
    simp only [fillN, List.length_cons]
    split <;> omega
theorem fillN_pos {block : Nat} {e : Ent} {r : List Ent} (h : 0 < block) : 1 ≤ fillN block 0 (e :: r) := by
  simp only [fillN, if_pos h]; omega
/-- The number is k where the first k were to be laid, each below the bytes asked for, and there is no more, or it is enough. -/
theorem fillN_is (block : Nat) : ∀ (l : List Ent) (p k : Nat), k ≤ l.length → (∀ i, i < k → p + (pay (l.take i)).length < block) →
    (k = l.length ∨ block ≤ p + (pay (l.take k)).length) → fillN block p l = k
  | [], p, k, hk, _, _ => by simp only [List.length_nil] at hk; simp [fillN]; omega
  | e :: r, p, 0, _, _, h2 => by
    simp only [List.length_cons, List.take_zero, pay, List.length_nil, Nat.add_zero] at h2
    rcases h2 with h2 | h2
    · omega
    · simp only [fillN, if_neg (show ¬ p < block by omega)]
  | e :: r, p, k + 1, hk, h1, h2 => by
    have h0 := h1 0 (by omega)
    simp only [List.take_zero, pay, List.length_nil, Nat.add_zero] at h0
    simp only [fillN, if_pos h0]
    have ih := fillN_is block r (p + (seB e).length) k (by simpa using hk) (fun i hi => by
      have := h1 (i + 1) (by omega)
      simp only [List.take_succ_cons, pay, List.length_append] at this
      omega) (by
      simp only [List.take_succ_cons, pay, List.length_append, List.length_cons] at h2
      rcases h2 with h2 | h2
      · exact .inl (by omega)
      · exact .inr (by omega))
    omega
/-- The blocks, cut from the left: q waits. -/
def cutE (block : Nat) : List Ent → List Ent → List (List Ent)
  | q, [] => if q = [] then [] else [q]
  | q, e :: r => if block ≤ (pay (q ++ [e])).length then (q ++ [e]) :: cutE block [] r else cutE block (q ++ [e]) r
theorem cutE_fill (block : Nat) : ∀ (l q : List Ent), (pay q).length < block → q ++ l ≠ [] →
    cutE block q l = (q ++ l.take (fillN block (pay q).length l)) :: cutE block [] (l.drop (fillN block (pay q).length l))
  | [], q, _, h0 => by
    simp only [List.append_nil] at h0
    simp [cutE, fillN, h0]
  | e :: r, q, h1, h0 => by
    have hl : (pay (q ++ [e])).length = (pay q).length + (seB e).length := by rw [pay_snoc, List.length_append]
    simp only [cutE, fillN, if_pos h1]
    rcases Nat.lt_or_ge ((pay (q ++ [e])).length) block with hlt | hge
    · rw [if_neg (by omega), cutE_fill block r (q ++ [e]) hlt (by simp), hl]
      simp
    · rw [if_pos hge]
      have hz : fillN block ((pay q).length + (seB e).length) r = 0 := fillN_is block r _ 0 (by omega) (fun i hi => by omega) (.inr (by simp only [List.take_zero, pay, List.length_nil]; omega))
      rw [hz]
      simp
theorem cutE_front {block : Nat} (hb : 0 < block) {l : List Ent} (h : l ≠ []) :
    cutE block [] l = l.take (fillN block 0 l) :: cutE block [] (l.drop (fillN block 0 l)) := by
  have := cutE_fill block l [] (by simpa [pay] using hb) (by simpa using h)
  simpa [pay] using this
theorem cutE_flat (block : Nat) : ∀ (l q : List Ent), (cutE block q l).flatten = q ++ l
  | [], q => by
    simp only [cutE]
    split
    · next h => simp [h]
    · simp
  | e :: r, q => by
    simp only [cutE]
    split
    · rw [List.flatten_cons, cutE_flat block r []]; simp
    · rw [cutE_flat block r (q ++ [e])]; simp

/-! ### the rows of the index, the bytes of the blocks -/
def hdK : List Ent → List UInt8
  | [] => []
  | e :: _ => e.key
def rowB (k : List UInt8) (at_ n : Nat) : List UInt8 := bytB k ++ (num at_ ++ num n)
def tabB : List (List Ent) → List UInt8
  | [] => []
  | c :: r => frame (pay c) ++ tabB r
def idxB : Nat → List (List Ent) → List UInt8
  | _, [] => []
  | a, c :: r => rowB (hdK c) a (frame (pay c)).length ++ idxB (a + (frame (pay c)).length) r
theorem tabB_snoc : ∀ (cs : List (List Ent)) (c : List Ent), tabB (cs ++ [c]) = tabB cs ++ frame (pay c)
  | [], c => by simp [tabB]
  | d :: r, c => by simp [tabB, tabB_snoc r c]
theorem idxB_snoc : ∀ (cs : List (List Ent)) (a : Nat) (c : List Ent), idxB a (cs ++ [c]) = idxB a cs ++ rowB (hdK c) (a + (tabB cs).length) (frame (pay c)).length
  | [], a, c => by simp [idxB, tabB]
  | d :: r, a, c => by
    simp only [List.cons_append, idxB, tabB, List.length_append, idxB_snoc r, List.append_assoc]
    rw [Nat.add_assoc]

/-! ### the filter -/
/-- Is the k-th the first of its key? -/
def fstK (l : List Ent) (i : Nat) : Bool := i == 0 || !(((l[i - 1]?).map Ent.key) == ((l[i]?).map Ent.key))
def cntK (l : List Ent) : Nat → Nat
  | 0 => 0
  | k + 1 => cntK l k + if fstK l k = true then 1 else 0
theorem cntK_le (l : List Ent) : ∀ k, cntK l k ≤ k
  | 0 => by simp [cntK]
  | k + 1 => by
    have := cntK_le l k
    simp only [cntK]; split <;> omega
def filN (n : Nat) : Nat := max ((10 * n + 7) / 8) 8
def spotK (key : List UInt8) (m j : Nat) : Nat := (crc key + j * crc (key ++ [1])) % m
def setB (f : List UInt8) (i : Nat) : List UInt8 := f.set (i / 8) (f.getD (i / 8) 0 ||| (1 <<< UInt8.ofNat (i % 8)))
def setK (f : List UInt8) (key : List UInt8) : Nat → List UInt8
  | 0 => f
  | j + 1 => setB (setK f key j) (spotK key (8 * f.length) j)
def addK (f : List UInt8) (key : List UInt8) : List UInt8 := setK f key 4
theorem setB_len (f : List UInt8) (i : Nat) : (setB f i).length = f.length := by simp [setB]
theorem setK_len (f key : List UInt8) : ∀ j, (setK f key j).length = f.length
  | 0 => rfl
  | j + 1 => by simp only [setK, setB_len, setK_len f key j]
theorem addK_len (f key : List UInt8) : (addK f key).length = f.length := setK_len f key 4
theorem getD_set (f : List UInt8) (i k : Nat) (x : UInt8) : (f.set i x).getD k 0 = if i = k ∧ k < f.length then x else f.getD k 0 := by
  simp only [List.getD_eq_getElem?_getD, List.getElem?_set]
  rcases Nat.lt_or_ge k f.length with h | h
  · rcases Nat.decEq i k with e | e
    · simp [e]
    · subst e; simp [h]
  · rcases Nat.decEq i k with e | e
    · simp [e]
    · subst e
      simp [Nat.not_lt.2 h]
theorem ext_getD {f g : List UInt8} (hl : f.length = g.length) (h : ∀ k, f.getD k 0 = g.getD k 0) : f = g := by
  apply List.ext_getElem hl
  intro k h1 h2
  have := h k
  simpa [List.getD_eq_getElem?_getD, h1, h2] using this
theorem setB_at (f : List UInt8) (i k : Nat) : (setB f i).getD k 0 = if i / 8 = k ∧ k < f.length then f.getD k 0 ||| (1 <<< UInt8.ofNat (i % 8)) else f.getD k 0 := by
  unfold setB
  rw [getD_set]
  split
  · next h => rw [h.1]
  · rfl
theorem setB_idem (f : List UInt8) (i : Nat) : setB (setB f i) i = setB f i := by
  apply ext_getD (by simp [setB_len])
  intro k
  rw [setB_at, setB_len, setB_at]
  split
  · rw [UInt8.or_assoc, UInt8.or_self]
  · rfl
theorem setB_comm (f : List UInt8) (i j : Nat) : setB (setB f i) j = setB (setB f j) i := by
  apply ext_getD (by simp [setB_len])
  intro k
  rw [setB_at, setB_len, setB_at, setB_at, setB_len, setB_at]
  split <;> split <;> simp only [UInt8.or_assoc]
  rw [UInt8.or_comm (1 <<< UInt8.ofNat (i % 8))]
theorem setK_set (f key : List UInt8) (i : Nat) : ∀ j, setK (setB f i) key j = setB (setK f key j) i
  | 0 => rfl
  | j + 1 => by simp only [setK, setB_len, setK_set f key i j]; rw [setB_comm]
theorem setK_has (f key : List UInt8) : ∀ (n j : Nat), j < n → setB (setK f key n) (spotK key (8 * f.length) j) = setK f key n
  | 0, j, h => by omega
  | n + 1, j, h => by
    simp only [setK]
    rcases Nat.lt_or_ge j n with h1 | h1
    · rw [setB_comm, setK_has f key n j h1]
    · have e : j = n := by omega
      subst e
      rw [setB_idem]
theorem setK_again (f key : List UInt8) (n : Nat) : ∀ j, j ≤ n → setK (setK f key n) key j = setK f key n
  | 0, _ => rfl
  | j + 1, h => by
    simp only [setK, setK_len, setK_again f key n j (by omega)]
    exact setK_has f key n j (by omega)
/-- A key laid twice is laid. -/
theorem addK_again (f key : List UInt8) : addK (addK f key) key = addK f key := setK_again f key 4 4 (by omega)
/-- The filter behind the first k: the program's way (the first of each key), the reference's (all). -/
def filF (l : List Ent) (f : List UInt8) : Nat → List UInt8
  | 0 => f
  | k + 1 => if fstK l k = true then addK (filF l f k) ((l[k]?.map Ent.key).getD []) else filF l f k
def filA (l : List Ent) (f : List UInt8) : Nat → List UInt8
  | 0 => f
  | k + 1 => addK (filA l f k) ((l[k]?.map Ent.key).getD [])
theorem filF_len (l : List Ent) (f : List UInt8) : ∀ k, (filF l f k).length = f.length
  | 0 => rfl
  | k + 1 => by simp only [filF]; split <;> simp [addK_len, filF_len l f k]
theorem filA_len (l : List Ent) (f : List UInt8) : ∀ k, (filA l f k).length = f.length
  | 0 => rfl
  | k + 1 => by simp only [filA, addK_len, filA_len l f k]
theorem fil_same (l : List Ent) (f : List UInt8) : ∀ k, k ≤ l.length → filF l f k = filA l f k
  | 0, _ => rfl
  | k + 1, h => by
    have ih := fil_same l f k (by omega)
    simp only [filF, filA, ih]
    split
    · rfl
    · next hn =>
      match k, hn, ih with
      | 0, hn, _ => simp [fstK] at hn
      | k + 1, hn, _ =>
        have e : (l[k]?).map Ent.key = (l[k + 1]?).map Ent.key := by
          simpa [fstK] using hn
        simp only [filA, e, addK_again]
def filB (l : List Ent) : List UInt8 := filF l (List.replicate (filN (cntK l l.length)) 0) l.length
theorem filN_pos (n : Nat) : 8 ≤ filN n := by unfold filN; omega

/-! ### numbers of so many bytes, the foot, the table -/
def lowB : Nat → Nat → List UInt8
  | 0, _ => []
  | k + 1, v => UInt8.ofNat (v % 256) :: lowB k (v / 256)
theorem lowB_len : ∀ (k v : Nat), (lowB k v).length = k
  | 0, _ => rfl
  | k + 1, v => by simp [lowB, lowB_len k]
theorem lowB_four (v : Nat) : lowB 4 v = four v := by
  simp only [lowB, four]
  congr 1
  rw [Nat.div_div_eq_div_mul, Nat.div_div_eq_div_mul]
def footL (i f n : Nat) : List UInt8 := lowB 8 i ++ (lowB 8 f ++ lowB 8 n)
def footB (i f n : Nat) : List UInt8 := footL i f n ++ four (crc (footL i f n))
theorem footB_len (i f n : Nat) : (footB i f n).length = 28 := by simp [footB, footL, lowB_len, four_length]
def endB (cs : List (List Ent)) (l : List Ent) : List UInt8 :=
  let i := (tabB cs).length
  let f := i + (frame (idxB 0 cs)).length
  frame (idxB 0 cs) ++ (frame (filB l) ++ footB i f l.length)
def tblB (block : Nat) (l : List Ent) : List UInt8 := tabB (cutE block [] l) ++ endB (cutE block [] l) l
/-- May such entries be laid in such blocks: the error's number. -/
def longE (e : Ent) : Bool := decide (65535 < e.key.length) || decide (33554432 < e.val.length)
def refN (block : Int) (l : List Ent) : Nat :=
  if block < 1 ∨ 67108864 < block then 1 else if rightE l = false then 15 else if l.any longE = true then 3 else 0

end Go.Proofs.YtagehnclkneolaaGreatDoor

/-
  A string turned into bytes, in a walk; the walk over sst.entryInBytes.
-/
namespace Go.Proofs.YtagehnclkneolaaGreatDoor
open Go.RowKit

/-! ### '[]byte(s)' -/
def convW (w : World) (l : List UInt8) : World := Lib.bytesWorld w 5 ⟨l.toArray⟩
def convC (w : World) (l : List UInt8) : Nat := grownCap w l.length 0 5
theorem conv_run (w : World) (l : List UInt8) : (convert 9 22 (.string ⟨l.toArray⟩)).run Tryz.prog w = .ok (.slice (some ⟨w.heap.size, 0, none⟩) l.length (convC w l)) (convW w l) :=
  Lib.run_convert_string_bytes w 9 22 5 ⟨l.toArray⟩ Tryz.underlying9 Tryz.underlying22 Tryz.underlying5
theorem conv_size (w : World) (l : List UInt8) : (convW w l).heap.size = w.heap.size + 1 := Lib.bytesWorld_size _ _ _
theorem conv_below {B : Nat} {w0 w : World} (h : Below B w0 w) (hB : B ≤ w.heap.size) (l : List UInt8) : Below B w0 (convW w l) :=
  h.trans ⟨rfl, rfl, rfl, by rw [conv_size]; omega, fun k hk => Lib.bytesWorld_at_old w _ _ k (by omega)⟩
theorem conv_rd (w : World) (l : List UInt8) (hl : l.length ≤ 140737488355328) : Rd (convW w l) (w.heap.size + 1) (.slice (some ⟨w.heap.size, 0, none⟩) l.length (convC w l)) l := by
  refine ⟨_, _, rfl, grownCap_ge _ _ _ _, ⟨hl, ?_, fun e => by cases e⟩, fun _ => ⟨w.heap.size, 0, rfl, by omega, fun i hi => ?_⟩⟩
  · have := grownCap_le_maxLen w l.length 0 5 (by unfold maxLen; omega)
    unfold maxLen at this
    exact this
  · rw [Nat.zero_add]
    exact (Lib.bytesWorld_cell w 5 ⟨l.toArray⟩ i (by simpa [ByteArray.size] using hi))
attribute [irreducible] convW convC

set_option maxRecDepth 100000 in
set_option maxHeartbeats 1000000 in
theorem entry_any (w : World) (F : Nat → Prop) (e : Ent) (q : Option Addr) (c : Nat) (hv : By w F (.slice q e.val.length c) e.val) (hs : e.seq < 18446744073709551616) (hr : e.key.length + e.val.length ≤ 140737488354000) :
    Calls Tryz.prog 92 #[.agg #[.string ⟨e.key.toArray⟩, .int .u64 (e.seq : Int), .bool e.gone, .slice q e.val.length c]] w fun x w' => ∃ v', x = .returned v' ∧ Own w' w.heap.size v' (seB e) ∧ Below w.heap.size w w' := by
  obtain ⟨X, hX⟩ : ∃ X, w.alloc (.cells #[.string ⟨e.key.toArray⟩, .int .u64 (e.seq : Int), .bool e.gone, .slice q e.val.length c] 37) = X := ⟨_, rfl⟩
  have hb : Below w.heap.size w X := by rw [← hX]; exact (Below.refl _ _).alloc (Nat.le_refl _) _
  have hXa : X.heap[w.heap.size]? = some (.cells #[.string ⟨e.key.toArray⟩, .int .u64 (e.seq : Int), .bool e.gone, .slice q e.val.length c] 37 (0, 0)) := by rw [← hX]; exact heap_alloc_new w _
  have hXs : X.heap.size = w.heap.size + 1 := by rw [← hX]; simp
  have HE0 : Hid (∀ V, Below X.heap.size X V → V.cell? ⟨w.heap.size, 0, none⟩ = some (.string ⟨e.key.toArray⟩) ∧ V.cell? ⟨w.heap.size, 1, none⟩ = some (.int .u64 (e.seq : Int))) := Lib.hid (fun V hV => by
    have hVa := (hV.block _ (block_lt hXa)).trans hXa
    exact ⟨cell_of (i := 0) hVa rfl, cell_of (i := 1) hVa rfl⟩)
  have HE1 : Hid (∀ V, Below X.heap.size X V → V.cell? ⟨w.heap.size, 2, none⟩ = some (.bool e.gone) ∧ V.cell? ⟨w.heap.size, 3, none⟩ = some (.slice q e.val.length c)) := Lib.hid (fun V hV => by
    have hVa := (hV.block _ (block_lt hXa)).trans hXa
    exact ⟨cell_of (i := 2) hVa rfl, cell_of (i := 3) hVa rfl⟩)
  have HB := Lib.hid hb
  have HR : Hid (Rd X X.heap.size (.slice q e.val.length c) e.val) := Lib.hid (hv.below hb).rd
  have HS := Lib.hid hs
  have HL := Lib.hid hr
  have HXs := Lib.hid hXs
  have hcv : ∀ W, (convert 9 22 (.string ⟨e.key.toArray⟩)).run Tryz.prog W = .ok (.slice (some ⟨W.heap.size, 0, none⟩) e.key.length (convC W e.key)) (convW W e.key) := fun W => conv_run W e.key
  have HN := Lib.hid (num_len10 e.key.length (by omega))
  clear hb hXa hXs hs hr hv
  go_enter Tryz.func92, Tryz.ntmps92
  go_upto_region 1 with (fail)
  have HB0 : Hid (Below X.heap.size X X.drew) := Lib.hid (below_drew (Below.refl _ _))
  have HBc : Hid (Below X.heap.size X ((convW X.drew e.key).alloc (.cells #[.slice (some ⟨X.heap.size, 0, none⟩) e.key.length (convC X.drew e.key)] 22))) := Lib.hid ((conv_below HB0.out HB0.out.size _).alloc (by rw [conv_size]; exact Nat.le_succ_of_le HB0.out.size) _)
  have HRL : Hid (RdL ((convW X.drew e.key).alloc (.cells #[.slice (some ⟨X.heap.size, 0, none⟩) e.key.length (convC X.drew e.key)] 22)) ((convW X.drew e.key).heap.size + 1) (.slice (some ⟨(convW X.drew e.key).heap.size, 0, none⟩) 1 1) [e.key]) := Lib.hid (by
    exact RdL.one (conv_rd X.drew e.key (by have := HL.out; omega)) (by rw [conv_size]; exact Nat.le_refl _) 22)
  go_cut [3] (fun v wx => Own wx X.heap.size v (bytB e.key ++ num e.seq) ∧ Below X.heap.size X wx)
  case first =>
    obtain ⟨a0, a1⟩ := HE0.out _ HB0.out
    obtain ⟨_, b1⟩ := HE0.out _ (conv_below HB0.out HB0.out.size e.key)
    obtain ⟨_, c1⟩ := HE0.out _ HBc.out
    go_region_with
      (first
        | (go_at_call 94
           refine (bytes_any _ _ [] [e.key] 0 _ _ (Rd.none_ _ _) (Nat.zero_le _) HRL.out (by simp) (by have := HL.out; simp [fln]; omega)).mono ?_
           rintro r wz ⟨vz, rfl, hoz, hbz⟩
           have HBn := Lib.hid (HBc.out.trans (hbz.mono HBc.out.size))
           have HOz := Lib.hid hoz
           obtain ⟨_, d1⟩ := HE0.out _ HBn.out
           clear hbz hoz)
        | (go_at_call 95
           refine (number_any _ _ e.seq _ _ HS.out (HOz.out.rd (by have := HL.out; have := HN.out; simp [fln]; omega)) (Nat.le_refl _) (by have := HL.out; have := HN.out; simp [fln]; omega)).mono ?_
           rintro r wy ⟨vy, rfl, hoy, hby⟩
           have HBm := Lib.hid (HBn.out.trans (hby.mono HBn.out.size))
           have HOy := Lib.hid hoy
           clear hby hoy))
    all_goals
      go_wp2_with fail
      go_meet
      refine ⟨?_, HBm.out⟩
      have h1 := HOy.out.more HBn.out.size
      simpa [bytB, fln] using h1
  case rest =>
    obtain ⟨hown, hbx⟩ := hcut
    have HO := Lib.hid hown
    have HBx := Lib.hid hbx
    have HNs := Lib.hid (num_len10 e.seq HS.out)
    obtain ⟨z2, z3⟩ := HE1.out _ hbx
    clear hown hbx HE0
    cases hg : e.gone
    · rw [hg] at z2
      have HF : Hid (bytB e.key ++ num e.seq ++ [0] ++ bytB e.val = seB e) := Lib.hid (by simp [seB, hg, flagB])
      clear hg
      go_wp2_with (at_builtin; refine wpList_append_rd rfl _ _ rfl X.heap.size (wc.heap.size + 1) _ _ _ [0] rfl (HO.out.alloc _) rfl (Rd.new wc [0] _ _ rfl (by simp)) (by have := HL.out; have := HN.out; have := HNs.out; simp [bytB]; omega) (by have := HBx.out.size; simp; omega) ?_; intro v1 w1 hown1 hb1; have HB1 := Lib.hid (HBx.out.trans (((below_alloc wc _).mono HBx.out.size).trans hb1)); have HO1 := Lib.hid hown1; have z4 := (HE1.out _ HB1.out).2; clear hown1 hb1)
      refine (bytes_any _ _ _ [e.val] w1.heap.size _ _ ((HO1.out.rd (by have := HL.out; have := HN.out; have := HNs.out; simp [bytB]; omega)).under (below_alloc w1 _) (Nat.le_refl _)) (by simp) (RdL.one (HR.out.under HB1.out (Nat.le_refl _)) HB1.out.size _) (by simp) (by have := HL.out; have := HN.out; have := HNs.out; simp [bytB, fln]; omega)).mono ?_
      rintro r w2 ⟨v2, rfl, hown2, hb2⟩
      go_wp2_with fail
      go_ret
      have h3 := ((below_alloc w1 _).mono HB1.out.size).trans (hb2.mono (Nat.le_trans HB1.out.size (by simp)))
      refine ⟨v2, rfl, ?_, (HB.out.trans ((HB1.out.trans h3).mono HB.out.size))⟩
      rw [← HF.out]
      have h1 := hown2.more (base' := w.heap.size) (by have := HB.out.size; have := HB1.out.size; simp; omega)
      simpa [bytB, fln] using h1
    · rw [hg] at z2
      have HF : Hid (bytB e.key ++ num e.seq ++ [1] ++ bytB e.val = seB e) := Lib.hid (by simp [seB, hg, flagB])
      clear hg
      go_wp2_with (at_builtin; refine wpList_append_rd rfl _ _ rfl X.heap.size (wc.heap.size + 1) _ _ _ [1] rfl (HO.out.alloc _) rfl (Rd.new wc [1] _ _ rfl (by simp)) (by have := HL.out; have := HN.out; have := HNs.out; simp [bytB]; omega) (by have := HBx.out.size; simp; omega) ?_; intro v1 w1 hown1 hb1; have HB1 := Lib.hid (HBx.out.trans (((below_alloc wc _).mono HBx.out.size).trans hb1)); have HO1 := Lib.hid hown1; have z4 := (HE1.out _ HB1.out).2; clear hown1 hb1)
      refine (bytes_any _ _ _ [e.val] w1.heap.size _ _ ((HO1.out.rd (by have := HL.out; have := HN.out; have := HNs.out; simp [bytB]; omega)).under (below_alloc w1 _) (Nat.le_refl _)) (by simp) (RdL.one (HR.out.under HB1.out (Nat.le_refl _)) HB1.out.size _) (by simp) (by have := HL.out; have := HN.out; have := HNs.out; simp [bytB, fln]; omega)).mono ?_
      rintro r w2 ⟨v2, rfl, hown2, hb2⟩
      go_wp2_with fail
      go_ret
      have h3 := ((below_alloc w1 _).mono HB1.out.size).trans (hb2.mono (Nat.le_trans HB1.out.size (by simp)))
      refine ⟨v2, rfl, ?_, (HB.out.trans ((HB1.out.trans h3).mono HB.out.size))⟩
      rw [← HF.out]
      have h1 := hown2.more (base' := w.heap.size) (by have := HB.out.size; have := HB1.out.size; simp; omega)
      simpa [bytB, fln] using h1
end Go.Proofs.YtagehnclkneolaaGreatDoor

/-
  The walks over the reference's Bytes (what is written lies in other blocks than the row) and over glacierref7.entry.
-/
namespace Go.Proofs.YtagehnclkneolaaGreatDoor
open Go.RowKit

theorem conv_by (w : World) (l : List UInt8) (hl : l.length ≤ 140737488355328) : By (convW w l) (fun k => k = w.heap.size) (.slice (some ⟨w.heap.size, 0, none⟩) l.length (convC w l)) l := by
  obtain ⟨p, cap, e, h1, ⟨h2, h3, h4⟩, h5⟩ := conv_rd w l hl
  refine ⟨p, cap, e, h1, h2, h3, h4, fun k x hx => ?_⟩
  have hk : k < l.length := by
    have := (List.getElem?_eq_some_iff.1 hx).1
    simpa [bs] using this
  obtain ⟨b, off, e2, hb, hc⟩ := h5 (by omega)
  rw [bs_at l k hk] at hx
  have e3 : b = w.heap.size := by
    rw [e2] at e
    simp at e
    exact e.1.1.symm
  exact ⟨b, off, e2, by rw [conv_size]; omega, e3, by rw [hc k hk]; exact hx⟩

theorem Only.trans {w0 w w' : World} {v0 v v' : Value} (h : Only w0 v0 w v) (k : Only w v w' v') : Only w0 v0 w' v' := by
  refine ⟨⟨k.1.os.trans h.1.os, k.1.tape.trans h.1.tape, k.1.output.trans h.1.output, Nat.le_trans h.1.size k.1.size, fun j hj hn => ?_⟩, ?_⟩
  · refine (k.1.block j (Nat.lt_of_lt_of_le hj h.1.size) ?_).trans (h.1.block j hj hn)
    rcases h.2 with e | e
    · rw [e]; exact hn
    · intro e2
      have := e j e2.symm
      omega
  · rcases k.2 with e | e
    · rcases h.2 with e' | e'
      · exact .inl (e.trans e')
      · exact .inr fun j hj => e' j (by rw [← e]; exact hj)
    · exact .inr fun j hj => Nat.le_trans h.1.size (e j hj)
theorem Only.conv {w0 w : World} {v0 v : Value} (h : Only w0 v0 w v) (l : List UInt8) : Only w0 v0 (convW w l) v := by
  have hb := conv_below (Below.refl w.heap.size w) (Nat.le_refl _) l
  exact h.trans ⟨⟨hb.os, hb.tape, hb.output, hb.size, fun k hk _ => hb.block k hk⟩, .inl rfl⟩
theorem Own.conv {w : World} {base : Nat} {v : Value} {l : List UInt8} (h : Own w base v l) (m : List UInt8) : Own (convW w m) base v l := h.after (conv_below (Below.refl w.heap.size w) (Nat.le_refl _) m)
/-- A row in blocks that are not the one that may have changed. -/
theorem Only.by_ {w w' : World} {v v' u : Value} {F : Nat → Prop} {l : List UInt8} (h : Only w v w' v') (hu : By w F u l) (hne : ∀ k, v.ownBlock = some k → ¬ F k) : By w' F u l :=
  hu.step (Fr.grown (S := fun k => v.ownBlock = some k) h.1 (fun _ hk => hk)) (fun k _ hF hS => hne k hS hF)
theorem Only.blk {w w' : World} {v v' : Value} (h : Only w v w' v') {k : Nat} {o : Obj} (hk : w.heap[k]? = some o) (hne : v.ownBlock ≠ some k) : w'.heap[k]? = some o :=
  (h.1.block k (block_lt hk) (fun e => hne e.symm)).trans hk

set_option maxHeartbeats 400000 in
theorem refBytes_only (v u : Value) (l m : List UInt8) (base : Nat) (F : Nat → Prop) (w : World) (hown : Own w base v l) (hu : By w F u m) (hne : ∀ k, v.ownBlock = some k → ¬ F k) (hbase : base ≤ w.heap.size) (hlen : l.length + m.length ≤ 140737488355000) :
    Calls Tryz.prog 60 #[v, u] w fun e w' => ∃ v', e = .returned v' ∧ Own w' base v' (l ++ (num m.length ++ m)) ∧ Only w v w' v' := by
  have hnl := num_len10 m.length (by omega)
  have HO := Lib.hid hown
  have HU := Lib.hid hu
  have HNe := Lib.hid hne
  obtain ⟨p, cap, rfl, hlc, hl47, hcm, hat⟩ := hu.form
  clear hown hu hat hne
  go_enter Tryz.func60, Tryz.ntmps60
  go_wp2_with fail
  refine (refNumber_only v l m.length base w (by omega) HO.out hbase (by omega)).mono ?_
  rintro e w1 ⟨v1, rfl, hown1, hon1⟩
  have hb1 := hon1.below HO.out hbase
  have HU1 : Hid (By w1 F (.slice p m.length cap) m) := Lib.hid (HU.out.step (Fr.grown (S := fun k => v.ownBlock = some k) hon1.1 (fun k hk => hk)) (fun k _ hF hS => HNe.out k hS hF))
  have hsz := hb1.size
  have HN := Lib.hid hon1
  clear hon1
  go_wp2_with (at_builtin; refine wpList_append_rd_at rfl _ _ rfl base w1.heap.size _ _ _ m rfl hown1 rfl HU1.out.rd (by simp only [List.length_append]; omega) (by omega) ?_; intro v2 w2 hown2 hg2 hat2)
  go_ret
  exact ⟨v2, rfl, by rw [← List.append_assoc]; exact hown2, HN.out.step hg2 hat2⟩

set_option maxRecDepth 100000 in
set_option maxHeartbeats 1000000 in
theorem refEntry_only (w : World) (v : Value) (l : List UInt8) (base : Nat) (F : Nat → Prop) (e : Ent) (q : Option Addr) (c : Nat) (hown : Own w base v l) (hv : By w F (.slice q e.val.length c) e.val) (hne : ∀ k, v.ownBlock = some k → ¬ F k) (hF : ∀ k, F k → k < w.heap.size) (hbase : base ≤ w.heap.size) (hs : e.seq < 18446744073709551616) (hr : l.length + e.key.length + e.val.length ≤ 140737488354000) :
    Calls Tryz.prog 31 #[v, .agg #[.string ⟨e.key.toArray⟩, .int .u64 (e.seq : Int), .bool e.gone, .slice q e.val.length c]] w fun x w' => ∃ v', x = .returned v' ∧ Own w' base v' (l ++ seB e) ∧ Only w v w' v' := by
  obtain ⟨X, hX⟩ : ∃ X, w.alloc (.cells #[.string ⟨e.key.toArray⟩, .int .u64 (e.seq : Int), .bool e.gone, .slice q e.val.length c] 37) = X := ⟨_, rfl⟩
  have hb : Below w.heap.size w X := by rw [← hX]; exact (Below.refl _ _).alloc (Nat.le_refl _) _
  have hXo : Only w v X v := by rw [← hX]; exact (Only.refl _ _).alloc _
  have hXa : X.heap[w.heap.size]? = some (.cells #[.string ⟨e.key.toArray⟩, .int .u64 (e.seq : Int), .bool e.gone, .slice q e.val.length c] 37 (0, 0)) := by rw [← hX]; exact heap_alloc_new w _
  have HO : Hid (Own X base v l) := Lib.hid (by rw [← hX]; exact hown.alloc _)
  have hlt : ∀ k, v.ownBlock = some k → k < w.heap.size := fun k hk => (World.ownsRow.lt hown k hk).2
  have HE : Hid (∀ V u, Only X v V u → V.cell? ⟨w.heap.size, 0, none⟩ = some (.string ⟨e.key.toArray⟩) ∧ V.cell? ⟨w.heap.size, 1, none⟩ = some (.int .u64 (e.seq : Int)) ∧ V.cell? ⟨w.heap.size, 2, none⟩ = some (.bool e.gone) ∧ V.cell? ⟨w.heap.size, 3, none⟩ = some (.slice q e.val.length c)) := Lib.hid (fun V u hV => by
    have hVa := hV.blk hXa (fun ek => by have := hlt _ ek; omega)
    exact ⟨cell_of (i := 0) hVa rfl, cell_of (i := 1) hVa rfl, cell_of (i := 2) hVa rfl, cell_of (i := 3) hVa rfl⟩)
  have HV : Hid (∀ V u, Only X v V u → By V F (.slice q e.val.length c) e.val ∧ ∀ k, u.ownBlock = some k → ¬ F k) := Lib.hid (fun V u hV => ⟨hV.by_ (hv.below hb) hne, fun k hk hFk => by
    rcases hV.2 with h1 | h1
    · exact hne k (by rw [← h1]; exact hk) hFk
    · have h2 := h1 k hk
      have h3 := hF k hFk
      have h4 := hb.size
      omega⟩)
  have HXo := Lib.hid hXo
  have HXs : Hid (w.heap.size ≤ X.heap.size) := Lib.hid hb.size
  have HS := Lib.hid hs
  have HL := Lib.hid hr
  have HN := Lib.hid (num_len10 e.key.length (by omega))
  have HNs := Lib.hid (num_len10 e.seq hs)
  have HBa := Lib.hid hbase
  have HLt : Hid (∀ k, v.ownBlock = some k → k < X.heap.size) := Lib.hid (fun k hk => Nat.lt_of_lt_of_le (hlt k hk) hb.size)
  have hcv : ∀ W, (convert 9 22 (.string ⟨e.key.toArray⟩)).run Tryz.prog W = .ok (.slice (some ⟨W.heap.size, 0, none⟩) e.key.length (convC W e.key)) (convW W e.key) := fun W => conv_run W e.key
  obtain ⟨z0, z1, z2, z3⟩ := HE.out X v (Only.refl _ _)
  clear hb hXo hXa hlt hs hr hv hne hF hbase hown
  go_enter Tryz.func31, Tryz.ntmps31
  go_wp2_with fail
  have HC : Hid (Only X v (convW X e.key) v) := Lib.hid ((Only.refl _ _).conv _)
  refine (refBytes_only v _ l e.key base (fun k => k = X.heap.size) _ (HO.out.conv _) (conv_by X e.key (by have := HL.out; omega)) (fun k hk hk2 => by have := HLt.out k hk; omega) (by rw [conv_size]; have := HXs.out; have := HBa.out; omega) (by have := HL.out; omega)).mono ?_
  rintro r w1 ⟨v1, rfl, hown1, hon1⟩
  have HO1 := Lib.hid hown1
  have HC1 : Hid (Only X v w1 v1) := Lib.hid (HC.out.trans hon1)
  clear hown1 hon1 z0 z1 z2 z3
  obtain ⟨z0, z1, z2, z3⟩ := HE.out _ _ HC1.out
  go_wp2_with fail
  refine (refNumber_only v1 _ e.seq base w1 HS.out HO1.out (by have := HXs.out; have := HBa.out; have := HC1.out.1.size; omega) (by have := HL.out; have := HN.out; simp; omega)).mono ?_
  rintro r w2 ⟨v2, rfl, hown2, hon2⟩
  have HO2 := Lib.hid hown2
  have HC2 : Hid (Only X v w2 v2) := Lib.hid (HC1.out.trans hon2)
  clear hown2 hon2 z0 z1 z2 z3 HC1 HO1
  obtain ⟨z0, z1, z2, z3⟩ := HE.out _ _ HC2.out
  cases hg : e.gone
  · rw [hg] at z2
    have HF : Hid (l ++ (num e.key.length ++ e.key) ++ num e.seq ++ [0] ++ (num e.val.length ++ e.val) = l ++ seB e) := Lib.hid (by simp [seB, bytB, hg, flagB])
    clear hg
    go_wp2_with (at_builtin; refine wpList_append_rd_at rfl _ _ rfl base (w2.heap.size + 1) _ _ _ [0] rfl (HO2.out.alloc _) rfl (Rd.new w2 [0] _ _ rfl (by simp)) (by have := HL.out; have := HN.out; have := HNs.out; simp; omega) (by have := HXs.out; have := HBa.out; have := HC2.out.1.size; simp; omega) ?_; intro v3 w3 hown3 hg3 hat3; have HO3 := Lib.hid hown3; have HC3 := Lib.hid ((HC2.out.alloc _).step hg3 hat3); obtain ⟨y0, y1, y2, z4⟩ := HE.out _ _ HC3.out; clear hown3 hg3 hat3 y0 y1 y2)
    refine (refBytes_only v3 _ _ e.val base F _ HO3.out (HV.out _ _ HC3.out).1 (HV.out _ _ HC3.out).2 (by have := HXs.out; have := HBa.out; have := HC3.out.1.size; omega) (by have := HL.out; have := HN.out; have := HNs.out; simp; omega)).mono ?_
    rintro r w4 ⟨v4, rfl, hown4, hon4⟩
    go_wp2_with fail
    go_ret
    exact ⟨v4, rfl, by rw [← HF.out]; exact hown4, HXo.out.trans (HC3.out.trans hon4)⟩
  · rw [hg] at z2
    have HF : Hid (l ++ (num e.key.length ++ e.key) ++ num e.seq ++ [1] ++ (num e.val.length ++ e.val) = l ++ seB e) := Lib.hid (by simp [seB, bytB, hg, flagB])
    clear hg
    go_wp2_with (at_builtin; refine wpList_append_rd_at rfl _ _ rfl base (w2.heap.size + 1) _ _ _ [1] rfl (HO2.out.alloc _) rfl (Rd.new w2 [1] _ _ rfl (by simp)) (by have := HL.out; have := HN.out; have := HNs.out; simp; omega) (by have := HXs.out; have := HBa.out; have := HC2.out.1.size; simp; omega) ?_; intro v3 w3 hown3 hg3 hat3; have HO3 := Lib.hid hown3; have HC3 := Lib.hid ((HC2.out.alloc _).step hg3 hat3); obtain ⟨y0, y1, y2, z4⟩ := HE.out _ _ HC3.out; clear hown3 hg3 hat3 y0 y1 y2)
    refine (refBytes_only v3 _ _ e.val base F _ HO3.out (HV.out _ _ HC3.out).1 (HV.out _ _ HC3.out).2 (by have := HXs.out; have := HBa.out; have := HC3.out.1.size; omega) (by have := HL.out; have := HN.out; have := HNs.out; simp; omega)).mono ?_
    rintro r w4 ⟨v4, rfl, hown4, hon4⟩
    go_wp2_with fail
    go_ret
    exact ⟨v4, rfl, by rw [← HF.out]; exact hown4, HXo.out.trans (HC3.out.trans hon4)⟩
end Go.Proofs.YtagehnclkneolaaGreatDoor

/-
  The walk over sst.fill.
-/
namespace Go.Proofs.YtagehnclkneolaaGreatDoor
open Go.RowKit

theorem SlT.run_hm {T E : TypeId} {s b : Nat} (t : SlT T E s b) (W : World) (p : Option Addr) (n cap k : Nat) (hk : k ≤ n) (hn : n ≤ cap) :
    (Instr.slice T (.slice p n cap) none (some (.int .i64 (k : Int))) (some (.int .i64 (k : Int)))).run Tryz.prog W = .ok (.slice p k k) W := by
  rw [run_slice_hm W T _ _ _ (by rw [t.elem]; exact t.under) .i64 .i64 _ _ (by omega) (by omega) (by omega), t.elem, t.size]
  simp only [Result.andThen, sliced]
  rw [show ((k : Int)).toNat = k from by omega]
  by_cases hc : k = 0
  · rw [if_pos hc]; simp
  · rw [if_neg hc]
    cases p with
    | none => simp
    | some a => cases a; simp [Addr.add]

/-- Versions that a table may be made of: numbers of 64 bits, weighing little. -/
def ShL (es : List Ent) : Prop := (∀ e ∈ es, e.seq < 18446744073709551616) ∧ wgt es ≤ 1099511627776
theorem wgt_mem : ∀ (es : List Ent) (e : Ent), e ∈ es → 31 + e.key.length + e.val.length ≤ wgt es
  | [], _, h => by cases h
  | x :: r, e, h => by
    simp only [wgt]
    rcases List.mem_cons.1 h with rfl | h
    · omega
    · have := wgt_mem r e h
      omega
theorem ShL.e {es : List Ent} (h : ShL es) {e : Ent} (he : e ∈ es) : ShE e := by
  have h1 := wgt_mem es e he
  have h2 := h.2
  exact ⟨by omega, h.1 e he, by omega⟩
theorem ShL.small {es : List Ent} (h : ShL es) {e : Ent} (he : e ∈ es) : e.key.length + e.val.length ≤ 1099511627776 := by
  have h1 := wgt_mem es e he
  have h2 := h.2
  omega
theorem ShL.pay {es : List Ent} (h : ShL es) : (Go.Proofs.YtagehnclkneolaaGreatDoor.pay es).length ≤ 1099511627776 := Nat.le_trans (pay_room es fun _ he => h.e he) h.2
theorem ShL.take {es : List Ent} (h : ShL es) (k : Nat) : ShL (es.take k) := ⟨fun e he => h.1 e (List.mem_of_mem_take he), Nat.le_trans (wgt_take es k) h.2⟩
theorem ShL.drop {es : List Ent} (h : ShL es) (k : Nat) : ShL (es.drop k) := ⟨fun e he => h.1 e (List.mem_of_mem_drop he), Nat.le_trans (wgt_drop es k) h.2⟩
theorem ShL.len {es : List Ent} (h : ShL es) : es.length ≤ 1099511627776 := by
  have : ∀ l : List Ent, l.length ≤ wgt l := fun l => by
    induction l with
    | nil => simp
    | cons x r ih => simp only [wgt, List.length_cons]; omega
  exact Nat.le_trans (this es) h.2

set_option maxRecDepth 100000 in
set_option maxHeartbeats 1000000 in
theorem fill_any (w : World) (F : Nat → Prop) (p : Option Addr) (cap : Nat) (es : List Ent) (block : Nat) (h : En w F (.slice p es.length cap) es) (hs : ShL es) (hb : block ≤ 67108864) :
    Calls Tryz.prog 72 #[.slice p es.length cap, .int .i64 (block : Int)] w fun x w' => ∃ u, x = .returned (.tuple #[.slice p (fillN block 0 es) (fillN block 0 es), u]) ∧ Own w' w.heap.size u (pay (es.take (fillN block 0 es))) ∧ Below w.heap.size w w' := by
  obtain ⟨_, _, he, hlc, hl47, hcm, _⟩ := h.form
  simp only [Value.slice.injEq] at he
  obtain ⟨rfl, _, rfl⟩ := he
  have HE := Lib.hid h
  have HS := Lib.hid hs
  have hl40 := hs.len
  have hrun := fun (k : Nat) (hk : k ≤ es.length) (W : World) => slEnt.run_hm W p es.length cap k hk hlc
  have HRun := Lib.hid hrun
  clear h hs hrun
  go_enter Tryz.func72, Tryz.ntmps72
  go_wp2_with fail
  go_loopw [6, 7] (fun i u wr => ∃ k : Nat, k ≤ es.length ∧ i = .int .i64 (k : Int) ∧ Own wr w.heap.size u (pay (es.take k)) ∧ Below w.heap.size w wr ∧ ∀ j, j < k → (pay (es.take j)).length < block) (fun i _ _ => es.length - (intOf i).toNat)
  case atStart => exact ⟨0, by omega, rfl, own_nil _ _, Below.refl _ _, fun j hj => by omega⟩
  case round =>
    obtain ⟨k, hk, rfl, hown, hbw, hj⟩ := hrel
    have HO := Lib.hid hown
    have HB := Lib.hid hbw
    have HJ := Lib.hid hj
    have HP := Lib.hid (HS.out.take k).pay
    obtain ⟨q1, c1, rfl, hq1, hq2⟩ := hown.shp
    clear hown hbw hj
    by_cases hlt : k < es.length
    · have d1 : decide ((k : Int) < (es.length : Int)) = true := decide_eq_true (by omega)
      by_cases hpl : (pay (es.take k)).length < block
      · have HPl := Lib.hid hpl
        have HSn := Lib.hid (pay_take_snoc es k _ (List.getElem?_eq_getElem hlt))
        have HSm := Lib.hid (HS.out.small (List.getElem_mem hlt))
        have HSe := Lib.hid (HS.out.e (List.getElem_mem hlt))
        have HP1 := Lib.hid (HS.out.take (k + 1)).pay
        obtain ⟨b1, off1, q2, c2, rfl, hb1, _, hV1, e0, e1, e2, e3⟩ := (HE.out.below HB.out).at_ (List.getElem?_eq_getElem hlt)
        have HV := Lib.hid hV1
        generalize es[k] = x at *
        clear hV1 hpl
        have d2 : decide (((pay (es.take k)).length : Int) < (block : Int)) = true := decide_eq_true (by have := HPl.out; omega)
        go_wp2_with fail
        refine (entry_any wr F x q2 c2 HV.out HSe.out.2.1 (by have := HSm.out; omega)).mono ?_
        rintro r w1 ⟨u1, rfl, hown1, hb2⟩
        have hsl : (seB x).length ≤ 1099511627776 := by have h1 := HP1.out; rw [HSn.out, List.length_append] at h1; omega
        have HO1 : Hid (Own w1 w.heap.size (.slice q1 (pay (es.take k)).length c1) (pay (es.take k))) := Lib.hid (HO.out.after hb2)
        have HU1 := Lib.hid (hown1.rd (by omega))
        have HB1 : Hid (Below w.heap.size w w1) := Lib.hid (HB.out.trans (hb2.mono HB.out.size))
        clear hown1 hb2
        go_wp2_with (at_builtin; refine wpList_append_rd rfl _ _ rfl w.heap.size w1.heap.size _ _ _ (seB x) rfl HO1.out rfl HU1.out (by have := HP.out; omega) (by have := HB1.out.size; omega) ?_; intro v2 w2 hown2 hb2)
        go_roundw
        case rel =>
          refine ⟨k + 1, by omega, by go_num, by rw [HSn.out]; exact hown2, HB1.out.trans hb2, fun j hj => ?_⟩
          rcases Nat.lt_or_ge j k with h1 | h1
          · exact HJ.out j h1
          · obtain rfl : j = k := by omega
            exact HPl.out
        case measure => simp [intOf]; omega
      · have d2 : decide (((pay (es.take k)).length : Int) < (block : Int)) = false := decide_eq_false (by omega)
        have HF : Hid (fillN block 0 es = k) := Lib.hid (fillN_is block es 0 k hk (fun j hj => by have := HJ.out j hj; omega) (.inr (by omega)))
        have hr := HRun.out k hk
        go_wp2_with fail
        refine Go.bodyPost_ret (Go.results_tmp2 rfl _ _ _) rfl ?_
        rw [HF.out]
        exact ⟨_, rfl, HO.out, HB.out⟩
    · obtain rfl : k = es.length := by omega
      have d1 : decide ((es.length : Int) < (es.length : Int)) = false := decide_eq_false (by omega)
      have HF : Hid (fillN block 0 es = es.length) := Lib.hid (fillN_is block es 0 es.length hk (fun j hj => by have := HJ.out j hj; omega) (.inl rfl))
      have hr := HRun.out es.length hk
      go_wp2_with fail
      refine Go.bodyPost_ret (Go.results_tmp2 rfl _ _ _) rfl ?_
      rw [HF.out]
      exact ⟨_, rfl, HO.out, HB.out⟩
end Go.Proofs.YtagehnclkneolaaGreatDoor
