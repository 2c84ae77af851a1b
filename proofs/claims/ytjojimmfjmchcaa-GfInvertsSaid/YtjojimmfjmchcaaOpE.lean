/-
  From an argument's reading to the words of the walks, where it is a slice of versions, of ints, or a text: by the bulk; the post, where nothing that was there has changed.
-/
import Derived.Test.YtjojimmfjmchcaaClR
import Derived.ProofKit
import Derived.OpenShut
import Derived.Deep.Matrix
import Derived.Deep.Slices
import Derived.SizedLaws
import Derived.Deep.CondSized
namespace Go.Proofs.Ytjojimmfjmchcaa.Ope
open Go.ChangeShapes Go.WideShapes Go.ChangeAt Go.RowKit Go.Deep Go.Proofs.Ytjojimmfjmchcaa

theorem own : ownKnob Try.prog.godebug = none := by kernel_rfl
theorem laidOut : laidOutB Try.prog = true := by kernel_rfl
theorem toNat_of (n : Nat) (h : n < 256) : (UInt8.ofNat n).toNat = n := by
  rw [UInt8.toNat_ofNat']
  exact Nat.mod_eq_of_lt h
/-- THE POST, where nothing that was there has changed. -/
theorem post_below {H : Type} {enc : TypeId × Value → H} {P : Program} {f : Func} {s : ChangeSpec} {W W' : World} {args : Array Value} {v : Value} {ds gs : List (DataW H)} {before pa pv : List MemPlace}
    (hW : DataW.Whole enc P f.params.toList s.vars false W args.toList ds gs before) (hb : Below W.heap.size W W')
    (hres : DataW.TrodAll enc P W' W.heap.size (fun _ => false) false f.resultTypes.toList (v.resultList f.resultTypes.size) (s.fn H (ds ++ gs)).results [])
    (hargs : DataW.TrodAll enc P W' 0 (fun b => decide (b < W.heap.size)) true f.params.toList args.toList (s.fn H (ds ++ gs)).args pa)
    (hvars : DataW.TrodVars enc P W' (fun b => decide (b < W.heap.size)) s.vars (s.fn H (ds ++ gs)).vars pv) :
    s.post enc P f false true false false W args v W' :=
  ⟨ds, gs, before, [], pa, pv, hW, hres, hargs, hvars, hb.frame _, fun h => by cases h⟩

theorem cellsU8 : Try.prog.cellsOf 5 = 1 := by kernel_rfl
theorem cellsInt : Try.prog.cellsOf 3 = 1 := by kernel_rfl
def toBytes (zs : List Int) : List UInt8 := zs.map fun n => UInt8.ofNat n.toNat
theorem toBytes_length (zs : List Int) : (toBytes zs).length = zs.length := by simp [toBytes]
theorem toBytes_at (zs : List Int) (hw : ∀ n ∈ zs, (Lit.int .u8 n).wf = true) (i len : Nat) (hi : i < len) (hl : len ≤ zs.length) :
    (((toBytes (zs.take len)).getD i 0).toNat : Int) = zs.getD i 0 := by
  have hz : i < zs.length := by omega
  have hb := Go.bounds_u8 (hw zs[i] (List.getElem_mem hz))
  have e1 : (toBytes (zs.take len)).getD i 0 = UInt8.ofNat (zs[i].toNat) := by
    simp [toBytes, hi, hz]
  have e2 : zs.getD i 0 = zs[i] := by simp [hz]
  rw [e1, e2, toNat_of _ (by omega)]
  omega

/-- The cells of a row of bytes, however they were opened. -/
theorem rd_row {W : World} {a : Addr} {len cap : Nat} {zs : List Int} (hl : len ≤ cap) (hm : cap ≤ maxLen) (hz : zs.length = cap) (hlen : len ≤ 140737488355328)
    (hw : ∀ n ∈ zs, (Lit.int .u8 n).wf = true) (hc : ∀ i, i < zs.length → W.cell? (a.add i) = some (.int .u8 (zs.getD i 0))) : Rd W W.heap.size (.slice (some a) len cap) (toBytes (zs.take len)) := by
  have hlb : (toBytes (zs.take len)).length = len := by rw [toBytes_length, List.length_take]; omega
  refine ⟨some a, cap, by rw [hlb], by omega, ⟨by omega, by unfold maxLen at hm; omega, fun h => by cases h⟩, fun h0 => ?_⟩
  obtain ⟨b, off, rfl, hc2⟩ := ints_at hc (by omega)
  refine ⟨b, off, rfl, cell_lt (hc2 0 (by omega)), fun i hi => ?_⟩
  rw [hc2 i (by omega), toBytes_at zs hw i len (by omega) (by omega)]

/-! By the bulk. -/
theorem bulk_one {H : Type} (d : DataW H) : 1 ≤ Rows.uptoBulk d := by
  cases d with
  | lit l => cases l <;> simp [Rows.uptoBulk]
  | nil => simp [Rows.uptoBulk]
  | ptr d => simp [Rows.uptoBulk]
  | slice elems spare => simp [Rows.uptoBulk]
  | agg parts => simp [Rows.uptoBulk]
  | iface t d => simp [Rows.uptoBulk]
  | map entries => simp [Rows.uptoBulk]
  | held h => simp [Rows.uptoBulk]
theorem bulk_length {H : Type} (l : List (DataW H)) : l.length ≤ Rows.uptoBulkAll l := by
  induction l with
  | nil => simp [Rows.uptoBulkAll]
  | cons x r ih =>
    have := bulk_one x
    simp only [Rows.uptoBulkAll, List.length_cons]
    omega
theorem bulk_slice {H : Type} (elems spare : List (DataW H)) : elems.length + spare.length ≤ Rows.uptoBulk (.slice elems spare) := by
  have h1 := bulk_length elems
  have h2 := bulk_length spare
  simp only [Rows.uptoBulk]
  omega

theorem bulk_mem {H : Type} {l : List (DataW H)} {d : DataW H} (h : d ∈ l) : Rows.uptoBulk d ≤ Rows.uptoBulkAll l := by
  induction l with
  | nil => cases h
  | cons x r ih =>
    simp only [Rows.uptoBulkAll]
    rcases List.mem_cons.1 h with rfl | h
    · omega
    · have := ih h
      omega
theorem cellsStr : Try.prog.cellsOf 9 = 1 := by kernel_rfl
theorem cellsBool : Try.prog.cellsOf 4 = 1 := by kernel_rfl
theorem cellsSl1 : Try.prog.cellsOf 48 = 1 := by kernel_rfl
section
variable {H : Type} {enc : TypeId × Value → H} {W : World} {fuel : Nat} {c : Value} {d : DataW H} {ps : List MemPlace}
theorem bytes_field (h : DataW.trod enc Try.prog W 0 (fun _ => true) true fuel 48 [c] = some (d, ps)) (hb : Rows.uptoBulk d ≤ 1048576) :
    ∃ l, By W (fun k => k < W.heap.size) c l ∧ l.length ≤ 1048576 := by
  rcases open_ints Try.underlying48 Try.underlying5 cellsU8 h with ⟨hcs, hx⟩ | ⟨a, len, cap, zs, hcs, _, hl, hm, hz, hx, hcell, hwz⟩
  · obtain rfl : c = .slice none 0 0 := (List.cons.inj hcs).1
    exact ⟨[], By.nil _ _, by simp⟩
  · obtain rfl : c = .slice (some a) len cap := (List.cons.inj hcs).1
    injection hx with hd _
    simp only [if_true] at hz
    rw [hd] at hb
    have h1 := bulk_slice (lits (H := H) .u8 (zs.take len)) (lits .u8 (zs.drop len))
    have h2 : Rows.uptoBulk (DataW.slice (lits (H := H) .u8 (zs.take len)) (lits .u8 (zs.drop len))) ≤ 1048576 := hb
    simp only [lits, List.length_map, List.length_take, List.length_drop] at h1
    simp only [lits] at h2
    refine ⟨_, By.of_rd (rd_row hl hm hz (by omega) hwz hcell) (Nat.le_refl _) (fun _ hk => hk), ?_⟩
    rw [toBytes_length, List.length_take]
    omega
theorem ints_field (h : DataW.trod enc Try.prog W 0 (fun _ => true) true fuel 49 [c] = some (d, ps)) (hb : Rows.uptoBulk d ≤ 1048576) :
    ∃ l : List Int, Cl W (fun k => k < W.heap.size) c l.length (l.map (Value.int .i64)) ∧ (∀ n ∈ l, -9223372036854775808 ≤ n ∧ n ≤ 9223372036854775807) ∧ l.length ≤ 1048576 := by
  rcases open_ints Try.underlying49 Try.underlying3 cellsInt h with ⟨hcs, hx⟩ | ⟨a, len, cap, zs, hcs, _, hl, hm, hz, hx, hcell, hwz⟩
  · obtain rfl : c = .slice none 0 0 := (List.cons.inj hcs).1
    exact ⟨[], Cl.nil _ _, (fun n hn => by cases hn), by simp⟩
  · obtain rfl : c = .slice (some a) len cap := (List.cons.inj hcs).1
    injection hx with hd _
    simp only [if_true] at hz
    rw [hd] at hb
    have h1 := bulk_slice (lits (H := H) .i64 (zs.take len)) (lits .i64 (zs.drop len))
    have h2 : Rows.uptoBulk (DataW.slice (lits (H := H) .i64 (zs.take len)) (lits .i64 (zs.drop len))) ≤ 1048576 := hb
    simp only [lits, List.length_map, List.length_take, List.length_drop] at h1
    simp only [lits] at h2
    have hlt : (zs.take len).length = len := by rw [List.length_take]; omega
    refine ⟨zs.take len, ⟨some a, cap, by rw [hlt], by rw [hlt]; exact hl, by rw [hlt]; omega, by unfold maxLen at hm; exact hm, (fun e => by cases e), fun k x hx => ?_⟩, fun n hn => Go.bounds_i64 (hwz n (List.mem_of_mem_take hn)), by omega⟩
    have hk : k < len := by
      have := (List.getElem?_eq_some_iff.1 hx).1
      rw [List.length_map, hlt] at this
      exact this
    obtain ⟨b, off, rfl, hc2⟩ := ints_at hcell (by omega)
    have hc3 := hc2 k (by omega)
    refine ⟨b, off, rfl, cell_lt hc3, cell_lt hc3, ?_⟩
    rw [hc3, ← hx]
    have hkz : k < zs.length := by omega
    simp [hk, hkz]
end

theorem open_intsC {H : Type} {enc : TypeId × Value → H} {W : World} {v : Value} {d : DataW H} {ps : List MemPlace} (hok : ∃ a len cap, v = .slice a len cap)
    (h : DataW.Trod enc Try.prog W 0 (fun _ => true) true 49 v d ps) (hbulk : Rows.uptoBulk d ≤ 1048576) :
    ∃ l : List Int, Cl W (fun k => k < W.heap.size) v l.length (l.map (Value.int .i64)) ∧ (∀ n ∈ l, -9223372036854775808 ≤ n ∧ n ≤ 9223372036854775807) ∧ l.length ≤ 1048576 := by
  obtain ⟨a0, len0, cap0, rfl⟩ := hok
  obtain ⟨fuel, hf⟩ := h
  exact ints_field hf hbulk
theorem open_str {H : Type} {enc : TypeId × Value → H} {W : World} {v : Value} {d : DataW H} {ps : List MemPlace} (hok : ∃ s, v = .string s)
    (h : DataW.Trod enc Try.prog W 0 (fun _ => true) true 9 v d ps) (hbulk : Rows.uptoBulk d ≤ 1048576) : ∃ l : List UInt8, v = .string ⟨l.toArray⟩ ∧ d = .lit (.string l) ∧ ps = [] ∧ l.length ≤ 1048576 := by
  obtain ⟨s, rfl⟩ := hok
  obtain ⟨fuel, hf⟩ := h
  obtain ⟨s', hs, hx, _⟩ := DataW.trod_string Try.underlying9 hf
  have h1 : Value.string s = .string s' := (List.cons.inj hs).1
  injection h1 with h1
  subst h1
  injection hx with hd hp
  subst hd
  refine ⟨s.data.toList, by simp, rfl, hp, ?_⟩
  simp only [Rows.uptoBulk] at hbulk
  omega
end Go.Proofs.Ytjojimmfjmchcaa.Ope
