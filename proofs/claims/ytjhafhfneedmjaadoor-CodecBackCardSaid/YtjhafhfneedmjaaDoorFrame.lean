/-
  Plain facts on frames: what a frame is; what stands at the front of any bytes; what is written is read back.
-/
import Derived.Test.YtjhafhfneedmjaaDoorNum
namespace Go.Proofs.YtjhafhfneedmjaaDoor

def four (s : Nat) : List UInt8 := [UInt8.ofNat (s % 256), UInt8.ofNat (s / 256 % 256), UInt8.ofNat (s / 65536 % 256), UInt8.ofNat (s / 16777216 % 256)]
def frame (l : List UInt8) : List UInt8 := num l.length ++ (four (crc l) ++ l)
def frames (ls : List (List UInt8)) : List UInt8 := (ls.map frame).flatten
/-- How many bytes the program makes room for. -/
def room (ls : List (List UInt8)) : Nat := ls.length * 14 + ls.flatten.length

theorem room_snoc (ls : List (List UInt8)) (l : List UInt8) : room (ls ++ [l]) = room ls + (14 + l.length) := by
  simp [room]
  omega
theorem frames_snoc (ls : List (List UInt8)) (l : List UInt8) : frames (ls ++ [l]) = frames ls ++ frame l := by
  simp [frames]
theorem frames_cons (ls : List (List UInt8)) (l : List UInt8) : frames (l :: ls) = frame l ++ frames ls := by
  simp [frames]
theorem frames_one (l : List UInt8) : frames [l] = frame l := by simp [frames]
theorem four_length (s : Nat) : (four s).length = 4 := rfl
theorem room_take (ls : List (List UInt8)) (k : Nat) : room (ls.take k) ≤ room ls := by
  have h1 : (ls.take k).length ≤ ls.length := List.length_take_le' _ _
  have h2 : (ls.take k).flatten.length + (ls.drop k).flatten.length = ls.flatten.length := by
    rw [← List.length_append, ← List.flatten_append, List.take_append_drop]
  unfold room
  omega
theorem frame_length (l : List UInt8) (h : l.length < 18446744073709551616) : (frame l).length ≤ 14 + l.length ∧ 5 + l.length ≤ (frame l).length := by
  have h1 := num_len10 l.length h
  have h2 := num_len_pos l.length
  simp only [frame, List.length_append, four_length]
  omega
theorem frames_length (ls : List (List UInt8)) (h : ls.flatten.length < 18446744073709551616) : (frames ls).length ≤ room ls := by
  induction ls with
  | nil => simp [frames, room]
  | cons l r ih =>
    simp only [List.flatten_cons, List.length_append] at h
    have h1 := ih (by omega)
    have h2 := (frame_length l (by omega)).1
    rw [frames_cons, List.length_append]
    simp only [room, List.length_cons, List.flatten_cons, List.length_append] at h1 ⊢
    omega
theorem flat_take (ls : List (List UInt8)) (k : Nat) : (ls.take k).flatten.length ≤ ls.flatten.length := by
  have h2 : (ls.take k).flatten.length + (ls.drop k).flatten.length = ls.flatten.length := by
    rw [← List.length_append, ← List.flatten_append, List.take_append_drop]
  omega
theorem flat_mem (ls : List (List UInt8)) (k : Nat) (l : List UInt8) (h : ls[k]? = some l) : l.length ≤ ls.flatten.length := by
  have hk : k < ls.length := (List.getElem?_eq_some_iff.1 h).1
  have h2 := flat_take ls (k + 1)
  rw [List.take_add_one, h] at h2
  simp at h2
  simp
  omega

/-- How many bytes all have. -/
def flen (ls : List (List UInt8)) : Nat := ls.flatten.length
theorem flen_snoc (ls : List (List UInt8)) (l : List UInt8) : flen (ls ++ [l]) = flen ls + l.length := by
  simp only [flen, List.flatten_append, List.flatten_cons, List.flatten_nil, List.append_nil, List.length_append]
theorem flatten_snoc (ls : List (List UInt8)) (l : List UInt8) : (ls ++ [l]).flatten = ls.flatten ++ l := by
  simp only [List.flatten_append, List.flatten_cons, List.flatten_nil, List.append_nil]
theorem flen_take (ls : List (List UInt8)) (k : Nat) : flen (ls.take k) ≤ flen ls := flat_take ls k

/-- Four bytes as a number. -/
def unfour (l : List UInt8) : Nat := (l.getD 0 0).toNat + (l.getD 1 0).toNat * 256 + (l.getD 2 0).toNat * 65536 + (l.getD 3 0).toNat * 16777216
theorem unfour_four (s : Nat) (r : List UInt8) (h : s < 4294967296) : unfour (four s ++ r) = s := by
  simp only [unfour, four, List.cons_append, List.getD_cons_zero, List.getD_cons_succ]
  rw [toNat_of _ (by omega), toNat_of _ (by omega), toNat_of _ (by omega), toNat_of _ (by omega)]
  omega
end Go.Proofs.YtjhafhfneedmjaaDoor
