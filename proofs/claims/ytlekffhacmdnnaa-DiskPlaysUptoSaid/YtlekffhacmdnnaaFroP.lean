/-
  Plain facts for the law on fronts: what a crash leaves.
-/
import Derived.Test.YtlekffhacmdnnaaCrW
import Derived.Test.YtlekffhacmdnnaaRnP
import Derived.Test.YtlekffhacmdnnaaRqE
namespace Go.Proofs.Ytlekffhacmdnnaa

theorem torn_len (f : Fl) (p : Int) : (torn f p).data.length ≤ f.data.length := by
  show (f.data.take _).length ≤ _
  rw [List.length_take]
  omega
theorem used_crashL : ∀ (l : List Fl) (ps : List Int), used (crashL l ps) ≤ used l
  | [], _ => by simp [crashL]
  | f :: r, ps => by
    have h1 := used_crashL r ps.tail
    have h2 := torn_len f (ps.headD 0)
    simp only [crashL, used_cons]
    omega
theorem crashL_at : ∀ (l : List Fl) (ps : List Int) (k : Nat) (f : Fl), l[k]? = some f → ∃ p, (crashL l ps)[k]? = some (torn f p)
  | [], _, _, _, h => by simp at h
  | g :: r, ps, 0, f, h => by
    obtain rfl : g = f := by simpa using h
    exact ⟨ps.headD 0, rfl⟩
  | g :: r, ps, k + 1, f, h => crashL_at r ps.tail k f (by simpa using h)
theorem crashL_twice : ∀ (l : List Fl) (ps : List Int), used (crashL (crashL l ps) ps) = used (crashL l ps)
  | [], _ => by simp [crashL]
  | f :: r, ps => by
    have h1 := crashL_twice r ps.tail
    have h2 : (torn (torn f (ps.headD 0)) (ps.headD 0)).data = (torn f (ps.headD 0)).data := torn_full _ _ rfl
    simp only [crashL, used_cons, h1, h2]
/-- What a file has behind a crash. -/
theorem torn_front (f : Fl) (p : Int) (hle : f.synced ≤ f.data.length) : f.synced ≤ (torn f p).data.length ∧ (torn f p).data.length ≤ f.data.length ∧ f.data.take (torn f p).data.length = (torn f p).data ∧ (torn f p).synced = (torn f p).data.length := by
  have h1 := torn_len f p
  have hk := kept_le p (f.data.length - f.synced)
  have e : (torn f p).data = f.data.take (f.synced + kept p (f.data.length - f.synced)) := rfl
  have h2 : (torn f p).data.length = f.synced + kept p (f.data.length - f.synced) := by rw [e, List.length_take]; omega
  refine ⟨by omega, h1, ?_, rfl⟩
  rw [h2]
  rfl
end Go.Proofs.Ytlekffhacmdnnaa
