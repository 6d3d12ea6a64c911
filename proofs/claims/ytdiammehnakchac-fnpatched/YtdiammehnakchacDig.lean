/- CONTRACTS: a digest: impl's (with, told, folded, Digest) and spec.Digest; Clash of both. The mathematics ahead of them speaks of no program. -/
import Derived.Test.YtdiammehnakchacBasis
namespace Go.Proofs.Ytdiammehnakchac
open Go.RowKit

/-- one byte more -/
def dStep (h b : Int) : Int := (h * 1000003 + b + 1) % 2147483647
def digL (bs : List Int) : Int := bs.foldl dStep 1
def dTold (h : Int) : Int := if h = 0 then 1 else h
/-- what a text's digest is -/
def digest (s : ByteArray) : Int := dTold (digL (byts s))

theorem dStep_in (h b : Int) : 0 ≤ dStep h b ∧ dStep h b ≤ 2147483646 := by
  unfold dStep; omega
theorem digL_in (bs : List Int) : 0 ≤ digL bs ∧ digL bs ≤ 2147483646 := by
  unfold digL
  suffices H : ∀ h, 0 ≤ h ∧ h ≤ 2147483646 → 0 ≤ bs.foldl dStep h ∧ bs.foldl dStep h ≤ 2147483646 from H 1 (by omega)
  induction bs with
  | nil => exact fun h hh => hh
  | cons b r ih => exact fun h _ => ih _ (dStep_in h b)
theorem digL_snoc (bs : List Int) (k : Nat) (hk : k < bs.length) : digL (bs.take (k + 1)) = dStep (digL (bs.take k)) (bs.getD k 0) := by
  rw [take_snoc bs 0 k hk]
  simp [digL]
theorem digest_in (s : ByteArray) : 1 ≤ digest s ∧ digest s ≤ 2147483646 := by
  have := digL_in (byts s)
  unfold digest dTold
  split <;> omega



/-- a byte of a text -/
theorem str_at (s : ByteArray) (k : Nat) (hk : k < s.size) : ∀ W : World, (Instr.index 9 (.string s) (.int .i64 (k : Int))).run Try.prog W = .ok (.int .u8 ((byts s).getD k 0)) W := fun W => by
  rw [run_index_string W 9 s .i64 k Try.underlying9, dif_pos ⟨by omega, by omega⟩, byts_get s k hk]
  rfl





theorem same_of {a b : ByteArray} (h : a.toList = b.toList) : a = b := by
  rw [ByteArray.toList_eq, ByteArray.toList_eq] at h
  exact ByteArray.ext (Array.toList_inj.1 h)

/-- do two texts clash? -/
def clashB (a b : ByteArray) : Bool := !a.toList == b.toList && digest a == digest b
theorem clashB_iff (a b : ByteArray) : clashB a b = true ↔ a ≠ b ∧ digest a = digest b := by
  unfold clashB
  constructor
  · intro h
    simp at h
    exact ⟨fun e => h.1 (by rw [e]), h.2⟩
  · rintro ⟨h1, h2⟩
    have h3 : ¬ a.toList = b.toList := fun e => h1 (same_of e)
    simp [h2, h3]
theorem clashB_comm (a b : ByteArray) : clashB a b = clashB b a := by
  rw [Bool.eq_iff_iff, clashB_iff, clashB_iff]
  exact ⟨fun h => ⟨fun e => h.1 e.symm, h.2.symm⟩, fun h => ⟨fun e => h.1 e.symm, h.2.symm⟩⟩



end Go.Proofs.Ytdiammehnakchac
