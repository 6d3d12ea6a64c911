/- CONTRACT: impl.ReadNumber. -/
import Derived.Test.YtfoncmeplofedaaRead2
namespace Go.Proofs.Ytfoncmeplofedaa
open Go.RowKit

theorem win_all (s : ByteArray) (h : s.size ≤ 6) : win s 0 = s := by
  have e : min (0 + 6) s.size = s.size := by omega
  unfold win
  rw [e]
  exact ByteArray.extract_zero_size

theorem rdAt_asB (zs : List Int) (k : Nat) (hz : Bytes zs) (hk : (zs.take k).length ≤ 6) (he : zs.take k = zs.take 6) : rdAt (asB (zs.take k)) 0 = rd zs := by
  unfold rdAt rd
  rw [win_all _ (by rw [asB_size]; exact hk), asB_byts _ (bytes_take hz k), he]

/-- what is left behind the call of number -/
theorem read_end {zs : List Int} {t : ByteArray} {w w1 w' : World} {e : Ending} (hr : rdAt t 0 = rd zs) (hb : Below w.heap.size w w1) (hn : NumEnd w.heap.size t 0 w1 e w') (hs : w1.heap.size = w.heap.size + 1) :
    (rd zs = none ∧ e = .returned (.tuple #[.int .i64 0, .bool false]) ∧ Below w.heap.size w w') ∨
    (∃ m k, rd zs = some (m, k) ∧ e = .returned (.tuple #[.int .i64 (m : Int), .bool true]) ∧ w'.cell? ⟨w.heap.size, 1, none⟩ = some (.int .i64 (k : Int)) ∧ Below w.heap.size w w') := by
  unfold NumEnd at hn
  rw [hr] at hn
  split at hn
  · next h => exact .inl ⟨h, hn.1, hb.trans (hn.2.mono (by omega))⟩
  · next m k h =>
    refine .inr ⟨m, k, h, hn.1, ?_, hb.grown hn.2.2 (by omega) (fun k hk => by cases hk; exact Nat.le_refl _)⟩
    have h := cur_cell1 hn.2.1
    rwa [Nat.zero_add] at h

set_option maxHeartbeats 2000000 in
set_option maxRecDepth 100000 in
theorem implRead_any (va : Value) (zs : List Int) (w : World) (ha : Rd w va (cellsByteS zs)) (hz : Bytes zs) (hl : zs.length ≤ 140737488355328) :
    Calls Try.prog 12 #[va] w fun e w' => e = .returned (rdV zs) ∧ Below w.heap.size w w' := by
  have hla : (cellsByteS zs).length = zs.length := by simp
  have hb1 : ∀ o, Below w.heap.size w (w.alloc o) := fun o => (Below.refl _ _).alloc (Nat.le_refl _) o
  have hcur : ∀ t : ByteArray, Cur (w.alloc (.cells #[.string t, .int .i64 0] 72)) w.heap.size t 0 := fun t => heap_alloc_new w _
  have hsz : ∀ o, (w.alloc o).heap.size = w.heap.size + 1 := fun o => by simp
  rcases rd_cases ha with ⟨h0, ao, cap, rfl⟩ | ⟨hp, b, off, cap, rfl, hcap, hlt, hc⟩
  · have hx : zs = [] := by simpa using h0
    subst hx
    have hs := str_nil w ao cap
    have hrt : rdAt (asB ([] : List Int)) 0 = rd [] := rdAt_asB [] 6 hz (by simp) rfl
    go_enter Try.func12, Try.ntmps12
    go_wp2_with fail
    refine (number_any w.heap.size (asB ([] : List Int)) 0 _ (hcur _) (Nat.zero_le _) (by rw [asB_size]; first | omega | (simp; done) | (simp; omega))).mono ?_
    rintro e w' hn
    rcases read_end hrt (hb1 _) hn (hsz _) with ⟨hr, rfl, hb⟩ | ⟨m, k, hr, rfl, hc1, hb⟩
    · clear hn
      go_wp2
      go_ret2
      exact ⟨rdEnd_none hr, hb⟩
    · clear hn
      go_wp2
      go_quiet (fail)
      go_wp2
      go_ret2
      exact ⟨rdEnd_some hr rfl rfl, below_drewN hb _⟩
  · rw [hla] at hc hp hcap ⊢
    have hcz : ∀ j, j < zs.length → w.cell? ⟨b, off + j, none⟩ = some (.int .u8 (zs.getD j 0)) := fun j hj => (hc j hj).trans (ints_get _ zs j hj)
    by_cases h6 : (6 : Int) < (zs.length : Int)
    · have hs := str_of w b off cap 6 zs hz (by omega) hcz
      have hrt : rdAt (asB (zs.take 6)) 0 = rd zs := rdAt_asB zs 6 hz (by simp; omega) rfl
      clear hc hcz
      go_enter Try.func12, Try.ntmps12
      go_wp2_with fail
      refine (number_any w.heap.size (asB (zs.take 6)) 0 _ (hcur _) (Nat.zero_le _) (by rw [asB_size]; first | omega | (simp; done) | (simp; omega))).mono ?_
      rintro e w' hn
      rcases read_end hrt (hb1 _) hn (hsz _) with ⟨hr, rfl, hb⟩ | ⟨m, k, hr, rfl, hc1, hb⟩
      · clear hn
        go_wp2
        go_ret2
        exact ⟨rdEnd_none hr, hb⟩
      · clear hn
        go_wp2
        go_quiet (fail)
        go_wp2
        go_ret2
        exact ⟨rdEnd_some hr rfl rfl, below_drewN hb _⟩
    · have hs := str_of w b off cap zs.length zs hz (Nat.le_refl _) hcz
      have hrt : rdAt (asB zs) 0 = rd zs := by
        have h := rdAt_asB zs zs.length hz (by simp; omega) (by rw [List.take_of_length_le (Nat.le_refl _), List.take_of_length_le (by omega)])
        rwa [List.take_of_length_le (Nat.le_refl _)] at h
      rw [List.take_of_length_le (Nat.le_refl _)] at hs
      clear hc hcz
      go_enter Try.func12, Try.ntmps12
      go_wp2_with fail
      refine (number_any w.heap.size (asB zs) 0 _ (hcur _) (Nat.zero_le _) (by rw [asB_size]; first | omega | (simp; done) | (simp; omega))).mono ?_
      rintro e w' hn
      rcases read_end hrt (hb1 _) hn (hsz _) with ⟨hr, rfl, hb⟩ | ⟨m, k, hr, rfl, hc1, hb⟩
      · clear hn
        go_wp2
        go_ret2
        exact ⟨rdEnd_none hr, hb⟩
      · clear hn
        go_wp2
        go_quiet (fail)
        go_wp2
        go_ret2
        exact ⟨rdEnd_some hr rfl rfl, below_drewN hb _⟩

end Go.Proofs.Ytfoncmeplofedaa
