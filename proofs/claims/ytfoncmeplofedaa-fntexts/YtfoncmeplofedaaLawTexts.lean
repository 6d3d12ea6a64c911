/- FnTexts: texts are read from what they are laid as, and of no part of it. For every code, without a condition. -/
import Derived.Test.YtfoncmeplofedaaDrawsT
import Derived.Test.YtfoncmeplofedaaReadTexts2
import Derived.Test.YtfoncmeplofedaaLikeT
import Derived.Test.YtfoncmeplofedaaPick
import Derived.Deep.RegionHeld
namespace Go.Proofs.Ytfoncmeplofedaa.fnTexts
open Go.RowKit

set_option maxHeartbeats 4000000 in
set_option maxRecDepth 100000 in
theorem walk (va : Value) (bs : List Int) (w : World) (ha : Rd w va (cellsByteS bs)) (hz : Bytes bs) :
    Calls Try.prog 4 #[va] w fun e w' => e = .returned (.bool true) ∧ Below w.heap.size w w' := by
  by_cases hbig : 4096 < (bs.length : Int)
  · obtain ⟨ao, cap, rfl, _, _⟩ := ha
    have hla : (cellsByteS bs).length = bs.length := by simp
    rw [hla]
    go_enter Try.func4, Try.ntmps4
    go_wp2
    go_ret
    exact ⟨rfl, Below.refl _ _⟩
  · have hl : bs.length ≤ 4096 := by omega
    have hbg : Calls Try.prog 8 #[va] w fun e w' => e = .returned (.bool false) ∧ w' = w := by
      obtain ⟨ao, cap, rfl, _, _⟩ := ha
      have hla : (cellsByteS bs).length = bs.length := by simp
      rw [hla]
      go_enter Try.func8, Try.ntmps8
      go_wp2
      go_ret
      exact ⟨by simp, rfl⟩
    go_enter Try.func4, Try.ntmps4
    go_wp2_with fail
    refine hbg.mono ?_
    rintro e w' ⟨rfl, rfl⟩
    go_wp2_with fail
    refine (drawTexts_any va bs _ ha hl hz).mono ?_
    rintro e w1 ⟨vl, l, rfl, hll, hrl, hb1⟩
    have ha1 := rd_below ha hb1
    go_wp2_with fail
    refine (implTexts_any vl l w1 hrl (by omega)).mono ?_
    rintro e w2 ⟨rfl, hb2⟩
    obtain ⟨sl, hsl⟩ : ∃ sl, sl = asB (textsB l) := ⟨_, rfl⟩
    have HSL : Hid (sl = asB (textsB l)) := hsl
    rw [← hsl]
    clear hsl
    have ha2 := rd_below ha1 hb2
    have hrl2 := rd_below hrl hb2
    have hB2 := hb1.trans (hb2.mono hb1.size)
    go_wp2_with fail
    refine (drawReadTexts_any va bs w2 ha2 hl hz).mono ?_
    rintro e w3 ⟨s, rfl, hss, hb3⟩
    have ha3 := rd_below ha2 hb3
    have hrl3 := rd_below hrl2 hb3
    have hB3 := hB2.trans (hb3.mono hB2.size)
    go_wp2_with fail
    refine (implReadTexts_any s w3 (by omega)).mono ?_
    rintro e w4 ⟨vr, rfl, hor, hb4⟩
    have ha4 := rd_below ha3 hb4
    have hrl4 := rd_below hrl3 hb4
    have hB4 := hB3.trans (hb4.mono hB3.size)
    clear ha ha1 ha2 ha3 hb1 hb2 hb3 hb4 hrl hrl2 hrl3 hB2 hB3 hbg
    obtain ⟨R, hR⟩ : ∃ R, R = readTexts s := ⟨_, rfl⟩
    have HR : Hid (R = readTexts s) := hR
    rw [← hR] at hor ⊢
    clear hR
    go_wp2_with fail
    refine (specReadTexts_any s w4 (by omega)).mono ?_
    rintro e w5 ⟨vx, rfl, hox, hb5⟩
    rw [← HR.out] at hox ⊢
    have ha5 := rd_below ha4 hb5
    have hrl5 := rd_below hrl4 hb5
    have hor5 := owns_below hor hb5
    have hB5 := hB4.trans (hb5.mono hB4.size)
    clear ha4 hrl4 hor hB4 hb5
    have hRl : Hid ((R.getD []).length ≤ 200) := by
      show _ ≤ _
      rw [HR.out]; exact texts_len s
    have hRR : (R.isSome != R.isSome) = false := by simp
    go_wp2_with fail
    refine (likeTexts_same vr vx _ w5 (rd_owns hor5) (rd_owns hox) (by have := hRl.out; omega)).mono ?_
    rintro e w6 ⟨rfl, hb6⟩
    have ha6 := rd_below ha5 hb6
    have hrl6 := rd_below hrl5 hb6
    have hor6 := owns_below hor5 hb6
    have hB6 := hB5.trans (hb6.mono hB5.size)
    clear ha5 hrl5 hor5 hox hB5 hb6 hRR
    have HBACK : Hid (∀ l', R = some l' → asB (textsB l') = s) := fun l' h => by
      rw [HR.out] at h
      rw [(read_backT h).1, of_byts]
    clear HR
    go_wp2_with fail
    refine (specTexts_any vl l w6 hrl6 (by omega)).mono ?_
    rintro e w7 ⟨rfl, hb7⟩
    rw [← HSL.out]
    have ha7 := rd_below ha6 hb7
    have hrl7 := rd_below hrl6 hb7
    have hor7 := owns_below hor6 hb7
    have hB7 := hB6.trans (hb7.mono hB6.size)
    clear ha6 hrl6 hor6 hB6 hb7
    cases R
    rotate_left
    focus
      rename_i l'
      have hback := HBACK.out l' rfl
      go_wp2_with fail
      refine (implTexts_any vr l' w7 (rd_owns hor7) (by have := hRl.out; simp at this; omega)).mono ?_
      rintro e w8 ⟨rfl, hb8⟩
      rw [hback]
      have ha8 := rd_below ha7 hb8
      have hrl8 := rd_below hrl7 hb8
      have hB8 := hB7.trans (hb8.mono hB7.size)
      clear hback HBACK hRl ha7 hrl7 hor7 hB7 hb8
    rotate_left
    focus
      obtain ⟨w8, hw8, hrl8, ha8, hB8⟩ : ∃ w8, w8 = w7 ∧ Rd w8 vl (cellsS l) ∧ Rd w8 va (cellsByteS bs) ∧ Below w'.heap.size w' w8 := ⟨w7, rfl, hrl7, ha7, hB7⟩
      rw [← hw8]
      clear HBACK hRl ha7 hrl7 hor7 hB7 hw8
    all_goals
      have hs8 := hB8.size
      by_cases hse : sl.toList.isEmpty = true
      focus
        go_wp2
        go_ret
        exact ⟨rfl, hB8⟩
      have he : sl.toList.isEmpty = false := by simpa using hse
      obtain ⟨hl200, hread, hszp⟩ := laid_ofT HSL.out he
      have hl3 := textsB_len l
      have hsz : sl.size ≤ 402000 := by rw [HSL.out, asB_size]; exact hl3
      clear hse
      go_wp2_with fail
      refine (implReadTexts_any sl w8 (by omega)).mono ?_
      rintro e w9 ⟨vy, rfl, hoy, hb9⟩
      rw [hread] at hoy ⊢
      have hrl9 := rd_below hrl8 hb9
      have ha9 := rd_below ha8 hb9
      have hB9 := hB8.trans (hb9.mono hs8)
      have hs9 := hB9.size
      clear hrl8 ha8 hB8 hb9
      go_wp2_with fail
      refine (pick_any va bs 1 (sl.size : Int) w9 ha9 hl (bytes_all hz) (by omega) (by omega) (by omega) (by omega)).mono ?_
      rintro e w10 ⟨r, rfl, hr0, hr1, hb10⟩
      obtain ⟨r, rfl⟩ := Int.eq_ofNat_of_zero_le hr0
      have hslc : ∀ W : World, (Instr.slice 9 (.string sl) none (some (.int .i64 (r : Int))) none).run Try.prog W = .ok (.string (sl.extract 0 r)) W := fun W => by
        rw [run_slice_string_h W 9 sl Try.underlying9 .i64 _ (by omega) (by omega), Int.toNat_natCast]
      have hcut : readTexts (sl.extract 0 r) = none := read_cutT hread (by omega)
      have hcl : (sl.extract 0 r).size ≤ 1048576 := by rw [ByteArray.size_extract]; omega
      obtain ⟨t, ht⟩ : ∃ t, t = sl.extract 0 r := ⟨_, rfl⟩
      rw [← ht] at hslc hcut hcl
      have hoy10 := owns_below hoy hb10
      have hrl10 := rd_below hrl9 hb10
      have hB10 := hB9.trans (hb10.mono hs9)
      have hs10 := hB10.size
      clear ht hoy hrl9 ha9 hB9 hb10 hread
      go_wp2_with fail
      refine (implReadTexts_any t w10 hcl).mono ?_
      rintro e w11 ⟨vz, rfl, _, hb11⟩
      rw [hcut]
      have hoy11 := owns_below hoy10 hb11
      have hrl11 := rd_below hrl10 hb11
      have hB11 := hB10.trans (hb11.mono hs10)
      have hs11 := hB11.size
      clear hoy10 hrl10 hB10 hb11 hcut hslc
      go_wp2_with fail
      refine (likeTexts_same vy vl l w11 (rd_owns hoy11) hrl11 (by omega)).mono ?_
      rintro e w12 ⟨rfl, hb12⟩
      have hB12 := hB11.trans (hb12.mono hs11)
      clear hoy11 hrl11 hB11 hb12
      go_wp2
      go_ret
      exact ⟨rfl, hB12⟩

end Go.Proofs.Ytfoncmeplofedaa.fnTexts
