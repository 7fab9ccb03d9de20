/- octet.ReadFields: the fields of a text, each a copy in a block of its own. -/
import Derived.Test.YtjjojlfhliecnabInner
namespace Go.Proofs.Ytjjojlfhliecnab
open Go.RowKit
set_option linter.unusedVariables false

/-- Slices in blocks of their own, no two in one. -/
def InL (base : Nat) (w : World) (L : List (Nat × Nat × List UInt8)) : Prop := (∀ x ∈ L, InB base w x) ∧ L.Pairwise (fun x y => x.1 ≠ y.1)

theorem InL.nil (base : Nat) (w : World) : InL base w [] := ⟨(fun x hx => by cases hx), List.Pairwise.nil⟩

theorem InL.snoc {base : Nat} {w w' : World} {L : List (Nat × Nat × List UInt8)} {x : Nat × Nat × List UInt8} (h : InL base w L) (hk : ∀ g cs, Blk w g cs → Blk w' g cs) (hx : InB base w' x) (hnew : w.heap.size ≤ x.1) : InL base w' (L ++ [x]) := by
  refine ⟨fun y hy => ?_, ?_⟩
  · rcases List.mem_append.1 hy with h1 | h1
    · have := h.1 y h1
      exact ⟨this.1, this.2.1, hk _ _ this.2.2⟩
    · simp at h1; subst h1; exact hx
  · rw [List.pairwise_append]
    refine ⟨h.2, by simp, fun a ha b hb => ?_⟩
    simp at hb
    subst hb
    have := (h.1 a ha).2.2.lt
    omega

theorem InL.kept {base : Nat} {w w' : World} {L : List (Nat × Nat × List UInt8)} (h : InL base w L) (hk : ∀ g cs, Blk w g cs → Blk w' g cs) : InL base w' L :=
  ⟨fun y hy => ⟨(h.1 y hy).1, (h.1 y hy).2.1, hk _ _ (h.1 y hy).2.2⟩, h.2⟩

theorem kept_below {w w' : World} (hb : Below w.heap.size w w') : ∀ g cs, Blk w g cs → Blk w' g cs := fun g cs h => h.below hb

theorem readShort_row (a : Option Addr) (n cap : Nat) (bs : List UInt8) (w : World) (hrow : Row w a bs) (hn : bs.length = n) (hmax : n ≤ 1099511627776) :
    Calls Try.prog 6 #[.slice a n cap] w fun e w' => (∃ (m k : Nat) (g : Int), e = .returned (.tuple #[.int .u64 m, .int .i64 k, .int .i64 g]) ∧ Hid ((g = 0 ∧ ReadsAs bs m k) ∨ (g = 4 ∧ m = 0 ∧ k = 0 ∧ ∀ n k, ¬ ReadsAs bs n k))) ∧ w' = w := by
  subst hn
  exact readShort_all a cap bs w hrow hmax

set_option maxRecDepth 100000 in
set_option maxHeartbeats 3200000 in
theorem readFields_full (b off cap : Nat) (bs : List UInt8) (w : World) (hrow : Row w (some ⟨b, off, none⟩) bs) (hcap : bs.length ≤ cap) (hmax : bs.length ≤ 1048576) :
    Calls Try.prog 11 #[.slice (some ⟨b, off, none⟩) bs.length cap] w fun e w' => (∃ v L, ReadsF bs (L.map fldOf) ∧ e = .returned (.tuple #[v, .int .i64 0]) ∧ OwnL w.heap.size w' v (L.map valOf) ∧ InL w.heap.size w' L ∧ Below w.heap.size w w') ∨ ((∀ fs, ¬ ReadsF bs fs) ∧ e = .returned (.tuple #[.slice none 0 0, .int .i64 4]) ∧ Below w.heap.size w w') := by
  go_enter Try.func11, Try.ntmps11
  go_wp2_with fail
  refine (readShort_row _ _ _ bs _ hrow rfl (by omega)).mono ?_
  rintro e w1 ⟨⟨count, size, g, rfl, hK⟩, rfl⟩
  rcases hK.out with ⟨rfl, hr⟩ | ⟨rfl, rfl, rfl, hno⟩
  · have hsl : size ≤ bs.length := hr.2.1
    have hc64 : count < 18446744073709551616 := hr.1
    have HSO : Hid (Sofar bs count [] (bs.drop size)) := sofar_start hmax hr
    have HR : Hid (ReadsAs bs count size) := hr
    clear hK hr
    by_cases hmany : 4096 < count
    · have HNO : Hid (∀ fs, ¬ ReadsF bs fs) := fun fs h => by
        have := (HSO.out.2.2 fs h.1).1
        have := h.2.1
        omega
      go_wp2
      go_ret2
      exact .inr ⟨HNO.out, rfl, Below.refl _ _⟩
    · have hs2 := fun W => run_slice_from_k W b off bs.length cap size .i64 (size : Int) rfl hsl hcap
      obtain ⟨off1, hoff1⟩ : ∃ o, o = if cap = size then off else off + size := ⟨_, rfl⟩
      have HROW1 : Hid (Row w1 (some ⟨b, off1, none⟩) (bs.drop size)) := by rw [hoff1]; exact row_from hrow hsl hcap
      rw [← hoff1] at hs2
      clear hoff1
      go_wp2
      go_loopw [7, 8, 31] (fun t v i wr => ∃ (L : List (Nat × Nat × List UInt8)) (R : List UInt8) (ro rn rc : Nat), t = .slice (some ⟨b, ro, none⟩) rn rc ∧ R.length = rn ∧ rn ≤ rc ∧ rn ≤ bs.length ∧ i = .int .u64 (L.length : Nat) ∧ L.length ≤ count ∧ Hid (Row w1 (some ⟨b, ro, none⟩) R) ∧ Hid (Sofar bs count (L.map fldOf) R) ∧ OwnL w1.heap.size wr v (L.map valOf) ∧ InL w1.heap.size wr L ∧ Below w1.heap.size w1 wr)
        (fun _ _ i _ => count - (intOf i).toNat)
      case atStart => exact ⟨[], bs.drop size, off1, bs.length - size, cap - size, rfl, by simp, by omega, by omega, rfl, by simp, HROW1, HSO, World.ownsRow_nil _ _ _ _, InL.nil _ _, Below.refl _ _⟩
      case round =>
        obtain ⟨L, R, ro, rn, rc, rfl, hRn, hrc, hrb, rfl, hLc, hrowR, hso, hown, hin, hbel⟩ := hrel
        have HRN : Hid (R.length = rn) := hRn
        clear hRn
        obtain ⟨len, hlenL⟩ : ∃ n, n = L.length := ⟨_, rfl⟩
        have HLEN : Hid (len = L.length) := hlenL
        by_cases hlt : L.length < count
        · go_wp2_with fail
          refine (readShort_row _ _ _ R _ (hrowR.out.below hbel) HRN.out (by omega)).mono ?_
          rintro e w2 ⟨⟨n, k, g, rfl, hK⟩, rfl⟩
          rcases hK.out with ⟨rfl, hr⟩ | ⟨rfl, rfl, rfl, hno⟩
          · have hkl : k ≤ rn := by rw [← HRN.out]; exact hr.2.1
            have hn64 : n < 18446744073709551616 := hr.1
            have HR2 : Hid (ReadsAs R n k) := hr
            clear hK hr
            by_cases hnl : n ≤ rn - k
            · have hs3 := fun W => run_slice_from_k W b ro rn rc k .i64 (k : Int) rfl hkl hrc
              obtain ⟨ro1, hro1⟩ : ∃ o, o = if rc = k then ro else ro + k := ⟨_, rfl⟩
              have HROW2 : Hid (Row w1 (some ⟨b, ro1, none⟩) (R.drop k)) := by rw [hro1]; exact row_from hrowR.out (by rw [HRN.out]; exact hkl) (by rw [HRN.out]; exact hrc)
              rw [← hro1] at hs3
              have hs4 := fun W => run_slice_to_k W (some ⟨b, ro1, none⟩) (rn - k) (rc - k) n .u64 (n : Int) rfl (by omega)
              have hs5 := fun W => run_slice_from_k W b ro1 (rn - k) (rc - k) n .u64 (n : Int) rfl hnl (by omega)
              obtain ⟨ro2, hro2⟩ : ∃ o, o = if rc - k = n then ro1 else ro1 + n := ⟨_, rfl⟩
              have HROW3 : Hid (Row w1 (some ⟨b, ro2, none⟩) ((R.drop k).drop n)) := by rw [hro2]; exact row_from HROW2.out (by rw [List.length_drop, HRN.out]; exact hnl) (by rw [List.length_drop, HRN.out]; omega)
              rw [← hro2] at hs5
              have hrowT := (HROW2.out.below hbel).take n
              have HTL : Hid (((R.drop k).take n).length = n) := by show _ = _; rw [List.length_take, List.length_drop, HRN.out]; omega
              have HSO2 : Hid (Sofar bs count (L.map fldOf ++ [(R.drop k).take n]) ((R.drop k).drop n)) := sofar_step hso.out (by rw [List.length_map]; exact hlt) hmax HR2.out (by rw [HRN.out]; exact hnl)
              clear hro1 hro2 hrowR hso HR2 HROW2
              obtain ⟨F, hF⟩ : ∃ F, F = (R.drop k).take n := ⟨_, rfl⟩
              rw [← hF] at hrowT HTL HSO2
              clear hF
              go_wp2_with (first | (at_builtin; refine appFresh2 (.tmp 54) (.tmp 57) _ _ _ F rfl rfl rfl rfl hrowT HTL.out rfl (by omega) ?_))
              intro g C w3 HF hInB hb3
              have hown3 : OwnL w1.heap.size w3 u8 (L.map valOf) := owns_below hown hb3
              have hin3 := hin.kept (kept_below hb3)
              have hW3 : Below w1.heap.size w1 w3 := hbel.trans (hb3.mono hbel.size)
              have hsz3 := hW3.size
              have hLl : (L.map valOf).length ≤ 1048576 := by rw [List.length_map]; omega
              have hkeep3 := kept_below hb3
              have hszr := hbel.size
              clear hown hbel hrowT hb3
              go_wp2_with (first | (at_builtin; refine appL (.tmp 53) (.tmp 59) _ (g, n, C) w1.heap.size _ (L.map valOf) rfl rfl rfl rfl hown3 rfl hLl hsz3 ?_))
              intro v' w4 hown4 hb4 hkeep4
              have hW4 := hW3.trans hb4
              have hin4 : InL w1.heap.size w4 (L ++ [(g, n, C)]) := hin.snoc (fun g' cs h => hkeep4 _ _ (hkeep3 _ _ h)) ⟨Nat.le_trans hszr hInB.1, hInB.2.1, hkeep4 _ _ hInB.2.2⟩ hInB.1
              have HOWN4 : Hid (OwnL w1.heap.size w4 v' ((L ++ [(g, n, C)]).map valOf)) := by show OwnL _ _ _ _; rw [List.map_append]; exact hown4
              have HSO3 : Hid (Sofar bs count ((L ++ [(g, n, C)]).map fldOf) ((R.drop k).drop n)) := by
                show Sofar _ _ _ _
                rw [List.map_append, List.map_singleton, HF.out]
                exact HSO2.out
              clear hown3 hin3 hW3 hb4 hkeep3 hkeep4 hown4 hin
              go_wp2
              go_roundw
              case rel => exact ⟨L ++ [(g, n, C)], (R.drop k).drop n, ro2, rn - k - n, rc - k - n, rfl, by rw [List.length_drop, List.length_drop, HRN.out], by omega, by omega, by simp, by rw [List.length_append, List.length_singleton]; omega, HROW3, HSO3, HOWN4, hin4, hW4⟩
              case measure => simp [intOf]; omega
            · have HNO : Hid (∀ fs, ¬ ReadsF bs fs) := sofar_fail hso.out (by rw [List.length_map]; exact hlt) hmax (fun n' k' h' => by
                obtain ⟨e1, e2⟩ := reads_one h' HR2.out
                rw [e1, e2, HRN.out]; omega)
              go_wp2
              go_ret2
              exact .inr ⟨HNO.out, rfl, hbel⟩
          · have HNO : Hid (∀ fs, ¬ ReadsF bs fs) := sofar_fail hso.out (by rw [List.length_map]; exact hlt) hmax (fun n' k' h' => absurd h' (hno _ _))
            clear hno hK
            go_wp2
            go_ret2
            exact .inr ⟨HNO.out, rfl, hbel⟩
        · have hend := sofar_end hso.out (by rw [List.length_map]; omega)
          by_cases hr0 : rn = 0
          · have HT : Hid (ReadsF bs (L.map fldOf)) := ⟨hend.1 (List.eq_nil_of_length_eq_zero (by rw [HRN.out]; exact hr0)), by rw [List.length_map]; omega, hmax⟩
            clear hend
            subst hr0
            go_wp2
            go_ret2
            exact .inl ⟨_, L, HT.out, rfl, hown, hin, hbel⟩
          · have HNO : Hid (∀ fs, ¬ ReadsF bs fs) := hend.2 (fun h => by have := HRN.out; rw [h] at this; simp at this; omega)
            clear hend
            have hr0' : 0 < rn := by omega
            go_wp2
            go_ret2
            exact .inr ⟨HNO.out, rfl, hbel⟩
  · have HNO : Hid (∀ fs, ¬ ReadsF bs fs) := fun fs h => by
      have hl : fs.length < 18446744073709551616 := by have := h.2.1; omega
      have := reads_short fs.length hl (enc fs)
      rw [show short 9 fs.length ++ enc fs = bs from h.1] at this
      exact hno _ _ this
    clear hno hK
    go_wp2
    go_ret2
    exact .inr ⟨HNO.out, rfl, Below.refl _ _⟩

end Go.Proofs.Ytjjojlfhliecnab
