/- The landed Scan and One. -/
import Derived.Test.YtbehmclligkbhaaFsC
import Derived.Test.YtbehmclligkbhaaFrG
namespace Go.Proofs.Ytbehmclligkbhaa
open Go.RowKit
set_option linter.unusedVariables false
set_option maxRecDepth 100000
set_option maxHeartbeats 6400000

def lenV : Value → Nat
  | .slice _ n _ => n
  | _ => 0
/-- A list of rows, each in a block of its own. -/
def RsO (base : Nat) (w : World) (xs : List BT) : Prop := ∀ x ∈ xs, OwnX eB base w (.slice x.ad x.bs.length x.cp) x.bs
theorem RsO.below {base : Nat} {w w' : World} {xs : List BT} (h : RsO base w xs) (hb : Below w.heap.size w w') : RsO base w' xs := fun x hx => (h x hx).below hb
theorem RsO.in {base : Nat} {w : World} {xs : List BT} (h : RsO base w xs) : ∀ x ∈ xs, x.In w := fun x hx => by
  obtain ⟨a, c, e, hr, hc, hz⟩ := (h x hx).rowB
  injection e with e1 e2 e3
  subst e1 e3
  exact ⟨hr, hc, hz⟩
theorem row_newR (w : World) (t : BT) : RowX eR (w.alloc (.cells #[.slice t.ad t.bs.length t.cp] 22)) (some ⟨w.heap.size, 0, none⟩) [t] := by
  refine .inr ⟨_, 0, rfl, fun j v hj => ?_⟩
  have e : eR.flat [t] = [.slice t.ad t.bs.length t.cp] := rfl
  rw [e] at hj
  unfold World.cell?
  rw [_root_.Go.heap_alloc_new]
  match j, hj with
  | 0, hj => simpa using hj
theorem row_some {w : World} {a : Option Addr} {bs : List UInt8} (h : Row w a bs) (hl : bs.length ≠ 0) : ∃ ad, a = some ad := by
  rcases h with rfl | ⟨b, off, rfl, _⟩
  · exact absurd rfl hl
  · exact ⟨_, rfl⟩
theorem scan_any (a : Option Addr) (n c : Nat) (bs : List UInt8) (w : World) (hr : Row w a bs) (hn : n = bs.length) (hc : n ≤ c) (hl : n ≤ 1099511627776) :
    Calls Try.prog 10 #[.slice a n c] w fun r w' => ∃ a2 c2 xs, r = .returned (.tuple #[.slice a2 xs.length c2, .int .i64 ((scanL bs).2.1 : Int), .int .i64 ((scanL bs).2.2 : Int)]) ∧ LB w' a2 xs ∧ bss xs = (scanL bs).1 ∧ xs.length ≤ c2 ∧ Below w.heap.size w w' := by
  have HR := hidU hr
  have HN := hidU hn
  obtain ⟨SS, hSS⟩ : ∃ x, Hid (x = scanL bs) := ⟨_, (rfl : scanL bs = _)⟩
  rw [← hSS.out]
  clear hr hn
  go_enter Try.func10, Try.ntmps10
  go_wp2
  go_loopw [5, 6] (fun v5 v6 wr => ∃ (k m lc : Nat) (la : Option Addr) (xs : List BT), v6 = .slice la m lc ∧ k + m = n ∧ m ≤ lc ∧ 12 * xs.length ≤ k ∧ Hid (Row w la (bs.drop k)) ∧ Hid (Below w.heap.size w wr) ∧ Hid (OwnX eR w.heap.size wr v5 xs) ∧ Hid (RsO w.heap.size wr xs) ∧ Hid (bss xs ++ (scanL (bs.drop k)).1 = SS.1 ∧ k + (scanL (bs.drop k)).2.1 = SS.2.1 ∧ (scanL (bs.drop k)).2.2 = SS.2.2)) (fun _ v6 _ => lenV v6)
  case atStart => exact ⟨0, n, c, a, [], rfl, by omega, hc, by simp, HR.out, Below.refl _ _, OwnX.nil _ _ _, (fun x hx => by cases hx), by show _ ∧ _ ∧ _; rw [hSS.out]; simp [bss]⟩
  case round =>
    obtain ⟨k, m, lc, la, xs, rfl, hkm, hmc, hxk, hRow, hB, hO, hX, hS⟩ := hrel
    have hm : m = (bs.drop k).length := by rw [List.length_drop, ← HN.out]; omega
    have HF := hidU (front_any la m lc (bs.drop k) wr (hRow.out.below hB.out) hm hmc (by omega))
    obtain ⟨a5, c5, rfl, hx5, _, hz5, _, hr5⟩ := hO.out.row
    by_cases hh : how (bs.drop k) = 3
    · obtain ⟨q1, q2, q3, q4, q5⟩ := how_go hh
      have hgo := scan_go hh
      obtain ⟨A, hA⟩ : ∃ x, Hid (x = num4 (bs.drop k) 0) := ⟨_, (rfl : num4 (bs.drop k) 0 = _)⟩
      rw [← hA.out] at q3 q4 hgo
      obtain ⟨R, hR⟩ : ∃ x, Hid (x = ((bs.drop k).drop 8).take A) := ⟨_, (rfl : ((bs.drop k).drop 8).take A = _)⟩
      rw [← hR.out] at hgo
      have hS2 : Hid (bss xs ++ (R :: (scanL (bs.drop (k + (A + 12)))).1) = SS.1 ∧ k + (A + 12) + (scanL (bs.drop (k + (A + 12)))).2.1 = SS.2.1 ∧ (scanL (bs.drop (k + (A + 12)))).2.2 = SS.2.2) := by
        obtain ⟨s1, s2, s3⟩ := hS.out
        rw [hgo] at s1 s2 s3
        rw [List.drop_drop] at s1 s2 s3
        exact ⟨s1, (Nat.add_assoc _ _ _).trans s2, s3⟩
      obtain ⟨ad, rfl⟩ := row_some hRow.out (by omega)
      have HF1 : Hid (Calls Try.prog 28 #[.slice (some ad) m lc] wr fun r w' => r = .returned (.tuple #[.slice (some ad) (A + 12) (A + 12), .int .i64 0]) ∧ w' = wr) := by
        have h := HF.out
        rw [if_pos hh, ← hA.out] at h
        exact h
      have HRec := hidU (record_any (some ad) A (bs.drop k) wr (hRow.out.below hB.out) q3 (by omega))
      rw [← hR.out] at HRec
      have hq := fun w => (Lib.run_eql_slice_nil w 22 _ (some ad) (A + 12) (A + 12) 0 0 Try.underlying22 : (binOp .eql 22 (.slice (some ad) (A + 12) (A + 12)) (.slice none 0 0)).run Try.prog w = .ok (.bool false) w)
      have hs := fun w => run_slice_l22 w (some ad) m lc (A + 12) ((A : Int) + 12) (by omega) (by omega)
      have hAm : A + 12 ≤ m := by omega
      have hRow2 : Hid (Row w (dropA (some ad) lc (A + 12)) (bs.drop (k + (A + 12)))) := by
        have := hRow.out.dropA lc (A + 12) (by omega) (by omega)
        rwa [List.drop_drop] at this
      have HA6 := hidU q3
      clear HF hh hgo q1 q2 q3 q4 q5 hS hm hA hR
      go_wp2_with (go_at_call 28; refine HF1.out.mono ?_; rintro _ w1 ⟨rfl, rfl⟩; refine Hid.out ?_)
      refine hidU ?_
      clear HF1
      go_wp2_with (go_at_call 29; refine HRec.out.mono ?_; rintro _ w2 ⟨vr, rfl, ho, hb⟩; refine Hid.out ?_)
      refine hidU ?_
      have HB2 := hidU (hB.out.trans (hb.mono hB.out.size))
      have HO2 := hidU (hO.out.below hb)
      have HX2 := hidU (hX.out.below hb)
      have HV := hidU (ho.less hB.out.size)
      clear ho hb HRec hO hX
      obtain ⟨ra, rc, rfl, hrr, hrc, hrz⟩ := HV.out.rowB
      have HBa : Hid (Below w2.heap.size w2 (w2.alloc (.cells #[.slice ra R.length rc] 22))) := (Below.refl _ w2).alloc (Nat.le_refl _) _
      have HB3 := hidU (HB2.out.trans (HBa.out.mono HB2.out.size))
      have HO3 := hidU (HO2.out.below HBa.out)
      have HX3 := hidU (HX2.out.below HBa.out)
      have HV3 := hidU (HV.out.below HBa.out)
      clear hrr hrc hrz HO2 HX2 HV HBa hB
      go_wp2_with (refine wpList_appX eR rfl (.tmp 24) (.tmp 27) rfl w.heap.size _ (some ⟨w2.heap.size, 0, none⟩) 1 1 rfl rfl HO3.out rfl (fun q => by cases q) (Nat.le_refl _) (row_newR w2 ⟨ra, R, rc⟩) (by unfold maxLen; omega) (by show (xs.length + 1) * 24 ≤ _; omega) HB3.out.size ?_; intro v5' w3 ho5 hg5; refine Hid.out ?_)
      refine hidU ?_
      have HO4 := hidU ho5
      have HB4 : Hid (Below w.heap.size w w3) := HB3.out.grown hg5 HB3.out.size fun k hk => (HO3.out.block k hk).1
      have HX4 : Hid (RsO w.heap.size w3 (xs ++ [⟨ra, R, rc⟩])) := fun x hx => by
        rcases List.mem_append.1 hx with h | h
        · exact (HX3.out x h).grown HO3.out (show (5 : Nat) ≠ 22 by decide) hg5
        · rw [List.mem_singleton] at h
          subst h
          exact HV3.out.grown HO3.out (show (5 : Nat) ≠ 22 by decide) hg5
      clear ho5 hg5 HO3 HX3 HV3 HB3
      go_wp2
      go_roundw
      · exact ⟨k + (A + 12), m - (A + 12), lc - (A + 12), dropA (some ad) lc (A + 12), xs ++ [⟨ra, R, rc⟩], rfl, by omega, by omega, by rw [List.length_append, List.length_singleton]; omega, hRow2, HB4, HO4, HX4, by
          obtain ⟨s1, s2, s3⟩ := hS2.out
          refine ⟨?_, s2, s3⟩
          rw [← s1]
          simp [bss]⟩
      · simp [lenV]; omega
    · have hst := scan_stop hh
      have hle := how_le (bs.drop k)
      have HF1 : Hid (Calls Try.prog 28 #[.slice la m lc] wr fun r w' => r = .returned (.tuple #[.slice none 0 0, .int .i64 (how (bs.drop k) : Int)]) ∧ w' = wr) := by
        have h := HF.out
        rw [if_neg hh] at h
        exact h
      obtain ⟨H, hH⟩ : ∃ x, Hid (x = how (bs.drop k)) := ⟨_, (rfl : how (bs.drop k) = _)⟩
      rw [← hH.out] at HF1 hst
      have hS2 : Hid (bss xs = SS.1 ∧ k = SS.2.1 ∧ H = SS.2.2) := by
        obtain ⟨s1, s2, s3⟩ := hS.out
        rw [hst] at s1 s2 s3
        exact ⟨by simpa using s1, s2, s3⟩
      have hq := fun w => (Lib.run_eql_slice_nil w 22 _ none 0 0 0 0 Try.underlying22 : (binOp .eql 22 (.slice none 0 0) (.slice none 0 0)).run Try.prog w = .ok (.bool true) w)
      clear HF hh hst hle hS hm hH
      go_wp2_with (go_at_call 28; refine HF1.out.mono ?_; rintro _ w1 ⟨rfl, rfl⟩; refine Hid.out ?_)
      refine hidU ?_
      clear HF1
      go_wp2
      go_ret3
      exact ⟨a5, c5, xs, by rw [← hS2.out.2.1, ← hS2.out.2.2, show (k : Int) = (n : Int) - (m : Int) by omega]; rfl, ⟨hr5, hX.out.in⟩, hS2.out.1, hx5, hB.out⟩
end Go.Proofs.Ytbehmclligkbhaa
