/- The document's own whole and sign. -/
import Derived.Test.YtinofdmdfhklpaaDoorRefSmall
namespace Go.Proofs.YtinofdmdfhklpaaDoor
open Go.RowKit
set_option linter.unusedVariables false

theorem digs_at (x : List UInt8) (h : allDg x) (j : Nat) (hj : j < x.length) : 48 ≤ (x.getD j 0).toNat ∧ (x.getD j 0).toNat ≤ 57 := by
  have : x.getD j 0 ∈ x := by simp [List.getD, List.getElem?_eq_getElem hj]
  exact h _ this

theorem val_19 (x : List UInt8) (h : allDg x) (k : Nat) (hk : k ≤ x.length) (h19 : x.length ≤ 19) : decVal (x.take k) < 10 ^ 19 := by
  have := val_lt x k hk (fun j hj => digs_at x h j (by omega))
  exact Nat.lt_of_lt_of_le this (Nat.pow_le_pow_right (by decide) (by omega))

theorem many_digits (x : List UInt8) (h : allDg x) (h19 : 19 < x.length) (h0 : ¬ (x.getD 0 0).toNat = 48) : 9223372036854775807 < decVal x := by
  obtain ⟨n, hn⟩ : ∃ n, x.length = n + 20 := ⟨x.length - 20, by omega⟩
  have hg : ∀ j, j < x.length → 48 ≤ (x.getD j 0).toNat ∧ (x.getD j 0).toNat ≤ 57 := fun j hj => digs_at x h j hj
  have := val_ge x (by omega) hg (fun e => absurd e h0) (n + 19) (by omega)
  rw [List.take_of_length_le (by omega)] at this
  refine Nat.lt_of_lt_of_le ?_ this
  exact Nat.lt_of_lt_of_le (show 9223372036854775807 < 10 ^ 19 by decide) (Nat.pow_le_pow_right (by decide) (by omega))

set_option maxRecDepth 100000 in
set_option maxHeartbeats 800000 in
theorem whole_any (S : ByteArray) (w : World) (hp : 0 < S.size) (hmax : S.size ≤ 1099511627776) (hd : allDg (bytes S)) :
    Calls Tryd.prog 37 #[.string S] w fun e w' => WholePost (bytes S) e ∧ w' = w := by
  have hgi := good_iff (bytes S) hd (by rw [bytes_length]; exact hp)
  rw [bytes_length, bytes_at S 0 hp] at hgi
  obtain ⟨c0, hc0⟩ : ∃ c0 : Nat, S[0].toNat = c0 := ⟨_, rfl⟩
  rw [hc0] at hgi
  by_cases h19 : 19 < S.size
  · have hno : ¬ GoodDec (bytes S) := by
      intro g
      have h1 := hgi.1 g
      by_cases h48 : c0 = 48
      · have := h1.1 h48; omega
      · have := many_digits (bytes S) hd (by rw [bytes_length]; exact h19) (by rw [bytes_at S 0 hp, hc0]; exact h48)
        omega
    clear hgi
    go_enter Tryd.func37, Tryd.ntmps37
    go_wp2
    go_ret2
    exact ⟨.inr ⟨hno, 0, by omega, rfl⟩, rfl⟩
  · by_cases hz : c0 = 48 ∧ 1 < S.size
    · obtain ⟨h1, h2⟩ := hz
      have hno : ¬ GoodDec (bytes S) := by intro g; have := (hgi.1 g).1 h1; omega
      have hc' : (c0 : Int) = 48 := by omega
      clear hgi
      go_enter Tryd.func37, Tryd.ntmps37
      go_wp2
      go_ret2
      exact ⟨.inr ⟨hno, 0, by omega, rfl⟩, rfl⟩
    · have hz' : decide (1 < (S.size : Int)) = true ∧ ((c0 : Int) == 48) = false ∨ decide (1 < (S.size : Int)) = false := by
        by_cases h : 1 < S.size
        · left
          refine ⟨by simp; omega, ?_⟩
          rw [beq_eq_false_iff_ne]
          intro h48
          exact hz ⟨by omega, h⟩
        · right; simp; omega
      have hone : c0 = 48 → S.size = 1 := fun h => by
        have : ¬ 1 < S.size := fun h2 => hz ⟨h, h2⟩
        omega
      have hV19 : decVal (bytes S) < 10 ^ 19 := by
        have := val_19 (bytes S) hd S.size (by rw [bytes_length]; omega) (by rw [bytes_length]; omega)
        rwa [List.take_of_length_le (by rw [bytes_length]; omega)] at this
      have HV : ∀ k, k ≤ S.size → decVal ((bytes S).take k) < 10 ^ 19 := fun k hk => val_19 (bytes S) hd k (by rw [bytes_length]; exact hk) (by rw [bytes_length]; omega)
      have HDS : ∀ k (hk : k < S.size), 48 ≤ S[k].toNat ∧ S[k].toNat ≤ 57 ∧ decVal ((bytes S).take (k + 1)) = decVal ((bytes S).take k) * 10 + (S[k].toNat - 48) := fun k hk => by
        have h1 := digs_at (bytes S) hd k (by rw [bytes_length]; exact hk)
        rw [bytes_at S k hk] at h1
        have h2 := val_take (bytes S) k (by rw [bytes_length]; exact hk)
        rw [bytes_at S k hk] at h2
        exact ⟨h1.1, h1.2, h2⟩
      have HV' : Hid (∀ k, k ≤ S.size → decVal ((bytes S).take k) < 10 ^ 19) := HV
      have HDS' : Hid (∀ k (hk : k < S.size), 48 ≤ S[k].toNat ∧ S[k].toNat ≤ 57 ∧ decVal ((bytes S).take (k + 1)) = decVal ((bytes S).take k) * 10 + (S[k].toNat - 48)) := HDS
      have HGI : Hid (GoodDec (bytes S) ↔ decVal (bytes S) ≤ 9223372036854775807) := hgi.trans ⟨fun h => h.2, fun h => ⟨hone, h⟩⟩
      have HV19 : Hid (decVal (bytes S) < 10 ^ 19) := hV19
      have HDD : Hid (allDg (bytes S)) := hd
      clear HV HDS hgi hV19 hz hone hd
      rcases hz' with ⟨hz1, hz2⟩ | hz1
      all_goals
        go_enter Tryd.func37, Tryd.ntmps37
        go_wp2
        go_loopw [4, 5] (fun n j wr => ∃ (i N : Nat), n = .int .u64 (N : Int) ∧ j = .int .i64 (i : Int) ∧ i ≤ S.size ∧ Hid (N = decVal ((bytes S).take i)) ∧ wr = w) (fun _ j _ => S.size - (intOf j).toNat)
        case atStart => exact ⟨0, 0, rfl, rfl, by omega, rfl, rfl⟩
        case round =>
          obtain ⟨i, N, rfl, rfl, hi, hN, rfl⟩ := hrel
          by_cases hc : i < S.size
          · obtain ⟨h1, h2, h3⟩ := HDS'.out i hc
            have h4 := HV'.out (i + 1) (by omega)
            rw [h3, ← hN.out] at h4
            have hN' : Hid (N * 10 + (S[i].toNat - 48) = decVal ((bytes S).take (i + 1))) := by show _ = _; rw [h3, hN.out]
            obtain ⟨c, hcc⟩ : ∃ c : Nat, S[i].toNat = c := ⟨_, rfl⟩
            rw [hcc] at h1 h2 h4 hN'
            have hsub := dig_sub c h1 h2
            clear h3 hN
            have h5 : N * 10 + (c - 48) < 18446744073709551616 := Nat.lt_trans h4 (by decide)
            go_wp2
            go_roundw
            case rel => exact ⟨i + 1, N * 10 + (c - 48), by go_num, by go_num, by omega, hN', trivial⟩
            case measure => simp [intOf]; omega
          · have hfin : Hid (N = decVal (bytes S)) := by
              show _ = _
              rw [hN.out, List.take_of_length_le (by rw [bytes_length]; omega)]
            have h4 : N < 10 ^ 19 := by rw [hfin.out]; exact HV19.out
            by_cases hg : N ≤ 9223372036854775807
            · go_wp2
              go_ret2
              refine ⟨.inl ⟨HGI.out.2 (by rw [← hfin.out]; exact hg), ?_⟩, rfl⟩
              rw [← hfin.out]
              simp
              omega
            · go_wp2
              go_ret2
              refine ⟨.inr ⟨fun g => hg (by rw [hfin.out]; exact HGI.out.1 g), N, Nat.lt_trans h4 (by decide), ?_⟩, rfl⟩
              simp
              omega

end Go.Proofs.YtinofdmdfhklpaaDoor
