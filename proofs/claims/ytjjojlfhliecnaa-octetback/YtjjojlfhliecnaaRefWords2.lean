/- The document's own Words: the words of a line. -/
import Derived.Test.YtjjojlfhliecnaaRefWords
namespace Go.Proofs.Ytjjojlfhliecnaa
open Go.RowKit
set_option linter.unusedVariables false

/-- A list of words with more ahead of the first one. -/
def addH (cur : List UInt8) (L : List (List UInt8)) : List (List UInt8) := (cur ++ L.headD []) :: L.tail

theorem addH_nil (l : List UInt8) : addH [] (splitB l) = splitB l := splitB_cons l

theorem addH_step (cur l : List UInt8) (c : UInt8) (h : c.toNat ≠ 32) : addH cur (splitB (c :: l)) = addH (cur ++ [c]) (splitB l) := by
  simp [addH, splitB, h]

theorem addH_blank (cur l : List UInt8) (c : UInt8) (h : c.toNat = 32) : addH cur (splitB (c :: l)) = cur :: splitB l := by
  simp [addH, splitB, h]

theorem addH_end (cur : List UInt8) : addH cur (splitB []) = [cur] := by simp [addH, splitB]

theorem line_of_empty {l : List UInt8} {ws L : List (List UInt8)} (h : ws ++ ([] :: L) = splitB l) : lineOk true l = false := by
  cases hl : lineOk true l with
  | false => rfl
  | true =>
    have := ((lineOk_iff l).1.1 hl).2 [] (by rw [← h]; simp)
    exact absurd rfl this

theorem line_of_odd {l : List UInt8} (k : Nat) (hk : k < l.length) (h : (l.getD k 0).toNat < 32 ∨ 126 < (l.getD k 0).toNat) : lineOk true l = false := by
  cases hl : lineOk true l with
  | false => rfl
  | true =>
    have hm : l.getD k 0 ∈ l := by
      simp [List.getD, List.getElem?_eq_getElem hk]
    have := ((lineOk_iff l).1.1 hl).1 _ hm
    omega

theorem line_yes {l : List UInt8} (h1 : ∀ j, j < l.length → 32 ≤ (l.getD j 0).toNat ∧ (l.getD j 0).toNat ≤ 126) (h2 : ∀ w ∈ splitB l, w ≠ []) : lineOk true l = true := by
  refine (lineOk_iff l).1.2 ⟨fun c hc => ?_, h2⟩
  obtain ⟨j, hj, rfl⟩ := List.getElem_of_mem hc
  have := h1 j hj
  simpa [List.getD, List.getElem?_eq_getElem hj] using this

theorem cat_snoc (l : List UInt8) (x : UInt8) : (⟨l.toArray⟩ ++ ⟨#[x]⟩ : ByteArray) = ⟨(l ++ [x]).toArray⟩ := by
  apply ByteArray.ext
  simp

theorem cut_one (s : ByteArray) (k : Nat) (h : k < s.size) : s.extract k (k + 1) = ⟨#[s[k]]⟩ := by
  apply ByteArray.ext
  apply Array.toList_inj.1
  rw [Lib.extract_data]
  have hl : k < s.data.toList.length := by simpa using h
  rw [List.drop_eq_getElem_cons hl]
  simp
  rfl

theorem bytes_drop (s : ByteArray) (k : Nat) (h : k < s.size) : (bytes s).drop k = s[k] :: (bytes s).drop (k + 1) := by
  rw [List.drop_eq_getElem_cons (show k < (bytes s).length by rw [bytes_length]; exact h)]
  congr 1

set_option maxRecDepth 100000 in
set_option maxHeartbeats 3200000 in
theorem refWords_any (s : ByteArray) (w : World) (hs : s.size ≤ 268435456) :
    Calls Try.prog 30 #[.string s] w fun e w' => ∃ (ws : List (List UInt8)) (v : Value) (E : Int), e = .returned (.tuple #[v, .int .i64 E]) ∧ WordsIs (bytes s) ws E ∧ OwnS w.heap.size w' v ws ∧ Below w.heap.size w w' := by
  go_enter Try.func30, Try.ntmps30
  go_wp2
  go_loop [4] (fun i => ∃ k : Nat, k ≤ s.size ∧ i = .int .i64 k ∧ Hid (∀ j, j < k → 32 ≤ ((bytes s).getD j 0).toNat ∧ ((bytes s).getD j 0).toNat ≤ 126)) (fun i => s.size - (intOf i).toNat)
  case atStart => exact ⟨0, Nat.zero_le _, rfl, fun j hj => by omega⟩
  case round =>
    obtain ⟨k, hk, rfl, hpl⟩ := hrel
    by_cases hlt : k < s.size
    · obtain ⟨c, hc⟩ : ∃ c : Nat, s[k].toNat = c := ⟨_, rfl⟩
      have HC : Hid (((bytes s).getD k 0).toNat = c) := by show _ = _; rw [bytes_at s k hlt]; exact hc
      have hcl : c < 256 := by rw [← hc]; exact UInt8.toNat_lt _
      by_cases h32 : c < 32
      · have HF : Hid (lineOk true (bytes s) = false) := line_of_odd k (by rw [bytes_length]; exact hlt) (by rw [HC.out]; exact .inl h32)
        go_wp2
        go_ret2
        exact ⟨[], _, 4, rfl, .inl ⟨HF.out, rfl, rfl⟩, OwnS.nil _ _, Below.refl _ _⟩
      · have g1 : decide ((c : Int) < 32) = false := by simp; omega
        by_cases h126 : 126 < c
        · have HF : Hid (lineOk true (bytes s) = false) := line_of_odd k (by rw [bytes_length]; exact hlt) (by rw [HC.out]; exact .inr h126)
          go_wp2
          go_ret2
          exact ⟨[], _, 4, rfl, .inl ⟨HF.out, rfl, rfl⟩, OwnS.nil _ _, Below.refl _ _⟩
        · have HP : Hid (∀ j, j < k + 1 → 32 ≤ ((bytes s).getD j 0).toNat ∧ ((bytes s).getD j 0).toNat ≤ 126) := by
            intro j hj
            rcases Nat.lt_or_ge j k with h | h
            · exact hpl.out j h
            · have : j = k := by omega
              subst this
              rw [HC.out]; omega
          clear hpl
          go_wp2
          go_round
          case rel => exact ⟨k + 1, by omega, by go_num, HP⟩
          case measure => simp [intOf]; omega
    · have HP : Hid (∀ j, j < (bytes s).length → 32 ≤ ((bytes s).getD j 0).toNat ∧ ((bytes s).getD j 0).toNat ≤ 126) := by
        intro j hj
        rw [bytes_length] at hj
        exact hpl.out j (by omega)
      clear hpl
      go_wp2
      go_loopw [5, 6, 7] (fun v t i wr => ∃ (ws : List (List UInt8)) (cur : List UInt8) (m : Nat), m ≤ s.size + 1 ∧ i = .int .i64 m ∧ t = .string ⟨cur.toArray⟩ ∧ ws.length + cur.length ≤ m ∧ OwnS w.heap.size wr v ws ∧ Below w.heap.size w wr ∧ Hid (∀ x ∈ ws, x ≠ []) ∧ Hid (m ≤ s.size → ws ++ addH cur (splitB ((bytes s).drop m)) = splitB (bytes s)) ∧ Hid (m = s.size + 1 → ws = splitB (bytes s)))
        (fun _ _ i _ => s.size + 1 - (intOf i).toNat)
      case atStart => exact ⟨[], [], 0, by omega, rfl, rfl, by simp, OwnS.nil _ _, Below.refl _ _, (fun x hx => by cases hx), (fun _ => by simp [addH_nil]), fun h => by omega⟩
      case round =>
        obtain ⟨ws, cur, m, hm, rfl, rfl, hlen, hown, hbel, hne, hsp, hend⟩ := hrel
        have hsz := hbel.size
        by_cases hms : m < s.size
        · obtain ⟨cb, hcb⟩ : ∃ cb, s[m] = cb := ⟨_, rfl⟩
          have hcut := cut_one s m hms
          rw [hcb] at hcut
          have hspm := hsp.out (by omega)
          rw [bytes_drop s m hms, hcb] at hspm
          obtain ⟨c, hc⟩ : ∃ c : Nat, cb.toNat = c := ⟨_, rfl⟩
          have hcl : c < 256 := by rw [← hc]; exact UInt8.toNat_lt _
          by_cases h32 : c = 32
          · have g1 : ((c : Int) != 32) = false := by rw [bne_eq_false_iff_eq]; omega
            rw [addH_blank _ _ _ (by rw [hc]; exact h32)] at hspm
            have HSP : Hid (ws ++ cur :: splitB ((bytes s).drop (m + 1)) = splitB (bytes s)) := hspm
            clear hspm hsp hend h32
            by_cases hcur : cur = []
            · subst hcur
              have HF : Hid (lineOk true (bytes s) = false) := line_of_empty HSP.out
              go_wp2
              go_ret2
              exact ⟨[], _, 4, rfl, .inl ⟨HF.out, rfl, rfl⟩, OwnS.nil _ _, hbel⟩
            · have g2 : cur.isEmpty = false := by simpa using hcur
              have HW : Hid (∀ x ∈ ws ++ [cur], x ≠ []) := by
                intro x hx
                rcases List.mem_append.1 hx with h | h
                · exact hne.out x h
                · simp at h; subst h; exact hcur
              have HA : Hid ((ws ++ [cur]) ++ addH [] (splitB ((bytes s).drop (m + 1))) = splitB (bytes s)) := by show _ = _; rw [addH_nil, ← HSP.out]; simp
              have hcl1 : 1 ≤ cur.length := by
                rcases Nat.eq_zero_or_pos cur.length with h | h
                · exact absurd (List.eq_nil_of_length_eq_zero h) hcur
                · exact h
              clear hcur hne HSP
              go_wp2_with (at_builtin; refine appS (.tmp 49) (.tmp 51) _ cur w.heap.size _ ws rfl rfl rfl rfl hown rfl (by omega) hsz ?_)
              intro v' w1 hown' hbel'
              have hb1 := hbel.trans hbel'
              clear hown hbel hbel'
              go_wp2
              go_roundw
              case rel => exact ⟨_, [], m + 1, by omega, by go_num, rfl, by simp; omega, hown', hb1, HW, fun _ => HA.out, fun h => by omega⟩
              case measure => simp [intOf]; omega
          · have g1 : ((c : Int) != 32) = true := by rw [bne_iff_ne]; omega
            rw [addH_step _ _ _ (by rw [hc]; exact h32)] at hspm
            have HSP : Hid (ws ++ addH (cur ++ [cb]) (splitB ((bytes s).drop (m + 1))) = splitB (bytes s)) := hspm
            clear hspm hsp hend h32
            go_wp2
            go_roundw
            case rel => exact ⟨ws, cur ++ [cb], m + 1, by omega, by go_num, by rw [cat_snoc], by simp; omega, hown, hbel, hne, fun _ => HSP.out, fun h => by omega⟩
            case measure => simp [intOf]; omega
        · by_cases hme : m = s.size
          · have HSP : Hid (ws ++ [cur] = splitB (bytes s)) := by
              have := hsp.out (by omega)
              rw [List.drop_eq_nil_of_le (by rw [bytes_length]; omega), addH_end] at this
              exact this
            have g1 : decide ((m : Int) < (s.size : Int)) = false := by simp; omega
            have g0 : (m : Int) ≤ (s.size : Int) := by omega
            have HME : Hid (m = s.size) := hme
            clear hsp hend hme
            by_cases hcur : cur = []
            · subst hcur
              have HF : Hid (lineOk true (bytes s) = false) := line_of_empty HSP.out
              go_wp2
              go_ret2
              exact ⟨[], _, 4, rfl, .inl ⟨HF.out, rfl, rfl⟩, OwnS.nil _ _, hbel⟩
            · have g2 : cur.isEmpty = false := by simpa using hcur
              have HW : Hid (∀ x ∈ ws ++ [cur], x ≠ []) := by
                intro x hx
                rcases List.mem_append.1 hx with h | h
                · exact hne.out x h
                · simp at h; subst h; exact hcur
              clear hcur hne
              go_wp2_with (at_builtin; refine appS (.tmp 49) (.tmp 51) _ cur w.heap.size _ ws rfl rfl rfl rfl hown rfl (by omega) hsz ?_)
              intro v' w1 hown' hbel'
              have hb1 := hbel.trans hbel'
              clear hown hbel hbel'
              go_wp2
              go_roundw
              case rel => exact ⟨_, [], m + 1, by omega, by go_num, rfl, by simp; omega, hown', hb1, HW, fun h => by have := HME.out; omega, fun _ => HSP.out⟩
              case measure => simp [intOf]; omega
          · have HW : Hid (ws = splitB (bytes s)) := hend.out (by omega)
            have HLI : Hid (lineOk true (bytes s) = true) := line_yes HP.out (fun x hx => hne.out x (by rw [HW.out]; exact hx))
            have g0 : ¬ (m : Int) ≤ (s.size : Int) := by omega
            obtain ⟨a2, cap2, rfl, hle2, hrow2⟩ := hown.row
            clear hsp hend hne hme
            by_cases h64 : 64 < ws.length
            · go_wp2
              go_ret2
              exact ⟨[], _, 3, rfl, .inr (.inl ⟨HLI.out, by rw [← HW.out]; exact h64, rfl, rfl⟩), OwnS.nil _ _, hbel⟩
            · go_wp2
              go_ret2
              exact ⟨ws, _, 0, rfl, .inr (.inr ⟨HLI.out, by rw [← HW.out]; omega, HW.out, rfl⟩), hown, hbel⟩
end Go.Proofs.Ytjjojlfhliecnaa
