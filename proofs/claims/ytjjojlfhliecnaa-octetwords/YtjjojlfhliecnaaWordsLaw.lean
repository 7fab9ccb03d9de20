/- The walk of the law OctetWords over the contracts of what it calls. -/
import Derived.Test.YtjjojlfhliecnaaShelf
import Derived.Test.YtjjojlfhliecnaaDigitsWalk
namespace Go.Proofs.Ytjjojlfhliecnaa
open Go.RowKit
set_option linter.unusedVariables false

theorem splitB_noblank (l : List UInt8) : ∀ w ∈ splitB l, ∀ c ∈ w, c.toNat ≠ 32 := by
  induction l with
  | nil => intro w hw; simp [splitB] at hw; subst hw; intro c hc; cases hc
  | cons a l ih =>
    intro w hw
    by_cases h : a.toNat = 32
    · simp [splitB, h] at hw
      rcases hw with rfl | hw
      · intro c hc; cases hc
      · exact ih w hw
    · simp [splitB, h] at hw
      rcases hw with rfl | hw
      · intro c hc
        rcases List.mem_cons.1 hc with rfl | hc
        · exact h
        · refine ih ((splitB l).headD []) ?_ c (by simpa using hc)
          rw [← splitB_cons l]
          simp
      · exact ih w (List.mem_of_mem_tail hw)

theorem join_split (l : List UInt8) : Lib.join (splitB l) [32] = l := by
  induction l with
  | nil => rfl
  | cons a l ih =>
    cases hs : splitB l with
    | nil => exact absurd hs (splitB_ne l)
    | cons x t =>
      rw [hs, Lib.join_cons] at ih
      by_cases h : a.toNat = 32
      · have ha : a = 32 := by apply UInt8.toNat_inj.1; rw [h]; rfl
        have e : splitB (a :: l) = [] :: x :: t := by simp [splitB, h, hs]
        rw [e, Lib.join_cons, ha]
        show [] ++ Lib.joinTail [32] (x :: t) = 32 :: l
        have e2 : Lib.joinTail [32] (x :: t) = [32] ++ x ++ Lib.joinTail [32] t := by simp [Lib.joinTail]
        rw [e2, ← ih]
        simp
      · have e : splitB (a :: l) = (a :: x) :: t := by simp [splitB, h, hs]
        rw [e, Lib.join_cons, ← ih]
        simp

set_option maxRecDepth 100000 in
set_option maxHeartbeats 1600000 in
theorem contains_no (s : ByteArray) (w : World) (h : ∀ c ∈ bytes s, c.toNat ≠ 32) :
    Calls Try.prog 38 #[.string s, .string { data := #[32] }] w fun e w' => e = .returned (.bool false) ∧ w' = w := by
  have hi : Lib.indexByte s.data.toList 32 = -1 := by
    rcases idx_first (bytes s) 32 with ⟨h1, _⟩ | ⟨i, _, hi, hat, _⟩
    · exact h1
    · exfalso
      have hm : (bytes s).getD i 0 ∈ bytes s := by simp [List.getD, List.getElem?_eq_getElem hi]
      have := h _ hm
      rw [hat] at this
      exact this rfl
  have hcf : ∀ w, Sem.run Try.prog (callFunc 59 #[.string s, .int .u8 32]) w = .ok (.value (.int .i64 (-1))) w := fun w => by
    rw [run_callFunc_extern Try.func59 (by kernel_rfl) (by kernel_rfl) (by kernel_rfl) (e := Extern.BytealgIndexByte.indexByte) (by kernel_rfl), Lib.run_indexByteString]
    show Result.ok (Next.value (.int .i64 (Lib.indexByte s.data.toList 32))) w = _
    rw [hi]
  have hne : ([32] == s.toList) = false := by
    rw [ByteArray.toList_eq, beq_eq_false_iff_ne]
    intro e
    exact h 32 (by show (32 : UInt8) ∈ s.data.toList; rw [← e]; simp) rfl
  clear hi h
  have h0 : (({ data := #[32] } : ByteArray)[0]'(by decide)).toNat = 32 := rfl
  go_enter Try.func38, Try.ntmps38
  go_wp2
  go_ret
  exact ⟨rfl, rfl⟩

/-- strings.Join of the words with a blank between two of them. -/
theorem join_any (a : Option Addr) (n c : Nat) (ws : List (List UInt8)) (w : World) (hrow : RowS w a ws) (hn : ws.length = n) (hc : n ≤ c) (h64 : n ≤ 64) (hlen : (Lib.join ws [32]).length ≤ 1000) :
    Calls Try.prog 39 #[.slice a n c, .string { data := #[32] }] w fun e w' => e = .returned (.string ⟨(Lib.join ws [32]).toArray⟩) ∧ Below w.heap.size w w' := by
  rcases hrow with rfl | ⟨b, off, rfl, hcl⟩
  · simp at hn
    subst hn
    refine (Try.strings_Join_none a c { data := #[32] } w).mono ?_
    rintro e w' ⟨rfl, rfl⟩
    exact ⟨rfl, Below.refl _ _⟩
  · rcases Nat.eq_zero_or_pos ws.length with h0 | h0
    · have : ws = [] := List.eq_nil_of_length_eq_zero h0
      subst this
      simp at hn
      subst hn
      refine (Try.strings_Join_none _ c { data := #[32] } w).mono ?_
      rintro e w' ⟨rfl, rfl⟩
      exact ⟨rfl, Below.refl _ _⟩
    · subst hn
      have hm : (ws.map fun l => (⟨l.toArray⟩ : ByteArray)).map (·.data.toList) = ws := by
        rw [List.map_map]
        conv => rhs; rw [← List.map_id ws]
        apply List.map_congr_left
        intro x _
        simp
      have hj := Try.strings_Join b off c (ws.map fun l => (⟨l.toArray⟩ : ByteArray)) { data := #[32] } w (fun j x hx => by
          simp only [List.getElem?_map] at hx
          have hjl : j < ws.length := by
            rcases Nat.lt_or_ge j ws.length with h | h
            · exact h
            · rw [List.getElem?_eq_none h] at hx; simp at hx
          rw [hcl j hjl]
          rw [List.getElem?_eq_getElem hjl] at hx
          simp at hx
          rw [← hx]
          simp [S8, List.getD, List.getElem?_eq_getElem hjl]) (lt_of_cell (hcl 0 h0)) (by simp; omega) (by simpa using hc) (by rw [hm]; show (Lib.join ws [32]).length ≤ _; omega)
      rw [hm, List.length_map] at hj
      exact hj

set_option maxRecDepth 100000 in
set_option maxHeartbeats 3200000 in
theorem wordsLaw_walk (l : List UInt8) (w : World) (hmax : l.length ≤ 9223372036854775807) :
    Calls Try.prog 8 #[.string ⟨l.toArray⟩] w fun e w' => e = .returned (.bool true) ∧ Below w.heap.size w w' := by
  go_enter Try.func8, Try.ntmps8
  go_wp2_with fail
  refine (awake_any _).mono ?_
  rintro e w1 ⟨rfl, hb1⟩
  by_cases hl : 1000 < l.length
  · go_wp2
    go_ret
    exact ⟨rfl, hb1⟩
  · go_wp2_with fail
    refine (words_any ⟨l.toArray⟩ _ (by rw [size_mk]; omega)).mono ?_
    rintro e w2 ⟨ws, v, E, rfl, hW, hown, hb2⟩
    obtain ⟨ax, cx, rfl, hcx, hrow⟩ := hown.row
    have hC2 : Below w.heap.size w w2 := hb1.trans (hb2.mono hb1.size)
    have hW' : WordsIs l ws E := hW
    clear hb1 hb2 hown hW
    rcases hW' with ⟨_, rfl, rfl⟩ | ⟨_, _, rfl, rfl⟩ | ⟨hline, h64, hws, rfl⟩
    · go_wp2
      go_ret
      exact ⟨rfl, hC2⟩
    · go_wp2
      go_ret
      exact ⟨rfl, hC2⟩
    · have HJ : Hid (Lib.join ws [32] = l) := by show _ = _; rw [hws]; exact join_split l
      have HNE : Hid (∀ x ∈ ws, x ≠ []) := by rw [hws]; exact ((lineOk_iff l).1.1 hline).2
      have HNB : Hid (∀ x ∈ ws, ∀ c ∈ x, c.toNat ≠ 32) := by rw [hws]; exact splitB_noblank l
      have h64' : ws.length ≤ 64 := by rw [hws]; exact h64
      have hpos : 1 ≤ ws.length := by
        rw [hws]
        rcases Nat.eq_zero_or_pos (splitB l).length with h | h
        · exact absurd (List.eq_nil_of_length_eq_zero h) (splitB_ne l)
        · exact h
      clear hline h64 hws
      have HROW : Hid (RowS w2 ax ws) := hrow
      rcases hrow with rfl | ⟨b, off, rfl, hcl⟩
      · simp at hpos
      have HCL : Hid (∀ j, j < ws.length → w2.cell? ⟨b, off + j, none⟩ = some (S8 (ws.getD j []))) := hcl
      clear hcl
      go_wp2
      go_loop [6] (fun i => ∃ k : Nat, k ≤ ws.length ∧ i = .int .i64 k) (fun i => ws.length - (intOf i).toNat)
      case atStart => exact ⟨0, Nat.zero_le _, rfl⟩
      case round =>
        obtain ⟨k, hk, rfl⟩ := hrel
        by_cases hlt : k < ws.length
        · obtain ⟨x, hx⟩ : ∃ x, x = ws.getD k [] := ⟨_, rfl⟩
          have hxm : x ∈ ws := by rw [hx]; simp [List.getD, List.getElem?_eq_getElem hlt]
          have hcell : w2.cell? ⟨b, off + k, none⟩ = some (.string ⟨x.toArray⟩) := by rw [hx]; exact HCL.out k hlt
          have hxe : x.isEmpty = false := by simpa using HNE.out x hxm
          have HXB : Hid (∀ c ∈ bytes ⟨x.toArray⟩, c.toNat ≠ 32) := HNB.out x hxm
          clear hx hxm
          go_wp2_with fail
          refine (contains_no ⟨x.toArray⟩ _ HXB.out).mono ?_
          rintro e w3 ⟨rfl, rfl⟩
          go_wp2
          go_round
          case rel => exact ⟨k + 1, by omega, by go_num⟩
          case measure => simp [intOf]; omega
        · go_wp2_with fail
          refine (join_any _ _ _ ws _ HROW.out rfl hcx (by omega) (by rw [HJ.out]; omega)).mono ?_
          rintro e w3 ⟨rfl, hb3⟩
          rw [HJ.out]
          have g64 : decide ((ws.length : Int) ≤ 64) = true := by simp; omega
          go_wp2
          go_ret
          exact ⟨rfl, hC2.trans (hb3.mono hC2.size)⟩

end Go.Proofs.Ytjjojlfhliecnaa
