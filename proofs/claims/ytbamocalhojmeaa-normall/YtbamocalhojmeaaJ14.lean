/- Joined texts of the proof. -/
import Derived.Test.YtbamocalhojmeaaJ13
import Derived.BigRegion
import Derived.BigQuiet
import Derived.Deep.QuietTactic
import Derived.Test.YtbamocalhojmeaaJ12
import Derived.Test.YtbamocalhojmeaaJ4

/- A heap as container/heap keeps it: the mathematics, on keys by place. -/
namespace Go.Proofs.Ytbamocalhojmeaa
set_option linter.unusedVariables false

/-- Two places changed about. -/
def swF (f : Nat → Int) (i j : Nat) (x : Nat) : Int := if x = i then f j else if x = j then f i else f x
theorem swF_l (f : Nat → Int) (i j : Nat) : swF f i j i = f j := by unfold swF; rw [if_pos rfl]
theorem swF_r (f : Nat → Int) (i j : Nat) : swF f i j j = f i := by
  unfold swF
  split
  · rename_i h; rw [h]
  · rw [if_pos rfl]
theorem swF_o (f : Nat → Int) {i j x : Nat} (h1 : x ≠ i) (h2 : x ≠ j) : swF f i j x = f x := by unfold swF; rw [if_neg h1, if_neg h2]
/-- From the parents lo on, none of the first n is less than its parent. -/
def HpL (f : Nat → Int) (lo n : Nat) : Prop := ∀ c, 0 < c → c < n → lo ≤ (c - 1) / 2 → f ((c - 1) / 2) ≤ f c
/-- All is well but that j may be less than its parent. -/
def UpI (f : Nat → Int) (n j : Nat) : Prop := (∀ c, 0 < c → c < n → c ≠ j → f ((c - 1) / 2) ≤ f c) ∧ (0 < j → ∀ c, 0 < c → c < n → (c - 1) / 2 = j → f ((j - 1) / 2) ≤ f c)
/-- All is well but that i may be greater than its children. -/
def DnI (f : Nat → Int) (lo n i : Nat) : Prop := (∀ c, 0 < c → c < n → lo ≤ (c - 1) / 2 → (c - 1) / 2 ≠ i → f ((c - 1) / 2) ≤ f c) ∧ (0 < i → lo ≤ (i - 1) / 2 → ∀ c, 0 < c → c < n → (c - 1) / 2 = i → f ((i - 1) / 2) ≤ f c)

theorem up_start {f : Nat → Int} {n : Nat} (h : HpL f 0 n) : UpI f (n + 1) n :=
  ⟨fun c h1 h2 h3 => h c h1 (by omega) (Nat.zero_le _), fun _ c h1 h2 h3 => by omega⟩
theorem up_end {f : Nat → Int} {n j : Nat} (h : UpI f n j) (hj : j = 0 ∨ f ((j - 1) / 2) ≤ f j) : HpL f 0 n := fun c h1 h2 _ => by
  by_cases hc : c = j
  · subst hc
    rcases hj with h0 | h0
    · omega
    · exact h0
  · exact h.1 c h1 h2 hc
theorem up_step {f : Nat → Int} {n j i : Nat} (h : UpI f n j) (h0 : 0 < j) (hn : j < n) (hi : i = (j - 1) / 2) (hl : f j < f i) : UpI (swF f i j) n i := by
  have hij : i < j := by omega
  constructor
  · intro c h1 h2 h3
    by_cases hc : c = j
    · subst hc
      rw [swF_r, ← hi, swF_l]
      omega
    · rw [swF_o f h3 hc]
      by_cases hp : (c - 1) / 2 = i
      · have := h.1 c h1 h2 hc
        rw [hp] at this
        rw [hp, swF_l]
        omega
      · by_cases hq : (c - 1) / 2 = j
        · rw [hq, swF_r]
          have := h.2 h0 c h1 h2 hq
          rw [← hi] at this
          exact this
        · rw [swF_o f hp hq]
          exact h.1 c h1 h2 hc
  · intro h4 c h1 h2 h3
    have hii := h.1 i h4 (by omega) (by omega)
    rw [swF_o f (show (i - 1) / 2 ≠ i by omega) (show (i - 1) / 2 ≠ j by omega)]
    by_cases hc : c = j
    · subst hc
      rw [swF_r]
      exact hii
    · rw [swF_o f (show c ≠ i by omega) hc]
      have := h.1 c h1 h2 hc
      rw [h3] at this
      omega
theorem dn_end {f : Nat → Int} {lo n i : Nat} (h : DnI f lo n i) (hj : ∀ c, 0 < c → c < n → (c - 1) / 2 = i → f i ≤ f c) : HpL f lo n := fun c h1 h2 h3 => by
  by_cases hp : (c - 1) / 2 = i
  · rw [hp]
    exact hj c h1 h2 hp
  · exact h.1 c h1 h2 h3 hp
theorem dn_step {f : Nat → Int} {lo n i j : Nat} (h : DnI f lo n i) (hlo : lo ≤ i) (h0 : 0 < j) (hn : j < n) (hi : (j - 1) / 2 = i) (hl : f j < f i) (hm : ∀ c, 0 < c → c < n → (c - 1) / 2 = i → f j ≤ f c) : DnI (swF f i j) lo n j := by
  have hij : i < j := by omega
  constructor
  · intro c h1 h2 h3 h4
    by_cases hc : c = i
    · subst hc
      rw [swF_l, swF_o f (show (c - 1) / 2 ≠ c by omega) h4]
      exact h.2 h1 h3 j h0 hn hi
    · by_cases hd : c = j
      · subst hd
        rw [hi, swF_l, swF_r]
        omega
      · rw [swF_o f hc hd]
        by_cases hp : (c - 1) / 2 = i
        · rw [hp, swF_l]
          exact hm c h1 h2 hp
        · rw [swF_o f hp h4]
          exact h.1 c h1 h2 h3 hp
  · intro h4 h5 c h1 h2 h3
    rw [hi, swF_l, swF_o f (show c ≠ i by omega) (show c ≠ j by omega)]
    have := h.1 c h1 h2 (by omega) (by omega)
    rw [h3] at this
    exact this
/-- The first and the last changed about, and the last left out. -/
theorem dn_pop {f : Nat → Int} {n : Nat} (h : HpL f 0 (n + 1)) : DnI (swF f 0 n) 0 n 0 := by
  refine ⟨fun c h1 h2 h3 h4 => ?_, fun h => by omega⟩
  rw [swF_o f h4 (show (c - 1) / 2 ≠ n by omega), swF_o f (show c ≠ 0 by omega) (show c ≠ n by omega)]
  exact h c h1 (by omega) h3
/-- To begin: from lo + 1 on all is well. -/
theorem dn_init {f : Nat → Int} {lo n : Nat} (h : HpL f (lo + 1) n) : DnI f lo n lo :=
  ⟨fun c h1 h2 h3 h4 => h c h1 h2 (by omega), fun h1 h2 => by omega⟩
theorem hp_leaves (f : Nat → Int) {lo n : Nat} (h : n / 2 ≤ lo) : HpL f lo n := fun c h1 h2 h3 => by omega
/-- The first is the least. -/
theorem hp_min {f : Nat → Int} {n : Nat} (h : HpL f 0 n) : ∀ c, c < n → f 0 ≤ f c := by
  intro c
  induction c using Nat.strongRecOn with
  | _ c ih =>
    intro hc
    by_cases h0 : c = 0
    · subst h0
      exact Int.le_refl _
    · have h1 := ih ((c - 1) / 2) (by omega) (by omega)
      have h2 := h c (by omega) hc (Nat.zero_le _)
      omega
theorem hp_less {f g : Nat → Int} {lo n : Nat} (h : HpL f lo n) (hg : ∀ c, c < n → g c = f c) : HpL g lo n := fun c h1 h2 h3 => by
  rw [hg c h2, hg _ (by omega)]
  exact h c h1 h2 h3

/-- Two places of a list changed about. -/
def swp {α : Type} (l : List α) (i j : Nat) : List α := match l[i]?, l[j]? with
  | some x, some y => (l.set i y).set j x
  | _, _ => l
theorem swp_eq {α : Type} {l : List α} {i j : Nat} {x y : α} (hx : l[i]? = some x) (hy : l[j]? = some y) : swp l i j = (l.set i y).set j x := by
  unfold swp
  rw [hx, hy]
theorem swp_length {α : Type} (l : List α) (i j : Nat) : (swp l i j).length = l.length := by
  unfold swp
  split <;> simp
theorem swp_perm {α : Type} (l : List α) (i j : Nat) : (swp l i j).Perm l := by
  unfold swp
  split
  · rename_i x y hx hy
    obtain ⟨h1, rfl⟩ := List.getElem?_eq_some_iff.1 hx
    obtain ⟨h2, rfl⟩ := List.getElem?_eq_some_iff.1 hy
    exact List.set_set_perm h1 h2
  · exact List.Perm.refl _
theorem swp_at {α : Type} {l : List α} {i j : Nat} (hi : i < l.length) (hj : j < l.length) (p : Nat) : (swp l i j)[p]? = if p = j then l[i]? else if p = i then l[j]? else l[p]? := by
  rw [swp_eq (List.getElem?_eq_getElem hi) (List.getElem?_eq_getElem hj)]
  by_cases h1 : p = j
  · subst h1
    rw [if_pos rfl, List.getElem?_set_self (by simpa using hj), List.getElem?_eq_getElem hi]
  · rw [if_neg h1, List.getElem?_set_ne (by omega)]
    by_cases h2 : p = i
    · subst h2
      rw [if_pos rfl, List.getElem?_set_self hi, List.getElem?_eq_getElem hj]
    · rw [if_neg h2, List.getElem?_set_ne (by omega)]
/-- The keys of a list, by place. -/
def keyF {α : Type} (key : α → Int) (l : List α) (p : Nat) : Int := match l[p]? with
  | some x => key x
  | none => 0
theorem keyF_at {α : Type} {key : α → Int} {l : List α} {p : Nat} {x : α} (h : l[p]? = some x) : keyF key l p = key x := by unfold keyF; rw [h]
theorem keyF_swp {α : Type} (key : α → Int) {l : List α} {i j : Nat} (hi : i < l.length) (hj : j < l.length) : keyF key (swp l i j) = swF (keyF key l) i j := by
  funext p
  have e := swp_at hi hj p
  by_cases h2 : p = j
  · subst h2
    rw [if_pos rfl] at e
    rw [swF_r]
    unfold keyF
    rw [e]
  · rw [if_neg h2] at e
    by_cases h1 : p = i
    · subst h1
      rw [if_pos rfl] at e
      rw [swF_l]
      unfold keyF
      rw [e]
    · rw [if_neg h1] at e
      rw [swF_o _ h1 h2]
      unfold keyF
      rw [e]
theorem keyF_take {α : Type} (key : α → Int) (l : List α) {n c : Nat} (h : c < n) : keyF key (l.take n) c = keyF key l c := by
  unfold keyF
  rw [List.getElem?_take_of_lt h]
theorem keyF_app {α : Type} (key : α → Int) (l m : List α) {c : Nat} (h : c < l.length) : keyF key (l ++ m) c = keyF key l c := by
  unfold keyF
  rw [List.getElem?_append_left h]
/-- A heap of things by their keys. -/
def Hp {α : Type} (key : α → Int) (l : List α) : Prop := HpL (keyF key l) 0 l.length
theorem Hp.nil {α : Type} (key : α → Int) : Hp key ([] : List α) := fun c _ h _ => by simp at h
theorem Hp.min {α : Type} {key : α → Int} {x : α} {t : List α} (h : Hp key (x :: t)) : ∀ y ∈ x :: t, key x ≤ key y := fun y hy => by
  obtain ⟨p, hp⟩ := List.getElem?_of_mem hy
  have h1 := hp_min h p (List.getElem?_eq_some_iff.1 hp).1
  rw [keyF_at hp, keyF_at (show (x :: t)[0]? = some x from rfl)] at h1
  exact h1
theorem Hp.push {α : Type} {key : α → Int} {l : List α} (h : Hp key l) (x : α) : UpI (keyF key (l ++ [x])) (l ++ [x]).length l.length := by
  rw [List.length_append]
  exact up_start (hp_less h fun c hc => keyF_app key l [x] hc)
theorem Hp.pop {α : Type} {key : α → Int} {l : List α} {n : Nat} (h : Hp key l) (hn : l.length = n + 1) : DnI (keyF key (swp l 0 n)) 0 n 0 := by
  rw [keyF_swp key (by omega) (by omega)]
  unfold Hp at h
  rw [hn] at h
  exact dn_pop h
theorem Hp.take {α : Type} {key : α → Int} {l : List α} {n : Nat} (h : HpL (keyF key l) 0 n) (hn : n ≤ l.length) : Hp key (l.take n) := by
  unfold Hp
  rw [List.length_take, Nat.min_eq_left hn]
  exact hp_less h fun c hc => keyF_take key l hc
end Go.Proofs.Ytbamocalhojmeaa

/- norm's ready: what its five methods do. -/
namespace Go.Proofs.Ytbamocalhojmeaa
open Go.RowKit
set_option linter.unusedVariables false
attribute [local go_sem ↓] Go.wp_at_zero Go.wp_at_succ

/-- An append that tells besides that its row is the old one or a new block. -/
theorem app_fresh {P : Program} (w : World) (base : Nat) (t ty e : TypeId) (i : TypeInfo) (z : Value) (size bytes : Nat) (ht : P.underlying t = some (.slice e)) (hi : P.info? e = some i) (hz : i.zero = some z)
    (hsize : i.size = size) (hby : i.bytes = bytes) (hzs : z.cells.size = size) (hsz : 0 < size)
    (v : Value) (n : Nat) (xs : List Value) (hown : w.ownsRow base e size v n xs)
    (a : Addr) (m c : Nat) (news : List Value) (hl : news.length = m * size) (hnews : ∀ j u, news[j]? = some u → w.cell? (a.add j) = some u) (h1 : ∀ u ∈ news, u.oneCell' = true) (hm : 0 < m)
    (h63 : n + m ≤ maxLen) (hbytes : (n + m) * bytes ≤ 140737488355328) (hbase : base ≤ w.heap.size) :
    ∃ v' w', (Builtin.append_ #[t, t] ty #[v, .slice (some a) m c]).run P w = .ok v' w' ∧ w'.ownsRow base e size v' (n + m) (xs ++ news) ∧ w.grownBy w' v.ownBlock ∧
      (v'.ownBlock = v.ownBlock ∨ v'.ownBlock = some w.heap.size) := by
  obtain ⟨v', w', h2, h3, h4, _⟩ := run_append_own (P := P) w base t ty e i z size bytes ht hi hz hsize hby hzs hsz v n xs hown a m c news hl hnews h1 h63 hbytes hbase
  refine ⟨v', w', h2, h3, h4, ?_⟩
  subst hsize
  subst hby
  have hmm : n + m ≤ 9223372036854775807 := by simp only [maxLen] at h63; omega
  rcases hown.2 with ⟨rfl, rfl⟩ | ⟨g, cap, cur, rfl, hbg, hg, hnc, hcm, hcs, htake⟩
  · have hr := run_append_nil (P := P) w t ty e i z ht hi hz a m c news hl hnews hm (by omega) (by have hb := hbytes; simp only [Nat.zero_add] at hb; omega)
    rw [h2] at hr
    cases hr
    exact .inr rfl
  · by_cases hroom : n + m ≤ cap
    · have hfit : n * i.size + news.length ≤ cur.size := by rw [hl, hcs, ← Nat.add_mul]; exact Nat.mul_le_mul_right _ hroom
      have hr := run_append_room (P := P) w t ty e i ht hi g n cap cur hg a m c news hl hnews h1 hroom hfit
      rw [h2] at hr
      cases hr
      exact .inl rfl
    · have hr := run_append_grow (P := P) w t ty e i z ht hi hz ⟨g, 0, none⟩ n cap xs hown.1 (hown.cells (g := g) rfl) a m c news hl hnews (by omega) (by omega) (growslice_fits (by omega) hbytes)
      rw [h2] at hr
      cases hr
      exact .inr rfl

set_option maxRecDepth 100000 in
theorem rLen (w : World) (gH : Nat) (x : Value) (b : Option Addr) (k cp : Nat) (hd : At 81 w gH [x, .slice b k cp]) :
    Calls Try.prog 54 #[.pointer (some ⟨gH, 0, none⟩)] w fun r w' => r = .returned (.int .i64 (k : Int)) ∧ w' = w := by
  have c1 : w.cell? ⟨gH, 1, none⟩ = some (.slice b k cp) := by rw [hd.cell]; rfl
  clear hd
  go_enter Try.func54, Try.ntmps54
  go_wp2
  go_ret
  exact ⟨rfl, rfl⟩

set_option maxRecDepth 100000 in
set_option maxHeartbeats 3200000 in
theorem rLess (w : World) (gH A O m c g k cp i j p q : Nat) (t1 t2 : Int) (hd : At 81 w gH [.slice (some ⟨A, O, none⟩) m c, .slice (some ⟨g, 0, none⟩) k cp])
    (hi : i < k) (hj : j < k) (ci : w.cell? ⟨g, i, none⟩ = some (.int .i64 (p : Int))) (cj : w.cell? ⟨g, j, none⟩ = some (.int .i64 (q : Int))) (hp : p < m) (hq : q < m)
    (e1 : w.cell? ⟨A, O + p * 3, none⟩ = some (.int .i64 t1)) (e2 : w.cell? ⟨A, O + q * 3, none⟩ = some (.int .i64 t2)) :
    Calls Try.prog 106 #[.pointer (some ⟨gH, 0, none⟩), .int .i64 (i : Int), .int .i64 (j : Int)] w fun r w' => r = .returned (.bool (decide (t1 < t2))) ∧ ∃ q, w' = w.drewN q := by
  have c0 : w.cell? ⟨gH, 0, none⟩ = some (.slice (some ⟨A, O, none⟩) m c) := by rw [hd.cell]; rfl
  have c1 : w.cell? ⟨gH, 1, none⟩ = some (.slice (some ⟨g, 0, none⟩) k cp) := by rw [hd.cell]; rfl
  clear hd
  have i1 : (i : Int) < (k : Int) := by omega
  have i2 : (j : Int) < (k : Int) := by omega
  have i3 : (p : Int) < (m : Int) := by omega
  have i4 : (q : Int) < (m : Int) := by omega
  go_enter Try.func106, Try.ntmps106
  go_wp2_with fail
  go_quiet (fail)
  go_wp2_with fail
  go_ret
  exact ⟨rfl, nq, rfl⟩

set_option maxRecDepth 100000 in
set_option maxHeartbeats 6400000 in
theorem rSwap (w : World) (gH g k cp i j : Nat) (x y : Int) (z : Value) (hd : At 81 w gH [z, .slice (some ⟨g, 0, none⟩) k cp]) (hne : gH ≠ g)
    (hi : i < k) (hj : j < k) (ci : w.cell? ⟨g, i, none⟩ = some (.int .i64 x)) (cj : w.cell? ⟨g, j, none⟩ = some (.int .i64 y)) (fi : w.frozen? ⟨g, i, none⟩ = false) (fj : w.frozen? ⟨g, j, none⟩ = false) :
    Calls Try.prog 109 #[.pointer (some ⟨gH, 0, none⟩), .int .i64 (i : Int), .int .i64 (j : Int)] w fun r w' => r = .returned (.tuple #[]) ∧ ∃ q, w' = ((w.setCell ⟨g, i, none⟩ (.int .i64 y)).setCell ⟨g, j, none⟩ (.int .i64 x)).drewN q := by
  have c1 : w.cell? ⟨gH, 1, none⟩ = some (.slice (some ⟨g, 0, none⟩) k cp) := by rw [hd.cell]; rfl
  clear hd
  have i1 : (i : Int) < (k : Int) := by omega
  have i2 : (j : Int) < (k : Int) := by omega
  obtain ⟨v', hy'⟩ := cell?_setCell_some (w := w) (p := ⟨g, i, none⟩) (x := .int .i64 y) (q := ⟨g, j, none⟩) cj
  go_enter Try.func109, Try.ntmps109
  go_wp2_with fail
  go_region
  all_goals (try go_wp2)
  all_goals go_end0
  all_goals exact ⟨rfl, 1, rfl⟩

theorem run23_slice_to (w : World) (a : Option Addr) (len cap h : Nat) (x : Int) (hx : x = (h : Int)) (hh : h ≤ cap) : (Instr.slice 23 (.slice a len cap) none (some (.int .i64 x)) none).run Try.prog w = .ok (.slice a h cap) w :=
  run_slice_pre 23 3 1 Try.underlying23 (fun w => by kernel_rfl) w a len cap h x hx hh
set_option maxRecDepth 100000 in
theorem rPop (w : World) (gH g k cp : Nat) (x : Int) (z : Value) (hd : At 81 w gH [z, .slice (some ⟨g, 0, none⟩) (k + 1) cp]) (hk : k ≤ cp) (hk2 : k ≤ 1048576) (ck : w.cell? ⟨g, k, none⟩ = some (.int .i64 x)) :
    Calls Try.prog 107 #[.pointer (some ⟨gH, 0, none⟩)] w fun r w' => r = .returned (.iface 3 (.int .i64 x)) ∧ w' = w.setCell ⟨gH, 1, none⟩ (.slice (some ⟨g, 0, none⟩) k cp) := by
  have c1 : w.cell? ⟨gH, 1, none⟩ = some (.slice (some ⟨g, 0, none⟩) (k + 1) cp) := by rw [hd.cell]; rfl
  have f1 := hd.frozen 1
  have hsl := run23_slice_to w (some ⟨g, 0, none⟩) (k + 1) cp k (k : Int) rfl hk
  have hw : wrap64 ((k : Int) + 1 - 1) = (k : Int) := by unfold wrap64; omega
  clear hd
  go_enter Try.func107, Try.ntmps107
  go_wp2
  go_ret
  exact ⟨rfl, rfl⟩
end Go.Proofs.Ytbamocalhojmeaa

/- ClockOrders: what its walk leans on. -/
namespace Go.Proofs.Ytbamocalhojmeaa
open Go.RowKit
set_option linter.unusedVariables false
attribute [local go_sem ↓] Go.wp_at_zero Go.wp_at_succ

theorem run_storeVar_cell {P : Program} (w : World) (b o : Nat) (ty : TypeId) (v : Value) (ht : w.there b o 1) (hi : (P.info? ty).map (·.size) = some 1) (hc : v.cells = #[v]) (h1 : v.oneCell' = true) :
    (storeVar ty ⟨b, o, none⟩ v).run P w = .ok () (w.setCell ⟨b, o, none⟩ v) := by
  have := run_storeCells_cells (P := P) b o [v] 0 w (fun j hj => by simpa using (ht j (by simpa using hj)).1) (fun j hj => by simpa using (ht j (by simpa using hj)).2) (fun u hu => by simp at hu; subst hu; exact h1)
  cases hq : P.info? ty with
  | none => simp [hq] at hi
  | some i =>
    have hs : i.size = 1 := by simp [hq] at hi; omega
    simp only [Nat.add_zero] at this
    simp [storeVar, sizeOf, typeInfo, hq, hc, hs, this, World.setCells]

section
variable {o : Oper} {a : Act} {w : World} {K : Act → World → Prop} {Q : Exit → Act → World → Prop}
theorem wp_store_one (ty : TypeId) (x y : Operand) (ho : o.op = .store ty x y)
    (g off : Nat) (v : Value) (hx : a.eval x = .pointer (some ⟨g, off, none⟩)) (hy : a.eval y = v)
    (t : TypeId) (old : List Value) (hg : At t w g old) (hold : off + 1 ≤ old.length) (hi : (Try.prog.info? ty).map (·.size) = some 1) (hc : v.cells = #[v]) (h1 : v.oneCell' = true)
    (h : ∀ w', At t w' g (old.set off v) → But g w w' → w'.heap.size = w.heap.size → K (a.put o.dst undef) w') : o.wp Try.prog a w K Q := by
  have := h _ (hg.set off v) ((But.refl g w).setCell off v) (by simp)
  unfold Oper.wp execOp
  simp only [ho, hx, hy, Instr.storeAt, Instr.sureAddr, Sem.run_bind, Sem.run_pure, Result.andThen_ok, run_storeVar_cell w g off ty v (hg.there off 1 hold) hi hc h1]
  exact this
theorem wp_store_three (x y : Operand) (ho : o.op = .store 50 x y) (g off : Nat) (e : Ev) (hx : a.eval x = .pointer (some ⟨g, off, none⟩)) (hy : a.eval y = .agg e.cells.toArray)
    (old : List Value) (hg : At 50 w g old) (hold : off + 3 ≤ old.length)
    (h : ∀ w', At 50 w' g (((old.set off (.int .i64 e.th)).set (off + 1) (.int .i64 e.kd)).set (off + 2) (.int .i64 e.ob)) → But g w w' → w'.heap.size = w.heap.size → K (a.put o.dst undef) w') : o.wp Try.prog a w K Q := by
  refine wp_store_mid 50 x y ho g off e.cells.toArray hx hy (hg.there off 3 hold) i25 (all_oneCell_toArray (Ev.one e)) ?_
  refine h _ (((hg.set off _).set (off + 1) _).set (off + 2) _) ((((But.refl g w).setCell off _).setCell (off + 1) _).setCell (off + 2) _) ?_
  show (((w.setCell ⟨g, off, none⟩ _).setCell ⟨g, off + 1, none⟩ _).setCell ⟨g, off + 2, none⟩ _).heap.size = _
  simp
end
/-- Cells that hold events. -/
def OnE (cs : List Value) (es : List Ev) : Prop := ∀ i e, es[i]? = some e → ∀ j v, e.cells[j]? = some v → cs[i * 3 + j]? = some v
theorem OnE.set {cs : List Value} {es : List Ev} (h : OnE cs es) {k : Nat} (hk : k < es.length) (e : Ev) : OnE (((cs.set (k * 3) (.int .i64 e.th)).set (k * 3 + 1) (.int .i64 e.kd)).set (k * 3 + 2) (.int .i64 e.ob)) (es.set k e) := by
  intro i x hx j v hj
  have hj3 : j < 3 := (List.getElem?_eq_some_iff.1 hj).1
  have hl : k * 3 + 2 < cs.length := by
    have := h k _ (List.getElem?_eq_getElem hk) 2 _ rfl
    exact (List.getElem?_eq_some_iff.1 this).1
  by_cases hik : i = k
  · subst hik
    rw [List.getElem?_set_self hk] at hx
    cases hx
    have h3 : j = 0 ∨ j = 1 ∨ j = 2 := by omega
    rcases h3 with rfl | rfl | rfl
    · rw [List.getElem?_set_ne (by omega), List.getElem?_set_ne (by omega), Nat.add_zero, List.getElem?_set_self (by omega)]
      exact hj
    · rw [List.getElem?_set_ne (by omega), List.getElem?_set_self (by simp; omega)]
      exact hj
    · rw [List.getElem?_set_self (by simp; omega)]
      exact hj
  · rw [List.getElem?_set_ne (fun e => hik e.symm)] at hx
    rw [List.getElem?_set_ne (by omega), List.getElem?_set_ne (by omega), List.getElem?_set_ne (by omega)]
    exact h i x hx j v hj
theorem OnE.row {cs : List Value} {es : List Ev} {w : World} {g : Nat} (h : OnE cs es) (hA : At 50 w g cs) : RowEv w (some ⟨g, 0, none⟩) es := by
  refine .inr ⟨g, 0, rfl, fun i e he j v hj => ?_⟩
  rw [Nat.zero_add, hA.cell]
  exact h i e he j v hj
/-- Two neighbours changed about. -/
def swE (es : List Ev) (k : Nat) : List Ev := (es.set k (evAt es (k + 1))).set (k + 1) (evAt es k)
theorem swE_length (es : List Ev) (k : Nat) : (swE es k).length = es.length := by simp [swE]
theorem evAt_mem {es : List Ev} {i : Nat} (h : i < es.length) : evAt es i ∈ es := by
  rw [evAt_eq (List.getElem?_eq_getElem h)]
  exact List.getElem_mem h
theorem swE_mem {es : List Ev} {k : Nat} (hk : k + 1 < es.length) : ∀ x ∈ swE es k, x ∈ es := by
  intro x hx
  rcases List.mem_or_eq_of_mem_set hx with h | h
  · rcases List.mem_or_eq_of_mem_set h with h | h
    · exact h
    · rw [h]; exact evAt_mem hk
  · rw [h]; exact evAt_mem (by omega)
theorem evAt_swE {es : List Ev} {k : Nat} (hk : k + 1 < es.length) (i : Nat) : evAt (swE es k) i = evAt es (sw k i) := by
  by_cases h1 : i = k
  · subst h1
    rw [sw_at]
    refine evAt_eq ?_
    unfold swE
    rw [List.getElem?_set_ne (by omega), List.getElem?_set_self (by omega)]
  · by_cases h2 : i = k + 1
    · subst h2
      rw [sw_next]
      refine evAt_eq ?_
      unfold swE
      rw [List.getElem?_set_self (by simp; omega)]
    · rw [sw_other h1 h2]
      unfold evAt swE
      simp only [List.getD]
      rw [List.getElem?_set_ne (fun e => h2 e.symm), List.getElem?_set_ne (fun e => h1 e.symm)]
theorem sw_bound {k i m : Nat} (hk : k + 1 < m) (hi : i < m) : sw k i < m := by
  unfold sw
  split
  · omega
  · split <;> omega
theorem clk_swE {es : List Ev} {k n : Nat} (hk : k + 1 < es.length) (hd : depB (evAt es k) (evAt es (k + 1)) = false) (j : Nat) : clkL (evAt (swE es k)) n (sw k j) = clkL (evAt es) n j := by
  unfold clkL
  refine List.map_congr_left fun t _ => ?_
  rw [show evAt (swE es k) = fun i => evAt es (sw k i) from funext fun i => evAt_swE hk i, clk_sw hd]
theorem wrong_swE {es : List Ev} {k : Nat} {n : Int} (hk : k + 1 < es.length) (h : wrongZ es n = 0) : wrongZ (swE es k) n = 0 := by
  obtain ⟨h1, h2, h3, h4⟩ := wrongZ_ok h
  exact wrongZ_of h1 h2 (by rw [swE_length]; exact h3) fun x hx => h4 x (swE_mem hk x hx)
/-- The clocks of the events changed about, changed about, are the clocks. -/
theorem row_swE {es : List Ev} {k n : Nat} {w : World} {G M : Nat} (hk : k + 1 < es.length) (hd : depB (evAt es k) (evAt es (k + 1)) = false) (hn : n ≤ 16)
    (hM : Mem w M n (clksL (evAt (swE es k)) n es.length)) (hA : At 23 w G (((cutV M n es.length).set k (.slice (some ⟨M, (k + 1) * n, none⟩) n n)).set (k + 1) (.slice (some ⟨M, k * n, none⟩) n n))) : RowII w (some ⟨G, 0, none⟩) (clksL (evAt es) n es.length) := by
  refine .inr ⟨G, 0, rfl, fun i zs hz => ?_⟩
  have hi : i < es.length := by have := (List.getElem?_eq_some_iff.1 hz).1; rwa [clksL_length] at this
  rw [clksL_at hi] at hz
  cases hz
  have hs := sw_bound hk hi
  refine ⟨some ⟨M, sw k i * n, none⟩, n, ?_, ?_, by rw [clkL_length]; exact Nat.le_refl _, by rw [clkL_length]; omega⟩
  · rw [Nat.zero_add, hA.cell, clkL_length]
    by_cases h1 : i = k
    · subst h1
      rw [List.getElem?_set_ne (by omega), List.getElem?_set_self (by rw [cutV_length]; omega), sw_at]
    · by_cases h2 : i = k + 1
      · subst h2
        rw [List.getElem?_set_self (by rw [List.length_set, cutV_length]; omega), sw_next]
      · rw [List.getElem?_set_ne (fun e => h2 e.symm), List.getElem?_set_ne (fun e => h1 e.symm), cutV_at hi, sw_other h1 h2]
  · refine (hM.wr (i := sw k i) (zs := clkL (evAt es) n i) ?_).row
    rw [clksL_at hs, clk_swE hk hd i]

/-- Clocks gathered one by one. -/
structure OwnA (base : Nat) (w : World) (v : Value) (n : Nat) (L : List Nat) (zss : List (List Int)) : Prop where
  own : OwnL base w v (L.map fun g => .slice (some ⟨g, 0, none⟩) n n)
  len : L.length = zss.length
  at_ : ∀ (i : Nat) (g : Nat) (zs : List Int), L[i]? = some g → zss[i]? = some zs → WrI w g 0 zs ∧ zs.length = n
theorem OwnA.nil (base : Nat) (w : World) (n : Nat) : OwnA base w (.slice none 0 0) n [] [] := ⟨World.ownsRow_nil _ _ _ _, rfl, fun i g zs h => by simp at h⟩
theorem OwnA.row {base : Nat} {w : World} {v : Value} {n : Nat} {L : List Nat} {zss : List (List Int)} (h : OwnA base w v n L zss) (hn : n ≤ 16) : ∃ a cap, v = .slice a zss.length cap ∧ zss.length ≤ cap ∧ RowII w a zss := by
  obtain ⟨⟨h0, ⟨rfl, h2⟩ | ⟨g, cap, cur, rfl, hg, hh, hl, hm, hs, ht⟩⟩, hlen, hat⟩ := h
  · rw [List.length_map, hlen] at h2
    have : zss = [] := List.length_eq_zero_iff.1 h2
    subst this
    exact ⟨none, 0, rfl, Nat.le_refl _, .inl rfl⟩
  · rw [List.length_map, hlen] at hl ht ⊢
    refine ⟨_, cap, rfl, hl, .inr ⟨g, 0, rfl, fun i zs hz => ?_⟩⟩
    have hi : i < zss.length := (List.getElem?_eq_some_iff.1 hz).1
    have hx := List.getElem?_eq_getElem (show i < L.length by omega)
    obtain ⟨h5, h6⟩ := hat i _ zs hx hz
    refine ⟨some ⟨L[i], 0, none⟩, n, ?_, h5.row, by omega, by omega⟩
    have e1 : (cur.toList.take (zss.length * 1))[i]? = some (.slice (some ⟨L[i], 0, none⟩) n n) := by rw [ht, List.getElem?_map, hx]; rfl
    rw [List.getElem?_take_of_lt (by omega)] at e1
    simp only [World.cell?, hh, Nat.zero_add, h6]
    simpa using e1
theorem OwnA.below {base : Nat} {w w' : World} {v : Value} {n : Nat} {L : List Nat} {zss : List (List Int)} (h : OwnA base w v n L zss) (hb : Below w.heap.size w w') : OwnA base w' v n L zss :=
  ⟨h.own.below hb, h.len, fun i g zs h1 h2 => ⟨(h.at_ i g zs h1 h2).1.below hb, (h.at_ i g zs h1 h2).2⟩⟩
/-- 'all = append(all, x)'. -/
theorem appA {ops : Array Oper} {rest : List Oper} {o : Oper} {a : Act} {Q : Exit → Act → World → Prop} {w0 : World} (s x : Operand) (gz n base : Nat) (v : Value) (L : List Nat) (zss : List (List Int)) (zs : List Int)
    (hgd : o.guard = none) (ho : o.op = .call { callee := .builtin .append, args := #[s, x], argTypes := #[32, 32] })
    (hs : a.eval s = v) (hx : a.eval x = .slice (some ⟨w0.heap.size, 0, none⟩) 1 1) (hown : OwnA base w0 v n L zss) (hz : WrI w0 gz 0 zs) (hzl : zs.length = n) (hlen : zss.length ≤ 1048576) (hbase : base ≤ w0.heap.size)
    (h : ∀ v' w', OwnA base w' v' n (L ++ [gz]) (zss ++ [zs]) → Below base w0 w' → wpList Try.prog ops Q rest (a.put o.dst v') w') :
    wpList Try.prog ops Q (o :: rest) a (w0.alloc (.cells #[.slice (some ⟨gz, 0, none⟩) n n] 23)) := by
  obtain ⟨i0, hi, hz0, hz1, hz2⟩ := info_parts Try.info23
  have hll := hown.len
  refine wpList_append_own (w := w0.alloc (.cells #[.slice (some ⟨gz, 0, none⟩) n n] 23)) hgd s x 32 ho base 23 i0 (.slice none 0 0) 1 24 Try.underlying32 hi hz0 hz1 hz2 rfl (by decide) v _ (L.map fun g => .slice (some ⟨g, 0, none⟩) n n) hs (World.ownsRow.alloc hown.own _)
    ⟨w0.heap.size, 0, none⟩ 1 1 [.slice (some ⟨gz, 0, none⟩) n n] hx rfl ?c1 ?c2 ?c3 ?c4 ?c5 ?_
  case c1 =>
    intro j u hj
    match j, hj with
    | 0, hj => simp at hj; subst hj; simp [Addr.add]
  case c2 => intro u hu; simp at hu; subst hu; rfl
  case c3 => rw [List.length_map]; unfold maxLen; omega
  case c4 => rw [List.length_map]; omega
  case c5 => simp; omega
  intro v' w' h1 h2 _
  have hkeep : ∀ g cs, BlkI w0 g cs → BlkI w' g cs := by
    intro g cs hb
    have hlt := heapLt (show w0.heap[g]? = some _ from hb)
    have hb2 : BlkI (w0.alloc (.cells #[.slice (some ⟨gz, 0, none⟩) n n] 23)) g cs := hb.below ((Below.refl _ w0).alloc (Nat.le_refl _) _)
    unfold BlkI at hb2 ⊢
    rw [h2.block g (by simp; omega) (fun e => hown.own.far hb e.symm)]
    exact hb2
  have hwr : ∀ g zs, WrI w0 g 0 zs → WrI w' g 0 zs := fun g zs ⟨cs, k1, k2⟩ => ⟨cs, hkeep g cs k1, k2⟩
  refine h v' w' ⟨?_, by simp [hll], fun i g y hg hy => ?_⟩ ?_
  · simpa [OwnL] using h1
  · rcases Nat.lt_or_ge i L.length with hi | hi
    · rw [List.getElem?_append_left hi] at hg
      rw [List.getElem?_append_left (by omega)] at hy
      obtain ⟨k1, k2⟩ := hown.at_ i g y hg hy
      exact ⟨hwr g y k1, k2⟩
    · have hi2 : i = L.length := by
        have := (List.getElem?_eq_some_iff.1 hg).1
        simp at this
        omega
      subst hi2
      rw [List.getElem?_append_right (Nat.le_refl _), Nat.sub_self] at hg
      rw [hll, List.getElem?_append_right (Nat.le_refl _), Nat.sub_self] at hy
      cases hg
      cases hy
      exact ⟨hwr _ _ hz, hzl⟩
  · exact ((Below.refl base w0).alloc hbase _).grown h2 (by simp; omega) hown.own.block
end Go.Proofs.Ytbamocalhojmeaa
