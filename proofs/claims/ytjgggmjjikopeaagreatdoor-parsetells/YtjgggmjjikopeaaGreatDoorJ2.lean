/- J -/
import Derived.WalkKit
import Derived.Test.YtjgggmjjikopeaaGreatDoorRows
open Go.RowKit
namespace Go.Proofs.YtjgggmjjikopeaaGreatDoor
abbrev zb := @Hid.out
abbrev zr := @bodyPost_ret
abbrev zR := @Tryz.underlying43
abbrev zj := @Nat.le_refl
abbrev zQ := @Nat.le_trans
abbrev zt := @beq_eq_false_iff_ne
abbrev ze := @if_neg
abbrev zi := @if_pos
abbrev zN := @decide_eq_false
abbrev yy := @decide_eq_true
abbrev yD := @List.getElem?_eq_getElem
abbrev Zy := @Nat.lt_of_lt_of_le
abbrev VX := @List.length_cons
abbrev yN := @List.length_append
abbrev yC := @List.length_drop
abbrev Yj := @List.length_take
abbrev Y1 := @Nat.le_of_lt
abbrev yZ := @Option.some.inj
abbrev Kp := @List.mem_cons
abbrev X4 := @List.append_assoc
abbrev Vm := @Nat.zero_le
abbrev Yz := @decide_eq_true_eq
abbrev yX := @Bool.and_eq_true
abbrev Kz := @List.getElem?_append_right
abbrev KA := @List.getElem?_append_left
abbrev XP := @Nat.add_sub_cancel_left
abbrev ZV := @Bool.false_eq_true
abbrev Y8 := @List.take_succ_cons
abbrev JG := @List.length_nil
abbrev Yi := @List.map_cons
abbrev Ze := @List.length_map
