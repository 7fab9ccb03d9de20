/- The chapter's examples, reckoned by the kernel. -/
import Derived.Test.YtinofdmdfhklpaaDoorSpec
namespace Go.Proofs.YtinofdmdfhklpaaDoor

theorem k1 : lexS [120, 49, 61, 50, 46, 53, 59] = ⟨[⟨1, [120, 49], 0, 0⟩, ⟨4, [61], 2, 0⟩, ⟨3, [50, 46, 53], 3, 4612811918334230528⟩, ⟨4, [59], 6, 0⟩], 0, 0⟩ := by decide +kernel
theorem k2 : lexS [97, 60, 61, 98, 38, 38, 33, 99] = ⟨[⟨1, [97], 0, 0⟩, ⟨4, [60, 61], 1, 0⟩, ⟨1, [98], 3, 0⟩, ⟨4, [38, 38], 4, 0⟩, ⟨4, [33], 6, 0⟩, ⟨1, [99], 7, 0⟩], 0, 0⟩ := by decide +kernel
theorem k3 : lexS [48, 32, 35, 32, 97, 108, 108, 32, 57] = ⟨[⟨2, [48], 0, 0⟩], 0, 0⟩ := by decide +kernel
theorem f1 : lexS [49, 97] = ⟨[], 4, 1⟩ := by decide +kernel
theorem f2 : lexS [48, 49] = ⟨[], 4, 0⟩ := by decide +kernel
theorem f3 : lexS [57, 50, 50, 51, 51, 55, 50, 48, 51, 54, 56, 53, 52, 55, 55, 53, 56, 48, 56] = ⟨[], 4, 0⟩ := by decide +kernel
theorem f4 : lexS [49, 46, 32] = ⟨[], 4, 1⟩ := by decide +kernel
theorem f5 : lexS [97, 32, 38, 32, 98] = ⟨[], 4, 2⟩ := by decide +kernel
theorem f6 : lexS [36] = ⟨[], 4, 0⟩ := by decide +kernel
theorem f7 : lexS [97, 98, 99, 100, 101, 102, 103, 104, 105, 106, 107, 108, 109, 110, 111, 112, 113, 114, 115, 116, 117, 118, 119, 120, 121] = ⟨[], 5, 0⟩ := by decide +kernel

end Go.Proofs.YtinofdmdfhklpaaDoor
