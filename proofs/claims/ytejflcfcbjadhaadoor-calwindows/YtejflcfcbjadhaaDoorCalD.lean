/-
  The program's cal does what the laws ask of it.
  Conditions: none.
-/
import Derived.Test.YtejflcfcbjadhaaDoorCalDb
import Derived.Test.YtejflcfcbjadhaaDoorCalDc
import Derived.Test.YtejflcfcbjadhaaDoorCalDw
namespace Go.Proofs.YtejflcfcbjadhaaDoor
open Go.RowKit
set_option maxRecDepth 20000

theorem caChk : CaChk := ⟨fun c w _ => chk_any c w⟩
theorem caRes : CaRes := ⟨fun l w tb _ => (res_any l w tb).mono fun e w' h => ⟨h.1, by rw [h.2]; exact Below.refl _ _⟩⟩
theorem caFlo : CaFlo := ⟨fun a l w tb ha _ => by obtain ⟨h0, h1⟩ := i64_of_wf ha; exact floor_any a l w tb h0 h1⟩
theorem caHor : CaHor := ⟨fun c now l w hc hn _ => hor_any c now l w hc hn⟩
theorem caLev : CaLev := ⟨fun c now day w hc hn _ => lev_any c now day w hc hn⟩
theorem caCoa : CaCoa := ⟨fun s t w tb _ _ => (coa_any s t w tb).mono fun e w' h => ⟨h.1, by rw [h.2]; exact Below.refl _ _⟩⟩
theorem caWin : CaWin := ⟨fun s t n w hs ht hn => win_any s t n w hs ht hn⟩
end Go.Proofs.YtejflcfcbjadhaaDoor
