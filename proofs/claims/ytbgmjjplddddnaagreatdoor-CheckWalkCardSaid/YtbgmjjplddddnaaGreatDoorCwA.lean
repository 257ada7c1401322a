import Derived.Test.YtbgmjjplddddnaaGreatDoorRiP
import Derived.Test.YtbgmjjplddddnaaGreatDoorRiR
import Derived.Test.YtbgmjjplddddnaaGreatDoorProg
import Derived.KernelRfl
set_option linter.unusedSimpArgs false
set_option linter.unusedVariables false
set_option maxRecDepth 100000
namespace Go.Proofs.YtbgmjjplddddnaaGreatDoor
open Go.Lift
def tab:List (TypeId×Ty):=[(2,(.int .i64)),(3,(.int .i64)),(4,.bool),(5,(.int .u8)),(9,.str),(23,(.pair (.int .u8) (.pair (.int .i64) (.pair (.int .i64) (.pair (.int .i64) .unit))))),(24,(.slice (.pair (.int .u8) (.pair (.int .i64) (.pair (.int .i64) (.pair (.int .i64) .unit)))))),(27,(.slice (.pair (.int .u8) (.pair (.int .i64) (.pair (.int .i64) (.pair (.slice (.pair .str (.pair (.int .i64) .unit))) .unit)))))),(28,(.slice .str)),(29,(.slice (.pair .str (.pair (.int .i64) (.pair (.int .i64) (.pair (.slice (.pair .str (.pair (.int .i64) .unit))) (.pair (.slice (.pair (.int .u8) (.pair (.int .i64) (.pair (.int .i64) (.pair (.int .i64) .unit))))) (.pair (.slice (.pair (.int .i64) (.pair (.int .u64) .unit))) (.pair (.slice (.pair (.int .i64) (.pair (.int .u64) .unit))) .unit))))))))),(31,(.pair (.slice (.pair (.int .u8) (.pair (.int .i64) (.pair (.int .i64) (.pair (.slice (.pair .str (.pair (.int .i64) .unit))) .unit))))) (.pair (.slice .str) (.pair (.slice (.pair .str (.pair (.int .i64) (.pair (.int .i64) (.pair (.slice (.pair .str (.pair (.int .i64) .unit))) (.pair (.slice (.pair (.int .u8) (.pair (.int .i64) (.pair (.int .i64) (.pair (.int .i64) .unit))))) (.pair (.slice (.pair (.int .i64) (.pair (.int .u64) .unit))) (.pair (.slice (.pair (.int .i64) (.pair (.int .u64) .unit))) .unit)))))))) .unit)))),(33,(.int .i64)),(35,(.slice (.pair .str (.pair (.int .i64) .unit)))),(36,(.slice (.pair (.int .i64) (.pair (.int .u64) .unit)))),(38,(.pair .str (.pair (.int .i64) (.pair (.int .i64) (.pair (.slice (.pair .str (.pair (.int .i64) .unit))) (.pair (.slice (.pair (.int .u8) (.pair (.int .i64) (.pair (.int .i64) (.pair (.int .i64) .unit))))) (.pair (.slice (.pair (.int .i64) (.pair (.int .u64) .unit))) (.pair (.slice (.pair (.int .i64) (.pair (.int .u64) .unit))) .unit)))))))),(39,(.int .u64)),(41,(.pair (.int .i64) (.pair (.int .u64) .unit))),(44,(.slice (.int .i64))),(76,(.slice (.int .u8))),(80,(.pair (.int .u8) (.pair (.int .i64) (.pair (.int .i64) (.pair (.slice (.pair .str (.pair (.int .i64) .unit))) .unit))))),(82,(.pair .str (.pair (.int .i64) .unit))),(84,.fn),(91,(.pair (.pair (.slice (.pair (.int .u8) (.pair (.int .i64) (.pair (.int .i64) (.pair (.slice (.pair .str (.pair (.int .i64) .unit))) .unit))))) (.pair (.slice .str) (.pair (.slice (.pair .str (.pair (.int .i64) (.pair (.int .i64) (.pair (.slice (.pair .str (.pair (.int .i64) .unit))) (.pair (.slice (.pair (.int .u8) (.pair (.int .i64) (.pair (.int .i64) (.pair (.int .i64) .unit))))) (.pair (.slice (.pair (.int .i64) (.pair (.int .u64) .unit))) (.pair (.slice (.pair (.int .i64) (.pair (.int .u64) .unit))) .unit)))))))) .unit))) (.pair (.pair .str (.pair (.int .i64) (.pair (.int .i64) (.pair (.slice (.pair .str (.pair (.int .i64) .unit))) (.pair (.slice (.pair (.int .u8) (.pair (.int .i64) (.pair (.int .i64) (.pair (.int .i64) .unit))))) (.pair (.slice (.pair (.int .i64) (.pair (.int .u64) .unit))) (.pair (.slice (.pair (.int .i64) (.pair (.int .u64) .unit))) .unit))))))) .unit))),(106,(.arr 3 (.int .i64))),(124,(.slice (.int .u64))),(145,(.int .u8)),(147,.fn),(152,(.slice .bool)),(155,(.slice (.slice (.int .i64)))),(178,.fn),(181,(.slice (.pair (.int .i64) (.pair (.int .i64) .unit)))),(185,(.pair (.int .i64) (.pair (.int .i64) .unit))),(187,(.arr 3 (.int .u8))),(189,(.pair .str (.pair (.arr 3 (.int .u8)) .unit))),(190,(.arr 35 (.pair .str (.pair (.arr 3 (.int .u8)) .unit)))),(201,.fn),(203,.fn),(205,.fn),(207,.fn),(219,.fn),(222,.fn),(226,.fn),(232,(.mp .str .bool)),(234,(.int .u64)),(242,.fn),(243,(.arr 10 (.int .u8))),(244,(.slice (.slice (.int .u8))))]
theorem mixed:Tryz.prog.follows .mixedOrders=true:=by kernel_rfl
theorem aM:CY Tryz.prog tab:=Uk (by kernel_rfl) (by kernel_rfl) (by kernel_rfl)
def QGm:List (TypeId×Ty):=[(2,(.int .i64)),(3,(.int .i64)),(4,.bool),(5,(.int .u8)),(9,.str),(23,(.pair (.int .u8) (.pair (.int .i64) (.pair (.int .i64) (.pair (.int .i64) .unit))))),(24,(.slice (.pair (.int .u8) (.pair (.int .i64) (.pair (.int .i64) (.pair (.int .i64) .unit)))))),(27,(.slice (.pair (.int .u8) (.pair (.int .i64) (.pair (.int .i64) (.pair (.slice (.pair .str (.pair (.int .i64) .unit))) .unit)))))),(28,(.slice .str)),(29,(.slice (.pair .str (.pair (.int .i64) (.pair (.int .i64) (.pair (.slice (.pair .str (.pair (.int .i64) .unit))) (.pair (.slice (.pair (.int .u8) (.pair (.int .i64) (.pair (.int .i64) (.pair (.int .i64) .unit))))) (.pair (.slice (.pair (.int .i64) (.pair (.int .u64) .unit))) (.pair (.slice (.pair (.int .i64) (.pair (.int .u64) .unit))) .unit))))))))),(31,(.pair (.slice (.pair (.int .u8) (.pair (.int .i64) (.pair (.int .i64) (.pair (.slice (.pair .str (.pair (.int .i64) .unit))) .unit))))) (.pair (.slice .str) (.pair (.slice (.pair .str (.pair (.int .i64) (.pair (.int .i64) (.pair (.slice (.pair .str (.pair (.int .i64) .unit))) (.pair (.slice (.pair (.int .u8) (.pair (.int .i64) (.pair (.int .i64) (.pair (.int .i64) .unit))))) (.pair (.slice (.pair (.int .i64) (.pair (.int .u64) .unit))) (.pair (.slice (.pair (.int .i64) (.pair (.int .u64) .unit))) .unit)))))))) .unit)))),(33,(.int .i64)),(35,(.slice (.pair .str (.pair (.int .i64) .unit)))),(36,(.slice (.pair (.int .i64) (.pair (.int .u64) .unit)))),(38,(.pair .str (.pair (.int .i64) (.pair (.int .i64) (.pair (.slice (.pair .str (.pair (.int .i64) .unit))) (.pair (.slice (.pair (.int .u8) (.pair (.int .i64) (.pair (.int .i64) (.pair (.int .i64) .unit))))) (.pair (.slice (.pair (.int .i64) (.pair (.int .u64) .unit))) (.pair (.slice (.pair (.int .i64) (.pair (.int .u64) .unit))) .unit)))))))),(39,(.int .u64)),(41,(.pair (.int .i64) (.pair (.int .u64) .unit))),(44,(.nes (.int .i64))),(76,(.slice (.int .u8))),(80,(.pair (.int .u8) (.pair (.int .i64) (.pair (.int .i64) (.pair (.slice (.pair .str (.pair (.int .i64) .unit))) .unit))))),(82,(.pair .str (.pair (.int .i64) .unit))),(84,.fn),(91,(.pair (.pair (.slice (.pair (.int .u8) (.pair (.int .i64) (.pair (.int .i64) (.pair (.slice (.pair .str (.pair (.int .i64) .unit))) .unit))))) (.pair (.slice .str) (.pair (.slice (.pair .str (.pair (.int .i64) (.pair (.int .i64) (.pair (.slice (.pair .str (.pair (.int .i64) .unit))) (.pair (.slice (.pair (.int .u8) (.pair (.int .i64) (.pair (.int .i64) (.pair (.int .i64) .unit))))) (.pair (.slice (.pair (.int .i64) (.pair (.int .u64) .unit))) (.pair (.slice (.pair (.int .i64) (.pair (.int .u64) .unit))) .unit)))))))) .unit))) (.pair (.pair .str (.pair (.int .i64) (.pair (.int .i64) (.pair (.slice (.pair .str (.pair (.int .i64) .unit))) (.pair (.slice (.pair (.int .u8) (.pair (.int .i64) (.pair (.int .i64) (.pair (.int .i64) .unit))))) (.pair (.slice (.pair (.int .i64) (.pair (.int .u64) .unit))) (.pair (.slice (.pair (.int .i64) (.pair (.int .u64) .unit))) .unit))))))) .unit))),(106,(.arr 3 (.int .i64))),(124,(.slice (.int .u64))),(145,(.int .u8)),(147,.fn),(152,(.slice .bool)),(155,(.slice (.nes (.int .i64)))),(178,.fn),(181,(.slice (.pair (.int .i64) (.pair (.int .i64) .unit)))),(185,(.pair (.int .i64) (.pair (.int .i64) .unit))),(187,(.arr 3 (.int .u8))),(189,(.pair .str (.pair (.arr 3 (.int .u8)) .unit))),(190,(.arr 35 (.pair .str (.pair (.arr 3 (.int .u8)) .unit)))),(201,.fn),(203,.fn),(205,.fn),(207,.fn),(219,.fn),(222,.fn),(226,.fn),(232,(.mp .str .bool)),(234,(.int .u64)),(242,.fn),(243,(.arr 10 (.int .u8))),(244,(.slice (.slice (.int .u8))))]
theorem QFX:CY Tryz.prog QGm:=Uk (by kernel_rfl) (by kernel_rfl) (by kernel_rfl)
abbrev Zw:Type:=(List Int)×(Int×(Int×((List ((List Int)×(Int×Unit)))×((List (Int×(Int×(Int×(Int×Unit)))))×((List (Int×(Int×Unit)))×((List (Int×(Int×Unit)))×Unit))))))
abbrev Zx:Type:=(List (Int×(Int×(Int×((List ((List Int)×(Int×Unit)))×Unit)))))×((List (List Int))×((List Zw)×Unit))
abbrev Zy:Type:=List Int
abbrev Zz:Type:=Int×(Int×(Int×((List (Zy×(Int×Unit)))×Unit)))
abbrev aA:Type:=Int×(Int×(Int×(Int×Unit)))
abbrev aB:Type:=List (Int×(Int×Unit))
abbrev aC:Type:=List (Zy×(Int×Unit))
abbrev aD:Type:=Zx×(Zw×Unit)
abbrev aF:Type:=List aA
abbrev aG:Type:=List Zz
abbrev rJ:Type:=List Bool
abbrev yx:Type:=Int×(Int×Unit)
abbrev Y12:Type:=List Zy
abbrev Y13:Type:=aD×(Unit×(Y12×(Unit×Unit)))
abbrev lZ:Type:=Zy×Int
abbrev Y15:Type:=Int×(Unit×(Unit×(Unit×Unit)))
abbrev Y16:Type:=List (Zy×Bool)
abbrev Y17:Type:=List Zw
abbrev Y18:Type:=Y12×Bool
abbrev Y19:Type:=Int×Int×Int
abbrev Y20:Type:=Int×Unit
abbrev Y21:Type:=Zy×Zy×Int
abbrev Y22:Type:=Zy×Int×Int
abbrev Y23:Type:=Zy×Bool
abbrev Y24:Type:=Zy×Zy
abbrev Z0:Ty:=.pair .str (.pair (.int .i64) (.pair (.int .i64) (.pair (.slice (.pair .str (.pair (.int .i64) .unit))) (.pair (.slice (.pair (.int .u8) (.pair (.int .i64) (.pair (.int .i64) (.pair (.int .i64) .unit))))) (.pair (.slice (.pair (.int .i64) (.pair (.int .u64) .unit))) (.pair (.slice (.pair (.int .i64) (.pair (.int .u64) .unit))) .unit))))))
abbrev Z1:Ty:=.pair (.slice (.pair (.int .u8) (.pair (.int .i64) (.pair (.int .i64) (.pair (.slice (.pair .str (.pair (.int .i64) .unit))) .unit))))) (.pair (.slice .str) (.pair (.slice Z0) .unit))
abbrev Z2:Ty:=.int .i64
abbrev Z3:Ty:=.pair (.int .u8) (.pair Z2 (.pair Z2 (.pair Z2 .unit)))
abbrev Z4:Ty:=.pair (.int .u8) (.pair Z2 (.pair Z2 (.pair (.slice (.pair .str (.pair Z2 .unit))) .unit)))
abbrev Z5:Ty:=.slice Z2
abbrev Z6:Ty:=.slice (.pair Z2 (.pair (.int .u64) .unit))
abbrev Z7:Ty:=.pair Z1 (.pair Z0 .unit)
abbrev Z8:Ty:=.slice (.int .u8)
abbrev Z9:Ty:=.slice (.pair .str (.pair Z2 .unit))
abbrev yT:Ty:=.int .u64
abbrev mo:Ty:=.int .u8
abbrev Z12:Ty:=.pair Z2 (.pair Z2 .unit)
abbrev ru:Ty:=.slice Z3
abbrev wh:Ty:=.slice Z4
abbrev y5:Ty:=.slice yT
abbrev Z16:Ty:=.slice .bool
abbrev Z17:Ty:=.arr 3 Z2
abbrev Z18:Ty:=.pair Z2 (.pair yT .unit)
abbrev Y25:Type:=Int×Zy×Int×Int×aF×Zy×Zy×Int×Zy×rJ×aF×rJ×Zy
abbrev Y26:Type:=Int×Zy×Int×Int×Zy×Zy×Bool×aF×rJ×Zy×aF
abbrev Y27:Type:=Int×Zy×Int×Int×Int×Int×Zx×Zw×Zy×aA×Zy
abbrev Y28:Type:=Zy×Int×Int×aG×Int×Int×aC×Int×Int×Zy
abbrev Y29:Type:=aF×Zy×Zy×Int×Zy×rJ×aF×rJ×Zy
abbrev Y30:Type:=Int×Zy×Int×Int×rJ×aF×rJ×Zy
abbrev Y31:Type:=Zy×Int×Int×aF×Zy×Zy×Int×Bool
abbrev Y32:Type:=aF×Int×Int×Int×Int×Zy×Zy×rJ
abbrev Y33:Type:=Int×Int×Zy×Zy×Int×aF×Int×Int
abbrev Y34:Type:=aG×Int×Int×Int×Int×Zy×Zy×Zy
abbrev Y35:Type:=Int×Zy×Int×Int×Int×Zx×Zw×Zy
abbrev Y36:Type:=aB×aC×Int×Int×yx×Zy×yx
abbrev Y37:Type:=aF×Int×Int×aF×Int×Int×Zy
abbrev Y38:Type:=Zy×Zy×aC×Int×Int×Int×Zy
abbrev Y39:Type:=Zy×Zy×Bool×aF×rJ×Zy×aF
abbrev Y40:Type:=Zy×Zy×Int×Int×Y12×aD
abbrev Y41:Type:=Zy×aF×Int×Int×aD×Zy
abbrev Y42:Type:=Y17×Int×Y17×Int×Int
abbrev Y43:Type:=Y12×Int×Y12×Int×Int
abbrev Y44:Type:=Int×aC×Int×Int×Y16
abbrev Y45:Type:=Int×Nat×Nat×Int×Zy
abbrev Y46:Type:=Int×Int×Int×Zx×Zw
abbrev Y47:Type:=aC×Int×aC×Int×Int
abbrev Y48:Type:=Int×aB×Int×Int×Zy
abbrev Y49:Type:=Y12×Int×Int×Zy×Zx
abbrev Y50:Type:=Zy×Int×Int×aD×Int
abbrev Y51:Type:=aF×Int×Int×aD×rJ
abbrev Y52:Type:=Zy×Int×Zy×Int×Int
abbrev Y53:Type:=Zy×Int×Int×aD×Y12
abbrev Y54:Type:=Zy×Y17×Int×Int×Zx
abbrev Y55:Type:=aG×Int×Int×Zy×Zy
abbrev Y56:Type:=Int×Int×Zx×Zy×Zw
abbrev Y57:Type:=Zy×aG×Int×Int×Zy
abbrev Y58:Type:=aF×Int×Int×Zy×Zw
abbrev Y59:Type:=aC×Int×Int×Zy×Zw
abbrev Y60:Type:=aG×Int×Int×Zy×Zx
abbrev Y61:Type:=Int×Int×aD×aA×Zy
abbrev Y62:Type:=Int×Int×Zx×aA×Zy
abbrev Y63:Type:=Zy×Int×Int×aD×Zy
abbrev Y64:Type:=Zy×Int×Zy×Zy×Zy
abbrev Y65:Type:=Zy×Int×Int×Int
abbrev Y66:Type:=Y12×Int×Int×Zy
abbrev Y67:Type:=aC×Int×Int×Zy
abbrev Y68:Type:=rJ×aF×rJ×Zy
abbrev Y69:Type:=aF×Zy×Zy×Bool
abbrev Y70:Type:=aF×Int×Int×Zy
abbrev Y71:Type:=Zy×Int×Int×Zy
abbrev Y72:Type:=Zy×Int×Zy×Zy
abbrev Y73:Type:=aG×Int×Int
abbrev Y74:Type:=Int×Int×Zx
abbrev Y75:Type:=aB×Int×Int
abbrev Y76:Type:=Zy×Int×Int
abbrev Y77:Type:=aF×Int×Int
abbrev Y78:Type:=aG×Int×Zy
abbrev Y79:Type:=Zy×Int×Zy
abbrev yO:Type:=Int×Zx×Zy
abbrev Y81:Type:=Int×Int
abbrev zi:Type:=aG×Int
abbrev Y83:Type:=Int×Zx
def QZp:LT:={ live:=[(3,[1,5,10,11,12])],keep:=[] }
def QZz:LT:={ live:=[(3,[1,5,10,11,12])],keep:=[] }
def Qa2:LT:={ live:=[(3,[0,2,13,14,15])],keep:=[] }
def QWW:LT:={ live:=[(3,[0,2,13,14,15])],keep:=[] }
def Qa4:LT:={ live:=[(3,[0,2,13,14,15])],keep:=[] }
def Qa5:LT:={ live:=[(3,[0,2,13,14,15])],keep:=[] }
def Qa7:LT:={ live:=[(3,[0,2,13,14,15])],keep:=[] }
def Qa9:LT:={ live:=[],keep:=[] }
def QWa:LT:={ live:=[(3,[1,4,13,14])],keep:=[(25,[1,4,13,14])] }
def QaF:LT:={ live:=[(4,[0,3]),(9,[0,3,4,5])],keep:=[] }
def QRY:LT:={ live:=[(3,[0,1,3,4]),(7,[0,1,3,4,5,30,31,32])],keep:=[(39,[0,1,3,4,5,7,30,31,32])],stk:=[4] }
def QRZ:LT:={ live:=[],keep:=[] }
def QVu:LT:={ live:=[],keep:=[] }
def QVv:LT:={ live:=[],keep:=[(12,[2]),(18,[3])] }
def QVw:LT:={ live:=[],keep:=[] }
def QW0:LT:={ live:=[],keep:=[] }
def QJQ:LT:={ live:=[(2,[0,1,7,8])],keep:=[(16,[0,1,5,7,8])] }
def QJR:LT:={ live:=[],keep:=[(7,[])] }
def QJS:LT:={ live:=[(6,[2,3,6,43,44,45])],keep:=[] }
def QWE:LT:={ live:=[],keep:=[] }
def QWG:LT:={ live:=[],keep:=[] }
def QZc:LT:={ live:=[],keep:=[] }
noncomputable def QY7:Bn:={ tab:=tab,fs:=[],inl:=[] }
def wV (x:Y81):Option (Bool):=
 (bif (decide (x.1≥0)) then (some (decide (x.1 < x.2))) else (some false))
def aU (x:Y81):Option (Bool):=wV x
def QQi:U0:=⟨[Z2,Z2],[.bool],[false],fun x=>aU x⟩
theorem QVd:Hw Tryz.prog 204 QQi:=rz (E:=QY7) (lt:=QZc) (lv:=6) (N:=big) ⟨aM,Yc,fun _ _ _=>rfl,mixed,Yt,Y0,Yz⟩ Tryz.func204 fun x _ h=>Eq.trans (b:=aU x) (by kernel_rfl) h
def QZe:LT:={ live:=[],keep:=[] }
noncomputable def QY8:Bn:={ tab:=tab,fs:=[],inl:=[] }
def uM (x:Int):Option (Bool):=
 (bif (decide (x≥97)) then (bif (decide (x<=122)) then (some true) else (bif (decide (x≥65)) then (some (decide (x<=90))) else (some false))) else (bif (decide (x≥65)) then (some (decide (x<=90))) else (some false)))
def kG (x:Int):Option (Bool):=uM x
def QUC:U0:=⟨[mo],[.bool],[false],fun x=>kG x⟩
theorem QYr:Hw Tryz.prog 211 QUC:=rz (E:=QY8) (lt:=QZe) (lv:=6) (N:=big) ⟨aM,Yc,fun _ _ _=>rfl,mixed,Yt,Y0,Yz⟩ Tryz.func211 fun x _ h=>Eq.trans (b:=kG x) (by kernel_rfl) h
def QZf:LT:={ live:=[],keep:=[] }
noncomputable def QY9:Bn:={ tab:=tab,fs:=[],inl:=[] }
def wU (x:Int):Option (Bool):=
 (bif (decide (x≥48)) then (some (decide (x<=57))) else (some false))
def qD (x:Int):Option (Bool):=wU x
def QUD:U0:=⟨[mo],[.bool],[false],fun x=>qD x⟩
theorem QYs:Hw Tryz.prog 212 QUD:=rz (E:=QY9) (lt:=QZf) (lv:=6) (N:=big) ⟨aM,Yc,fun _ _ _=>rfl,mixed,Yt,Y0,Yz⟩ Tryz.func212 fun x _ h=>Eq.trans (b:=qD x) (by kernel_rfl) h
def QRH:LT:={ live:=[(4,[0,18,19])],keep:=[] }
noncomputable def QNT:Bn:={ tab:=tab,fs:=[(211,QUC),(212,QUD)],inl:=[] }
noncomputable def QG2 (v:Y76):St:={ s:=[(0,(.val ⟨.str,v.1⟩)),(18,(.val ⟨Z2,v.2.1⟩)),(19,(.val ⟨Z2,v.2.2⟩))],l:=[],k:=[],b:=4096 }
def mM (aI:Y76->Option (Bool)) (v:Y76):Option (Bool):=
 (bif (decide (v.2.2 < v.2.1)) then ((Nk v.1 v.2.2).bind fun x3=>((kG x3).bind fun x4=>(bif (!x4) then ((Nk v.1 v.2.2).bind fun x5=>((qD x5).bind fun x6=>(bif (!x6) then (some false) else (let x7:Int:=(IntKind.i64.wrap (v.2.2+1));(aI (v.1,v.2.1,x7)))))) else (let x8:Int:=(IntKind.i64.wrap (v.2.2+1));(aI (v.1,v.2.1,x8)))))) else (some true))
def qM (N:Nat) (aI:Y76->Option (Bool)) (v:Y76):Option (Bool):=mM aI v
theorem QRt (N:Nat) (s0:St->Option (Bool)) (v):(ZR (QNT) QRH 6 N Tryz.f198 [.bool] [false] [] 0 Xv) s0 (QG2 v)=qM N (fun v=>s0 (QG2 v)) v:=by kernel_rfl
def vF (aL:Y76->Option (Bool)) (x:Zy):Option (Bool):=
 (bif (JW .str x ([]:List Int)) then (some false) else (bif (decide ((List.length x:Int) > 16)) then (some false) else ((Nk x (0:Int)).bind fun x1=>((kG x1).bind fun x2=>(bif (!x2) then (some false) else (aL (x,(List.length x:Int),(0:Int))))))))
def QBs (N:Nat) (x:Zy):Option (Bool):=vF (Gb (qM N) N) x
theorem Qaa (N:Nat) (x:Zy):rise (QNT) QRH 6 N Tryz.f198 [.str] [.bool] [false] x=QBs N x:=Eq.trans (b:=vF (fun v=>Ot (ZR (QNT) QRH 6 N Tryz.f198 [.bool] [false] [] 0 Xv) N (QG2 v)) x) (by kernel_rfl) (by rw [funext (Tf QG2 (QRt N) N)];rfl)
def qB (x:Zy):Option (Bool):=QBs big x
def QNo:U0:=⟨[.str],[.bool],[false],fun x=>qB x⟩
theorem QQx:Hw Tryz.prog 198 QNo:=rz (E:=QNT) ⟨aM,(YH QYr (YH QYs Yc)),fun _ _ _=>rfl,mixed,Yt,Y0,Yz⟩ Tryz.func198 fun _ _ h=>(Qaa big _).trans h
def QRI:LT:={ live:=[(5,[1,5,17,18,19])],keep:=[] }
noncomputable def QNU:Bn:={ tab:=tab,fs:=[(198,QNo),(204,QQi)],inl:=[] }
noncomputable def QG3 (v:Y44):St:={ s:=[(1,(.val ⟨Z2,v.1⟩)),(5,(.mp 0)),(17,(.val ⟨Z9,v.2.1⟩)),(18,(.val ⟨Z2,v.2.2.1⟩)),(19,(.val ⟨Z2,v.2.2.2.1⟩))],l:=[(0,.mp .str .bool v.2.2.2.2)],k:=[],b:=4096 }
def iH (aI:Y44->Option (Bool)) (v:Y44):Option (Bool):=
 (bif (decide (v.2.2.2.1 < v.2.2.1)) then ((Nk v.2.1 v.2.2.2.1).bind fun x1=>((qB x1.1).bind fun x2=>(bif (!x2) then (some false) else (bif (@Pw .str .bool x1.1 false v.2.2.2.2).1 then (some false) else ((aU (x1.2.1,v.1)).bind fun x3=>(bif (!x3) then (some false) else (let x4:Y16:=(@MO .str .bool x1.1 true v.2.2.2.2);(let x5:Int:=(IntKind.i64.wrap (v.2.2.2.1+1));(aI (v.1,v.2.1,v.2.2.1,x5,x4)))))))))) else (some true))
def iD (N:Nat) (aI:Y44->Option (Bool)) (v:Y44):Option (Bool):=iH aI v
theorem QRu (N:Nat) (s0:St->Option (Bool)) (v):(ZR (QNU) QRI 6 N Tryz.f205 [.bool] [false] [] 0 Xv) s0 (QG3 v)=iD N (fun v=>s0 (QG3 v)) v:=by kernel_rfl
def om (aL:Y44->Option (Bool)) (x:aC×Int):Option (Bool):=
 (bif (decide ((List.length x.1:Int) < 1)) then (some false) else (bif (decide ((List.length x.1:Int) > 8)) then (some false) else (aL (x.2,x.1,(List.length x.1:Int),(0:Int),([]:List Y23)))))
def zu (N:Nat) (x:aC×Int):Option (Bool):=om (Gb (iD N) N) x
theorem Qab (N:Nat) (x:aC×Int):rise (QNU) QRI 6 N Tryz.f205 [Z9,Z2] [.bool] [false] x=zu N x:=Eq.trans (b:=om (fun v=>Ot (ZR (QNU) QRI 6 N Tryz.f205 [.bool] [false] [] 0 Xv) N (QG3 v)) x) (by kernel_rfl) (by rw [funext (Tf QG3 (QRu N) N)];rfl)
def dH (x:aC×Int):Option (Bool):=zu big x
def QUE:U0:=⟨[Z9,Z2],[.bool],[false],fun x=>dH x⟩
theorem QYt:Hw Tryz.prog 205 QUE:=rz (E:=QNU) ⟨aM,(YH QQx (YH QVd Yc)),fun _ _ _=>rfl,mixed,Yt,Y0,Yz⟩ Tryz.func205 fun _ _ h=>(Qab big _).trans h
def QZg:LT:={ live:=[],keep:=[] }
noncomputable def QYA:Bn:={ tab:=tab,fs:=[(204,QQi),(205,QUE)],inl:=[] }
def wT (x:Zz×Int×Int):Option (Bool):=
 (bif (x.1.1==1) then (bif (x.1.1==1) then (bif (x.1.2.1==0) then (bif (x.1.2.2.1==0) then (some ((List.length x.1.2.2.2.1:Int)==0)) else (some false)) else (some false)) else (bif (x.1.1==4) then (bif (x.1.1==4) then ((aU (x.1.2.1,x.2.2)).bind fun x1=>(bif x1 then (bif (x.1.2.2.1==0) then (some ((List.length x.1.2.2.2.1:Int)==0)) else (some false)) else (some false))) else (bif (x.1.1==6) then ((aU (x.1.2.1,x.2.1)).bind fun x2=>(bif x2 then (bif (decide (x.1.2.2.1≥1)) then (bif (decide (x.1.2.2.1<=16)) then (some ((List.length x.1.2.2.2.1:Int)==0)) else (some false)) else (some false)) else (some false))) else (bif (x.1.1==5) then (bif (x.1.2.1==0) then (bif (x.1.2.2.1==0) then ((dH (x.1.2.2.2.1,x.2.1)).bind fun x3=>(some x3)) else (some false)) else (some false)) else (some false)))) else (bif (x.1.1==7) then ((aU (x.1.2.1,x.2.2)).bind fun x4=>(bif x4 then (bif (x.1.2.2.1==0) then (some ((List.length x.1.2.2.2.1:Int)==0)) else (some false)) else (some false))) else (bif (x.1.1==6) then ((aU (x.1.2.1,x.2.1)).bind fun x5=>(bif x5 then (bif (decide (x.1.2.2.1≥1)) then (bif (decide (x.1.2.2.1<=16)) then (some ((List.length x.1.2.2.2.1:Int)==0)) else (some false)) else (some false)) else (some false))) else (bif (x.1.1==5) then (bif (x.1.2.1==0) then (bif (x.1.2.2.1==0) then ((dH (x.1.2.2.2.1,x.2.1)).bind fun x6=>(some x6)) else (some false)) else (some false)) else (some false)))))) else (bif (x.1.1==2) then (bif (x.1.1==2) then (bif (x.1.2.1==0) then (bif (x.1.2.2.1==0) then (some ((List.length x.1.2.2.2.1:Int)==0)) else (some false)) else (some false)) else (bif (x.1.1==4) then (bif (x.1.1==4) then ((aU (x.1.2.1,x.2.2)).bind fun x7=>(bif x7 then (bif (x.1.2.2.1==0) then (some ((List.length x.1.2.2.2.1:Int)==0)) else (some false)) else (some false))) else (bif (x.1.1==6) then ((aU (x.1.2.1,x.2.1)).bind fun x8=>(bif x8 then (bif (decide (x.1.2.2.1≥1)) then (bif (decide (x.1.2.2.1<=16)) then (some ((List.length x.1.2.2.2.1:Int)==0)) else (some false)) else (some false)) else (some false))) else (bif (x.1.1==5) then (bif (x.1.2.1==0) then (bif (x.1.2.2.1==0) then ((dH (x.1.2.2.2.1,x.2.1)).bind fun x9=>(some x9)) else (some false)) else (some false)) else (some false)))) else (bif (x.1.1==7) then ((aU (x.1.2.1,x.2.2)).bind fun gH=>(bif gH then (bif (x.1.2.2.1==0) then (some ((List.length x.1.2.2.2.1:Int)==0)) else (some false)) else (some false))) else (bif (x.1.1==6) then ((aU (x.1.2.1,x.2.1)).bind fun nV=>(bif nV then (bif (decide (x.1.2.2.1≥1)) then (bif (decide (x.1.2.2.1<=16)) then (some ((List.length x.1.2.2.2.1:Int)==0)) else (some false)) else (some false)) else (some false))) else (bif (x.1.1==5) then (bif (x.1.2.1==0) then (bif (x.1.2.2.1==0) then ((dH (x.1.2.2.2.1,x.2.1)).bind fun pU=>(some pU)) else (some false)) else (some false)) else (some false)))))) else (bif (x.1.1==3) then (bif (x.1.2.1==0) then (bif (x.1.2.2.1==0) then (some ((List.length x.1.2.2.2.1:Int)==0)) else (some false)) else (some false)) else (bif (x.1.1==4) then (bif (x.1.1==4) then ((aU (x.1.2.1,x.2.2)).bind fun rE=>(bif rE then (bif (x.1.2.2.1==0) then (some ((List.length x.1.2.2.2.1:Int)==0)) else (some false)) else (some false))) else (bif (x.1.1==6) then ((aU (x.1.2.1,x.2.1)).bind fun kM=>(bif kM then (bif (decide (x.1.2.2.1≥1)) then (bif (decide (x.1.2.2.1<=16)) then (some ((List.length x.1.2.2.2.1:Int)==0)) else (some false)) else (some false)) else (some false))) else (bif (x.1.1==5) then (bif (x.1.2.1==0) then (bif (x.1.2.2.1==0) then ((dH (x.1.2.2.2.1,x.2.1)).bind fun jf=>(some jf)) else (some false)) else (some false)) else (some false)))) else (bif (x.1.1==7) then ((aU (x.1.2.1,x.2.2)).bind fun vU=>(bif vU then (bif (x.1.2.2.1==0) then (some ((List.length x.1.2.2.2.1:Int)==0)) else (some false)) else (some false))) else (bif (x.1.1==6) then ((aU (x.1.2.1,x.2.1)).bind fun yQ=>(bif yQ then (bif (decide (x.1.2.2.1≥1)) then (bif (decide (x.1.2.2.1<=16)) then (some ((List.length x.1.2.2.2.1:Int)==0)) else (some false)) else (some false)) else (some false))) else (bif (x.1.1==5) then (bif (x.1.2.1==0) then (bif (x.1.2.2.1==0) then ((dH (x.1.2.2.2.1,x.2.1)).bind fun x18=>(some x18)) else (some false)) else (some false)) else (some false))))))))
def qC (x:Zz×Int×Int):Option (Bool):=wT x
def QUF:U0:=⟨[Z4,Z2,Z2],[.bool],[false],fun x=>qC x⟩
theorem QYu:Hw Tryz.prog 190 QUF:=rz (E:=QYA) (lt:=QZg) (lv:=6) (N:=big) ⟨aM,(YH QVd (YH QYt Yc)),fun _ _ _=>rfl,mixed,Yt,Y0,Yz⟩ Tryz.func190 fun x _ h=>Eq.trans (b:=qC x) (by kernel_rfl) h
def QMM:LT:={ live:=[(3,[1,5,14,15,16]),(15,[1,5,6,8,14,15,16,57,58,59])],keep:=[] }
noncomputable def QKM (mk:(α:Type)->Nat->α->List α):Bn:={ tab:=tab,fs:=[],inl:=[],rep:=mk }
noncomputable def QG4 (v:Y28):St:={ s:=[(1,(.val ⟨Z5,v.1⟩)),(5,(.row 0)),(6,(.val ⟨Z2,v.2.1⟩)),(8,(.val ⟨Z2,v.2.2.1⟩)),(14,(.val ⟨wh,v.2.2.2.1⟩)),(15,(.val ⟨Z2,v.2.2.2.2.1⟩)),(16,(.val ⟨Z2,v.2.2.2.2.2.1⟩)),(57,(.val ⟨Z9,v.2.2.2.2.2.2.1⟩)),(58,(.val ⟨Z2,v.2.2.2.2.2.2.2.1⟩)),(59,(.val ⟨Z2,v.2.2.2.2.2.2.2.2.1⟩))],l:=[(0,.row Z2 v.2.2.2.2.2.2.2.2.2)],k:=[],b:=4096 }
noncomputable def QCe (v:Y57):St:={ s:=[(1,(.val ⟨Z5,v.1⟩)),(5,(.row 0)),(14,(.val ⟨wh,v.2.1⟩)),(15,(.val ⟨Z2,v.2.2.1⟩)),(16,(.val ⟨Z2,v.2.2.2.1⟩))],l:=[(0,.row Z2 v.2.2.2.2)],k:=[],b:=4096 }
def jX (mk:(α:Type)->Nat->α->List α) (aI:Y57->Option (Zy)) (aJ:Y28->Option (Zy)) (v:Y28):Option (Zy):=
 (bif (decide (v.2.2.2.2.2.2.2.2.1 < v.2.2.2.2.2.2.2.1)) then ((Nk v.2.2.2.2.2.2.1 v.2.2.2.2.2.2.2.2.1).bind fun x20=>(bif (decide (0<=x20.2.1)&&decide (x20.2.1 < (List.length v.2.2.2.2.2.2.2.2.2:Int))) then ((nth v.2.2.2.2.2.2.2.2.2 (Int.toNat x20.2.1)).bind fun x21=>(let x22:Int:=(IntKind.i64.wrap (v.2.2.1+x21));(let x23:Int:=(IntKind.i64.wrap (v.2.2.2.2.2.2.2.2.1+1));(aJ (v.1,v.2.1,x22,v.2.2.2.1,v.2.2.2.2.1,v.2.2.2.2.2.1,v.2.2.2.2.2.2.1,v.2.2.2.2.2.2.2.1,x23,v.2.2.2.2.2.2.2.2.2))))) else none)) else (let x24:Int:=(if (5001:Int) < v.2.2.1 then (5001:Int) else v.2.2.1);(bif (decide (0<=v.2.1)&&decide (v.2.1 < (List.length v.2.2.2.2.2.2.2.2.2:Int))) then (let x25:Zy:=(List.set v.2.2.2.2.2.2.2.2.2 (Int.toNat v.2.1) x24);(let x26:Int:=(IntKind.i64.wrap (v.2.2.2.2.2.1+1));(aI (v.1,v.2.2.2.1,v.2.2.2.2.1,x26,x25)))) else none)))
def rT (mk:(α:Type)->Nat->α->List α) (N:Nat) (aI:Y57->Option (Zy)) (aJ:Y28->Option (Zy)) (v:Y28):Option (Zy):=jX mk aI aJ v
theorem QRw (mk:(α:Type)->Nat->α->List α) (N:Nat) (s0:St->Option (Zy)) (s1:St->Option (Zy)) (v):(ZR (QKM mk) QMM 6 N Tryz.f207 [Z5] [true] [] 1 (Yx s0 Xv)) s1 (QG4 v)=rT mk N (fun v=>s0 (QCe v)) (fun v=>s1 (QG4 v)) v:=by kernel_rfl
def fQ (mk:(α:Type)->Nat->α->List α) (bH:Y28->Option (Zy)) (aI:Y57->Option (Zy)) (v:Y57):Option (Zy):=
 (bif (decide (v.2.2.2.1 < v.2.2.1)) then ((Nk v.2.1 v.2.2.2.1).bind fun x2=>(bif (x2.1==4) then ((Nk v.1 x2.2.1).bind fun x3=>(let x4:Int:=(IntKind.i64.wrap ((1:Int)+x3));(let x5:Int:=(if (5001:Int) < x4 then (5001:Int) else x4);(bif (decide (0<=v.2.2.2.1)&&decide (v.2.2.2.1 < (List.length v.2.2.2.2:Int))) then (let x6:Zy:=(List.set v.2.2.2.2 (Int.toNat v.2.2.2.1) x5);(let x7:Int:=(IntKind.i64.wrap (v.2.2.2.1+1));(aI (v.1,v.2.1,v.2.2.1,x7,x6)))) else none)))) else (bif (x2.1==7) then ((Nk v.1 x2.2.1).bind fun x8=>(let x9:Int:=(IntKind.i64.wrap ((16:Int) * x8));(let gH:Int:=(IntKind.i64.wrap ((1:Int)+x9));(let nV:Int:=(if (5001:Int) < gH then (5001:Int) else gH);(bif (decide (0<=v.2.2.2.1)&&decide (v.2.2.2.1 < (List.length v.2.2.2.2:Int))) then (let pU:Zy:=(List.set v.2.2.2.2 (Int.toNat v.2.2.2.1) nV);(let rE:Int:=(IntKind.i64.wrap (v.2.2.2.1+1));(aI (v.1,v.2.1,v.2.2.1,rE,pU)))) else none))))) else (bif (x2.1==6) then (bif (decide (0<=x2.2.1)&&decide (x2.2.1 < (List.length v.2.2.2.2:Int))) then ((nth v.2.2.2.2 (Int.toNat x2.2.1)).bind fun kM=>(let jf:Int:=(IntKind.i64.wrap (x2.2.2.1 * kM));(let vU:Int:=(IntKind.i64.wrap ((1:Int)+jf));(let yQ:Int:=(if (5001:Int) < vU then (5001:Int) else vU);(bif (decide (0<=v.2.2.2.1)&&decide (v.2.2.2.1 < (List.length v.2.2.2.2:Int))) then (let x18:Zy:=(List.set v.2.2.2.2 (Int.toNat v.2.2.2.1) yQ);(let zh:Int:=(IntKind.i64.wrap (v.2.2.2.1+1));(aI (v.1,v.2.1,v.2.2.1,zh,x18)))) else none))))) else none) else (bif (x2.1==5) then (bH (v.1,v.2.2.2.1,(1:Int),v.2.1,v.2.2.1,v.2.2.2.1,x2.2.2.2.1,(List.length x2.2.2.2.1:Int),(0:Int),v.2.2.2.2)) else (let x27:Int:=(if (5001:Int) < 1 then (5001:Int) else (1:Int));(bif (decide (0<=v.2.2.2.1)&&decide (v.2.2.2.1 < (List.length v.2.2.2.2:Int))) then (let x28:Zy:=(List.set v.2.2.2.2 (Int.toNat v.2.2.2.1) x27);(let x29:Int:=(IntKind.i64.wrap (v.2.2.2.1+1));(aI (v.1,v.2.1,v.2.2.1,x29,x28)))) else none))))))) else (some v.2.2.2.2))
def nL (mk:(α:Type)->Nat->α->List α) (N:Nat) (aI:Y57->Option (Zy)) (v:Y57):Option (Zy):=fQ mk (Gb (rT mk N aI) N) aI v
theorem QRv (mk:(α:Type)->Nat->α->List α) (N:Nat) (s0:St->Option (Zy)) (v):(ZR (QKM mk) QMM 6 N Tryz.f207 [Z5] [true] [] 0 Xv) s0 (QCe v)=nL mk N (fun v=>s0 (QCe v)) v:=Eq.trans (b:=fQ mk (fun v=>Ot (ZR (QKM mk) QMM 6 N Tryz.f207 [Z5] [true] [] 1 (Yx s0 Xv)) N (QG4 v)) (fun v=>s0 (QCe v)) v) (by kernel_rfl) (by rw [funext (Tf QG4 (QRw mk N s0) N)];rfl)
def q8 (mk:(α:Type)->Nat->α->List α) (aL:Y57->Option (Zy)) (x:aG×Zy):Option (Zy):=
 (bif (decide (0<=(List.length x.1:Int))&&(decide ((List.length x.1:Int)<=(List.length x.1:Int))&&(decide ((List.length x.1:Int)<=68719476736)&&true))) then (let x1:Zy:=(mk Int (Int.toNat (List.length x.1:Int)) (0:Int));(aL (x.2,x.1,(List.length x.1:Int),(0:Int),x1))) else none)
def QAK (mk:(α:Type)->Nat->α->List α) (N:Nat) (x:aG×Zy):Option (Zy):=q8 mk (Gb (nL mk N) N) x
theorem Qac (mk:(α:Type)->Nat->α->List α) (N:Nat) (x:aG×Zy):rise (QKM mk) QMM 6 N Tryz.f207 [wh,Z5] [Z5] [true] x=QAK mk N x:=Eq.trans (b:=q8 mk (fun v=>Ot (ZR (QKM mk) QMM 6 N Tryz.f207 [Z5] [true] [] 0 Xv) N (QCe v)) x) (by kernel_rfl) (by rw [funext (Tf QCe (QRv mk N) N)];rfl)
def vZ (x:aG×Zy):Option (Zy):=QAK (fun _=>List.replicate) big x
def QUG:U0:=⟨[wh,Z5],[Z5],[true],fun x=>vZ x⟩
theorem QYv:Hw Tryz.prog 207 QUG:=rz (E:=QKM (fun _=>List.replicate)) ⟨aM,Yc,fun _ _ _=>rfl,mixed,Yt,Y0,Yz⟩ Tryz.func207 fun _ _ h=>(Qac (fun _=>List.replicate) big _).trans h
def QRJ:LT:={ live:=[(3,[0,3,7])],keep:=[] }
noncomputable def QNV (mk:(α:Type)->Nat->α->List α):Bn:={ tab:=tab,fs:=[(207,QUG)],inl:=[],rep:=mk }
noncomputable def QG5 (v:Y78):St:={ s:=[(0,(.val ⟨wh,v.1⟩)),(3,(.row 0)),(7,(.val ⟨Z2,v.2.1⟩))],l:=[(0,.row Z2 v.2.2)],k:=[],b:=4096 }
def uI (mk:(α:Type)->Nat->α->List α) (aI:Y78->Option (Zy)) (v:Y78):Option (Zy):=
 (bif (decide (v.2.1 < 4)) then ((vZ (v.1,v.2.2)).bind fun x2=>(let x3:Int:=(IntKind.i64.wrap (v.2.1+1));(aI (v.1,x3,x2)))) else (some v.2.2))
def oQ (mk:(α:Type)->Nat->α->List α) (N:Nat) (aI:Y78->Option (Zy)) (v:Y78):Option (Zy):=uI mk aI v
theorem QRx (mk:(α:Type)->Nat->α->List α) (N:Nat) (s0:St->Option (Zy)) (v):(ZR (QNV mk) QRJ 6 N Tryz.f192 [Z5] [true] [] 0 Xv) s0 (QG5 v)=oQ mk N (fun v=>s0 (QG5 v)) v:=by kernel_rfl
def sW (mk:(α:Type)->Nat->α->List α) (aL:Y78->Option (Zy)) (x:aG):Option (Zy):=
 (bif (decide (0<=(List.length x:Int))&&(decide ((List.length x:Int)<=(List.length x:Int))&&(decide ((List.length x:Int)<=68719476736)&&true))) then (let x1:Zy:=(mk Int (Int.toNat (List.length x:Int)) (0:Int));(aL (x,(0:Int),x1))) else none)
def QAu (mk:(α:Type)->Nat->α->List α) (N:Nat) (x:aG):Option (Zy):=sW mk (Gb (oQ mk N) N) x
theorem Qad (mk:(α:Type)->Nat->α->List α) (N:Nat) (x:aG):rise (QNV mk) QRJ 6 N Tryz.f192 [wh] [Z5] [true] x=QAu mk N x:=Eq.trans (b:=sW mk (fun v=>Ot (ZR (QNV mk) QRJ 6 N Tryz.f192 [Z5] [true] [] 0 Xv) N (QG5 v)) x) (by kernel_rfl) (by rw [funext (Tf QG5 (QRx mk N) N)];rfl)
def xY (x:aG):Option (Zy):=QAu (fun _=>List.replicate) big x
def QUH:U0:=⟨[wh],[Z5],[true],fun x=>xY x⟩
theorem QYw:Hw Tryz.prog 192 QUH:=rz (E:=QNV (fun _=>List.replicate)) ⟨aM,(YH QYv Yc),fun _ _ _=>rfl,mixed,Yt,Y0,Yz⟩ Tryz.func192 fun _ _ h=>(Qad (fun _=>List.replicate) big _).trans h
def QRK:LT:={ live:=[(2,[0,1,7,8])],keep:=[] }
noncomputable def QNW:Bn:={ tab:=tab,fs:=[],inl:=[] }
noncomputable def QG6 (v:Y65):St:={ s:=[(0,(.val ⟨Z5,v.1⟩)),(1,(.val ⟨Z2,v.2.1⟩)),(7,(.val ⟨Z2,v.2.2.1⟩)),(8,(.val ⟨Z2,v.2.2.2⟩))],l:=[],k:=[],b:=4096 }
def aY (aI:Y65->Option (Int)) (v:Y65):Option (Int):=
 (bif (decide (v.2.2.2 < v.2.2.1)) then ((Nk v.1 v.2.2.2).bind fun x1=>(bif (v.2.1==x1) then (some v.2.2.2) else (let x2:Int:=(IntKind.i64.wrap (v.2.2.2+1));(aI (v.1,v.2.1,v.2.2.1,x2))))) else (some (-1:Int)))
def eX (N:Nat) (aI:Y65->Option (Int)) (v:Y65):Option (Int):=aY aI v
theorem QRy (N:Nat) (s0:St->Option (Int)) (v):(ZR (QNW) QRK 6 N Tryz.f206 [Z2] [false] [] 0 Xv) s0 (QG6 v)=eX N (fun v=>s0 (QG6 v)) v:=by kernel_rfl
def gG (aL:Y65->Option (Int)) (x:Zy×Int):Option (Int):=
 (aL (x.1,x.2,(List.length x.1:Int),(0:Int)))
def rH (N:Nat) (x:Zy×Int):Option (Int):=gG (Gb (eX N) N) x
theorem Qae (N:Nat) (x:Zy×Int):rise (QNW) QRK 6 N Tryz.f206 [Z5,Z2] [Z2] [false] x=rH N x:=Eq.trans (b:=gG (fun v=>Ot (ZR (QNW) QRK 6 N Tryz.f206 [Z2] [false] [] 0 Xv) N (QG6 v)) x) (by kernel_rfl) (by rw [funext (Tf QG6 (QRy N) N)];rfl)
def ko (x:Zy×Int):Option (Int):=rH big x
def QUI:U0:=⟨[Z5,Z2],[Z2],[false],fun x=>ko x⟩
theorem QYx:Hw Tryz.prog 206 QUI:=rz (E:=QNW) ⟨aM,Yc,fun _ _ _=>rfl,mixed,Yt,Y0,Yz⟩ Tryz.func206 fun _ _ h=>(Qae big _).trans h
def QZh:LT:={ live:=[],keep:=[] }
noncomputable def QYB:Bn:={ tab:=tab,fs:=[(206,QUI)],inl:=[] }
def iX (x:Zy×Int):Option (Bool):=
 ((ko (x.1,x.2)).bind fun x1=>(some (decide (x1≥0))))
def bT (x:Zy×Int):Option (Bool):=iX x
def QUJ:U0:=⟨[Z5,Z2],[.bool],[false],fun x=>bT x⟩
theorem QYy:Hw Tryz.prog 191 QUJ:=rz (E:=QYB) (lt:=QZh) (lv:=6) (N:=big) ⟨aM,(YH QYx Yc),fun _ _ _=>rfl,mixed,Yt,Y0,Yz⟩ Tryz.func191 fun x _ h=>Eq.trans (b:=bT x) (by kernel_rfl) h
def QRL:LT:={ live:=[(4,[0,8,9,10])],keep:=[] }
noncomputable def QNX:Bn:={ tab:=tab,fs:=[(190,QUF),(191,QUJ),(192,QUH)],inl:=[] }
noncomputable def QG7 (v:aG×aG×Int×Int):St:={ s:=[(0,(.val ⟨wh,v.1⟩)),(8,(.val ⟨wh,v.2.1⟩)),(9,(.val ⟨Z2,v.2.2.1⟩)),(10,(.val ⟨Z2,v.2.2.2⟩))],l:=[],k:=[],b:=4096 }
def fq (aI:aG×aG×Int×Int->Option (Int)) (v:aG×aG×Int×Int):Option (Int):=
 (bif (decide (v.2.2.2 < v.2.2.1)) then ((Nk v.2.1 v.2.2.2).bind fun x1=>((qC (x1,v.2.2.2,(List.length v.1:Int))).bind fun x2=>(bif (!x2) then (some (8:Int)) else (let x3:Int:=(IntKind.i64.wrap (v.2.2.2+1));(aI (v.1,v.2.1,v.2.2.1,x3)))))) else ((xY v.1).bind fun x4=>((bT (x4,(5001:Int))).bind fun x5=>(bif x5 then (some (8:Int)) else (some (0:Int))))))
def qL (N:Nat) (aI:aG×aG×Int×Int->Option (Int)) (v:aG×aG×Int×Int):Option (Int):=fq aI v
theorem QRz (N:Nat) (s0:St->Option (Int)) (v):(ZR (QNX) QRL 6 N Tryz.f170 [Z2] [false] [] 0 Xv) s0 (QG7 v)=qL N (fun v=>s0 (QG7 v)) v:=by kernel_rfl
def vE (aL:aG×aG×Int×Int->Option (Int)) (x:aG):Option (Int):=
 (bif (decide ((List.length x:Int) > 32)) then (some (8:Int)) else (aL (x,x,(List.length x:Int),(0:Int))))
def QBr (N:Nat) (x:aG):Option (Int):=vE (Gb (qL N) N) x
theorem Qaf (N:Nat) (x:aG):rise (QNX) QRL 6 N Tryz.f170 [wh] [Z2] [false] x=QBr N x:=Eq.trans (b:=vE (fun v=>Ot (ZR (QNX) QRL 6 N Tryz.f170 [Z2] [false] [] 0 Xv) N (QG7 v)) x) (by kernel_rfl) (by rw [funext (Tf QG7 (QRz N) N)];rfl)
def zC (x:aG):Option (Int):=QBr big x
def QUK:U0:=⟨[wh],[Z2],[false],fun x=>zC x⟩
theorem QYz:Hw Tryz.prog 170 QUK:=rz (E:=QNX) ⟨aM,(YH QYu (YH QYy (YH QYw Yc))),fun _ _ _=>rfl,mixed,Yt,Y0,Yz⟩ Tryz.func170 fun _ _ h=>(Qaf big _).trans h
def QZi:LT:={ live:=[],keep:=[] }
noncomputable def QYC:Bn:={ tab:=tab,fs:=[],inl:=[] }
def uN (x:Y81):Option (Bool):=
 (bif (decide (x.1≥0)) then (some (decide (x.1 < x.2))) else (some false))
def oP (x:Y81):Option (Bool):=uN x
def QUL:U0:=⟨[Z2,Z2],[.bool],[false],fun x=>oP x⟩
theorem QZ0:Hw Tryz.prog 171 QUL:=rz (E:=QYC) (lt:=QZi) (lv:=6) (N:=big) ⟨aM,Yc,fun _ _ _=>rfl,mixed,Yt,Y0,Yz⟩ Tryz.func171 fun x _ h=>Eq.trans (b:=oP x) (by kernel_rfl) h
def QZj:LT:={ live:=[],keep:=[] }
noncomputable def QYD:Bn:={ tab:=tab,fs:=[],inl:=[] }
def rZ (x:Y81):Option (Int):=
 (let x1:Int:=(IntKind.i64.wrap (x.1+x.2));(let x2:Int:=(IntKind.i64.wrap (x1 - 1));(bif (x.2==0) then none else (let x3:Int:=(IntKind.i64.wrap (x2.tdiv x.2));(let x4:Int:=(IntKind.i64.wrap (x3 * x.2));(some x4))))))
def fM (x:Y81):Option (Int):=rZ x
def QQj:U0:=⟨[Z2,Z2],[Z2],[false],fun x=>fM x⟩
theorem QVe:Hw Tryz.prog 135 QQj:=rz (E:=QYD) (lt:=QZj) (lv:=6) (N:=big) ⟨aM,Yc,fun _ _ _=>rfl,mixed,Yt,Y0,Yz⟩ Tryz.func135 fun x _ h=>Eq.trans (b:=fM x) (by kernel_rfl) h
def QRM:LT:={ live:=[(4,[0,5,6,7,15,16,17])],keep:=[] }
noncomputable def QNY (mk:(α:Type)->Nat->α->List α):Bn:={ tab:=tab,fs:=[(135,QQj)],inl:=[],rep:=mk }
noncomputable def QG8 (v:Y36):St:={ s:=[(0,(.val ⟨(.slice Z12),v.1⟩)),(5,(.loc 0 [])),(6,(.row 1)),(7,(.loc 2 [])),(15,(.val ⟨Z9,v.2.1⟩)),(16,(.val ⟨Z2,v.2.2.1⟩)),(17,(.val ⟨Z2,v.2.2.2.1⟩))],l:=[(0,.var Z12 (.val ⟨Z12,v.2.2.2.2.1⟩)),(1,.row Z2 v.2.2.2.2.2.1),(2,.var Z12 (.val ⟨Z12,v.2.2.2.2.2.2⟩))],k:=[],b:=4096 }
def fu (mk:(α:Type)->Nat->α->List α) (aI:Y36->Option (Zy×yx)) (v:Y36):Option (Zy×yx):=
 (bif (decide (v.2.2.2.1 < v.2.2.1)) then ((Nk v.2.1 v.2.2.2.1).bind fun x3=>((Nk v.1 x3.2.1).bind fun x4=>((fM (v.2.2.2.2.2.2.1,x4.2.1)).bind fun x5=>(bif (decide (0<=v.2.2.2.1)&&decide (v.2.2.2.1 < (List.length v.2.2.2.2.2.1:Int))) then (let x6:Zy:=(List.set v.2.2.2.2.2.1 (Int.toNat v.2.2.2.1) x5);(bif (decide (0<=v.2.2.2.1)&&decide (v.2.2.2.1 < (List.length x6:Int))) then ((nth x6 (Int.toNat v.2.2.2.1)).bind fun x7=>(let x8:Int:=(IntKind.i64.wrap (x7+x4.1));(let x9:Int:=(if x4.2.1 > (x8,v.2.2.2.2.2.2.2).2.1 then x4.2.1 else (x8,v.2.2.2.2.2.2.2).2.1);(let gH:yx:=((x8,v.2.2.2.2.2.2.2).1,(x9,(x8,v.2.2.2.2.2.2.2).2.2));(let nV:Int:=(IntKind.i64.wrap (v.2.2.2.1+1));(aI (v.1,v.2.1,v.2.2.1,nV,v.2.2.2.2.1,x6,gH))))))) else none)) else none)))) else ((fM (v.2.2.2.2.2.2.1,v.2.2.2.2.2.2.2.1)).bind fun pU=>(some (v.2.2.2.2.2.1,(pU,v.2.2.2.2.2.2.2)))))
def jr (mk:(α:Type)->Nat->α->List α) (N:Nat) (aI:Y36->Option (Zy×yx)) (v:Y36):Option (Zy×yx):=fu mk aI v
theorem QS0 (mk:(α:Type)->Nat->α->List α) (N:Nat) (s0:St->Option (Zy×yx)) (v):(ZR (QNY mk) QRM 6 N Tryz.f208 [Z5,Z12] [true,false] [] 0 Xv) s0 (QG8 v)=jr mk N (fun v=>s0 (QG8 v)) v:=by kernel_rfl
def nT (mk:(α:Type)->Nat->α->List α) (aL:Y36->Option (Zy×yx)) (x:aB×aC):Option (Zy×yx):=
 (bif (decide (0<=(List.length x.2:Int))&&(decide ((List.length x.2:Int)<=(List.length x.2:Int))&&(decide ((List.length x.2:Int)<=68719476736)&&true))) then (let x1:Zy:=(mk Int (Int.toNat (List.length x.2:Int)) (0:Int));(let x2:yx:=((0:Int),((1:Int),()));(aL (x.1,x.2,(List.length x.2:Int),(0:Int),((0:Int),((0:Int),())),x1,x2)))) else none)
def yj (mk:(α:Type)->Nat->α->List α) (N:Nat) (x:aB×aC):Option (Zy×yx):=nT mk (Gb (jr mk N) N) x
theorem Qag (mk:(α:Type)->Nat->α->List α) (N:Nat) (x:aB×aC):rise (QNY mk) QRM 6 N Tryz.f208 [(.slice Z12),Z9] [Z5,Z12] [true,false] x=yj mk N x:=Eq.trans (b:=nT mk (fun v=>Ot (ZR (QNY mk) QRM 6 N Tryz.f208 [Z5,Z12] [true,false] [] 0 Xv) N (QG8 v)) x) (by kernel_rfl) (by rw [funext (Tf QG8 (QS0 mk N) N)];rfl)
def jC (x:aB×aC):Option (Zy×yx):=yj (fun _=>List.replicate) big x
def QUM:U0:=⟨[(.slice Z12),Z9],[Z5,Z12],[true,false],fun x=>jC x⟩
theorem QZ1:Hw Tryz.prog 208 QUM:=rz (E:=QNY (fun _=>List.replicate)) ⟨aM,(YH QVe Yc),fun _ _ _=>rfl,mixed,Yt,Y0,Yz⟩ Tryz.func208 fun _ _ h=>(Qag (fun _=>List.replicate) big _).trans h
def QZk:LT:={ live:=[],keep:=[] }
noncomputable def QYE:Bn:={ tab:=tab,fs:=[(208,QUM)],inl:=[] }
def rX (x:Zz×aB):Option (yx):=
 (bif (x.1.1==2) then (bif (x.1.1==2) then (let x1:yx:=((8:Int),((8:Int),()));(some x1)) else (bif (x.1.1==3) then (let x2:yx:=((16:Int),((8:Int),()));(some x2)) else (bif (x.1.1==7) then (let x3:yx:=((24:Int),((8:Int),()));(some x3)) else (bif (x.1.1==6) then ((Nk x.2 x.1.2.1).bind fun x4=>(let x5:Int:=(IntKind.i64.wrap (x.1.2.2.1 * x4.1));(some (x5,(x4.2.1,()))))) else (bif (x.1.1==5) then ((jC (x.2,x.1.2.2.2.1)).bind fun x6=>(some x6.2)) else (let x7:yx:=((1:Int),((1:Int),()));(some x7))))))) else (bif (x.1.1==4) then (let x8:yx:=((8:Int),((8:Int),()));(some x8)) else (bif (x.1.1==3) then (let x9:yx:=((16:Int),((8:Int),()));(some x9)) else (bif (x.1.1==7) then (let gH:yx:=((24:Int),((8:Int),()));(some gH)) else (bif (x.1.1==6) then ((Nk x.2 x.1.2.1).bind fun nV=>(let pU:Int:=(IntKind.i64.wrap (x.1.2.2.1 * nV.1));(some (pU,(nV.2.1,()))))) else (bif (x.1.1==5) then ((jC (x.2,x.1.2.2.2.1)).bind fun rE=>(some rE.2)) else (let kM:yx:=((1:Int),((1:Int),()));(some kM))))))))
def nD (x:Zz×aB):Option (yx):=rX x
def QUN:U0:=⟨[Z4,(.slice Z12)],[Z12],[false],fun x=>nD x⟩
theorem QZ2:Hw Tryz.prog 193 QUN:=rz (E:=QYE) (lt:=QZk) (lv:=6) (N:=big) ⟨aM,(YH QZ1 Yc),fun _ _ _=>rfl,mixed,Yt,Y0,Yz⟩ Tryz.func193 fun x _ h=>Eq.trans (b:=nD x) (by kernel_rfl) h
def QRN:LT:={ live:=[(3,[3,6,7,8])],keep:=[] }
noncomputable def QNZ:Bn:={ tab:=tab,fs:=[(193,QUN)],inl:=[] }
noncomputable def QG9 (v:aG×Int×Int×aB):St:={ s:=[(3,(.row 0)),(6,(.val ⟨wh,v.1⟩)),(7,(.val ⟨Z2,v.2.1⟩)),(8,(.val ⟨Z2,v.2.2.1⟩))],l:=[(0,.row Z12 v.2.2.2)],k:=[],b:=4096 }
def iI (aI:aG×Int×Int×aB->Option (aB)) (v:aG×Int×Int×aB):Option (aB):=
 (bif (decide (v.2.2.1 < v.2.1)) then ((Nk v.1 v.2.2.1).bind fun x1=>((nD (x1,v.2.2.2)).bind fun x2=>(let x3:aB:=([x2]:aB);(bif (Nat.ble 1 2&&Nat.ble (List.length v.2.2.2+List.length x3) lim) then (let x4:Int:=(IntKind.i64.wrap (v.2.2.1+1));(aI (v.1,v.2.1,x4,(List.append v.2.2.2 x3)))) else none)))) else (some v.2.2.2))
def lK (N:Nat) (aI:aG×Int×Int×aB->Option (aB)) (v:aG×Int×Int×aB):Option (aB):=iI aI v
theorem QS1 (N:Nat) (s0:St->Option (aB)) (v):(ZR (QNZ) QRN 6 N Tryz.f172 [(.slice Z12)] [true] [] 0 Xv) s0 (QG9 v)=lK N (fun v=>s0 (QG9 v)) v:=by kernel_rfl
def oo (aL:aG×Int×Int×aB->Option (aB)) (x:aG):Option (aB):=
 (aL (x,(List.length x:Int),(0:Int),([]:List yx)))
def zw (N:Nat) (x:aG):Option (aB):=oo (Gb (lK N) N) x
theorem Qah (N:Nat) (x:aG):rise (QNZ) QRN 6 N Tryz.f172 [wh] [(.slice Z12)] [true] x=zw N x:=Eq.trans (b:=oo (fun v=>Ot (ZR (QNZ) QRN 6 N Tryz.f172 [(.slice Z12)] [true] [] 0 Xv) N (QG9 v)) x) (by kernel_rfl) (by rw [funext (Tf QG9 (QS1 N) N)];rfl)
def tu (x:aG):Option (aB):=zw big x
def QUO:U0:=⟨[wh],[(.slice Z12)],[true],fun x=>tu x⟩
theorem QZ3:Hw Tryz.prog 172 QUO:=rz (E:=QNZ) ⟨aM,(YH QZ2 Yc),fun _ _ _=>rfl,mixed,Yt,Y0,Yz⟩ Tryz.func172 fun _ _ h=>(Qah big _).trans h
def QZl:LT:={ live:=[],keep:=[] }
noncomputable def QYF:Bn:={ tab:=tab,fs:=[(170,QUK),(171,QUL),(172,QUO)],inl:=[] }
def rY (x:zi):Option (aB×Int):=
 ((zC x.1).bind fun x1=>(bif (x1 != 0) then (some (([]:List yx),x1)) else ((oP (x.2,(List.length x.1:Int))).bind fun x2=>(bif (!x2) then (some (([]:List yx),(2:Int))) else ((tu x.1).bind fun x3=>(bif (decide (0<=x.2)&&decide (x.2 < (List.length x3:Int))) then ((nth x3 (Int.toNat x.2)).bind fun x4=>(bif (decide (x4.1 > 256)) then (some (([]:List yx),(16:Int))) else (some (x3,(0:Int))))) else none))))))
def nE (x:zi):Option (aB×Int):=rY x
def QUP:U0:=⟨[wh,Z2],[(.slice Z12),Z2],[true,false],fun x=>nE x⟩
theorem QZ4:Hw Tryz.prog 134 QUP:=rz (E:=QYF) (lt:=QZl) (lv:=6) (N:=big) ⟨aM,(YH QYz (YH QZ0 (YH QZ3 Yc))),fun _ _ _=>rfl,mixed,Yt,Y0,Yz⟩ Tryz.func134 fun x _ h=>Eq.trans (b:=nE x) (by kernel_rfl) h
def QZm:LT:={ live:=[],keep:=[] }
noncomputable def QYG:Bn:={ tab:=tab,fs:=[(134,QUP)],inl:=[] }
def zT (x:zi):Option Y19:=
 ((nE (x.1,x.2)).bind fun x1=>(bif (x1.2 != 0) then (some ((0:Int),(0:Int),x1.2)) else (bif (decide (0<=x.2)&&decide (x.2 < (List.length x1.1:Int))) then ((nth x1.1 (Int.toNat x.2)).bind fun x2=>(bif (decide (0<=x.2)&&decide (x.2 < (List.length x1.1:Int))) then ((nth x1.1 (Int.toNat x.2)).bind fun x3=>(some (x2.1,x3.2.1,(0:Int)))) else none)) else none)))
def qE (x:zi):Option Y19:=zT x
def QQk:U0:=⟨[wh,Z2],[Z2,Z2,Z2],[false,false,false],fun x=>qE x⟩
theorem QVf:Hw Tryz.prog 85 QQk:=rz (E:=QYG) (lt:=QZm) (lv:=6) (N:=big) ⟨aM,(YH QZ4 Yc),fun _ _ _=>rfl,mixed,Yt,Y0,Yz⟩ Tryz.func85 fun x _ h=>Eq.trans (b:=qE x) (by kernel_rfl) h
def QRO:LT:={ live:=[(2,[0,8,9])],keep:=[] }
noncomputable def QNa:Bn:={ tab:=tab,fs:=[(85,QQk)],inl:=[] }
noncomputable def QGA (v:Y73):St:={ s:=[(0,(.val ⟨wh,v.1⟩)),(8,(.val ⟨Z2,v.2.1⟩)),(9,(.val ⟨Z2,v.2.2⟩))],l:=[],k:=[],b:=4096 }
def qc (aI:Y73->Option (Bool)) (v:Y73):Option (Bool):=
 (bif (decide (v.2.2 < v.2.1)) then ((qE (v.1,v.2.2)).bind fun x1=>(bif (x1.2.2 != 0) then (some false) else (let x2:Int:=(IntKind.i64.wrap (v.2.2+1));(aI (v.1,v.2.1,x2))))) else (some true))
def eP (N:Nat) (aI:Y73->Option (Bool)) (v:Y73):Option (Bool):=qc aI v
theorem QS2 (N:Nat) (s0:St->Option (Bool)) (v):(ZR (QNa) QRO 6 N Tryz.f148 [.bool] [false] [] 0 Xv) s0 (QGA v)=eP N (fun v=>s0 (QGA v)) v:=by kernel_rfl
def oh (aL:Y73->Option (Bool)) (x:aG):Option (Bool):=
 (aL (x,(List.length x:Int),(0:Int)))
def zq (N:Nat) (x:aG):Option (Bool):=oh (Gb (eP N) N) x
theorem Qai (N:Nat) (x:aG):rise (QNa) QRO 6 N Tryz.f148 [wh] [.bool] [false] x=zq N x:=Eq.trans (b:=oh (fun v=>Ot (ZR (QNa) QRO 6 N Tryz.f148 [.bool] [false] [] 0 Xv) N (QGA v)) x) (by kernel_rfl) (by rw [funext (Tf QGA (QS2 N) N)];rfl)
def tq (x:aG):Option (Bool):=zq big x
def QUQ:U0:=⟨[wh],[.bool],[false],fun x=>tq x⟩
theorem QZ5:Hw Tryz.prog 148 QUQ:=rz (E:=QNa) ⟨aM,(YH QVf Yc),fun _ _ _=>rfl,mixed,Yt,Y0,Yz⟩ Tryz.func148 fun _ _ h=>(Qai big _).trans h
def QRP:LT:={ live:=[(4,[8,9,10])],keep:=[] }
noncomputable def QNb:Bn:={ tab:=tab,fs:=[],inl:=[] }
noncomputable def QGB (v:Y12×Int×Int):St:={ s:=[(8,(.val ⟨(.slice .str),v.1⟩)),(9,(.val ⟨Z2,v.2.1⟩)),(10,(.val ⟨Z2,v.2.2⟩))],l:=[],k:=[],b:=4096 }
def qb (aI:Y12×Int×Int->Option (Bool)) (v:Y12×Int×Int):Option (Bool):=
 (bif (decide (v.2.2 < v.2.1)) then ((Nk v.1 v.2.2).bind fun x1=>(bif (decide ((List.length x1:Int) > 64)) then (some false) else (let x2:Int:=(IntKind.i64.wrap (v.2.2+1));(aI (v.1,v.2.1,x2))))) else (some true))
def eO (N:Nat) (aI:Y12×Int×Int->Option (Bool)) (v:Y12×Int×Int):Option (Bool):=qb aI v
theorem QS3 (N:Nat) (s0:St->Option (Bool)) (v):(ZR (QNb) QRP 6 N Tryz.f149 [.bool] [false] [] 0 Xv) s0 (QGB v)=eO N (fun v=>s0 (QGB v)) v:=by kernel_rfl
def og (aL:Y12×Int×Int->Option (Bool)) (x:Y12):Option (Bool):=
 (bif (decide ((List.length x:Int) > 32)) then (some false) else (aL (x,(List.length x:Int),(0:Int))))
def zo (N:Nat) (x:Y12):Option (Bool):=og (Gb (eO N) N) x
theorem Qaj (N:Nat) (x:Y12):rise (QNb) QRP 6 N Tryz.f149 [(.slice .str)] [.bool] [false] x=zo N x:=Eq.trans (b:=og (fun v=>Ot (ZR (QNb) QRP 6 N Tryz.f149 [.bool] [false] [] 0 Xv) N (QGB v)) x) (by kernel_rfl) (by rw [funext (Tf QGB (QS3 N) N)];rfl)
def tZ (x:Y12):Option (Bool):=zo big x
def QUR:U0:=⟨[(.slice .str)],[.bool],[false],fun x=>tZ x⟩
theorem QZ6:Hw Tryz.prog 149 QUR:=rz (E:=QNb) ⟨aM,Yc,fun _ _ _=>rfl,mixed,Yt,Y0,Yz⟩ Tryz.func149 fun _ _ h=>(Qaj big _).trans h
def QZn:LT:={ live:=[],keep:=[] }
noncomputable def QYH:Bn:={ tab:=tab,fs:=[],inl:=[] }
def wQ (x:Y81):Option (Bool):=
 (bif (decide (x.1≥0)) then (some (decide (x.1 < x.2))) else (some false))
def l5 (x:Y81):Option (Bool):=wQ x
def QQl:U0:=⟨[Z2,Z2],[.bool],[false],fun x=>l5 x⟩
theorem QVg:Hw Tryz.prog 195 QQl:=rz (E:=QYH) (lt:=QZn) (lv:=6) (N:=big) ⟨aM,Yc,fun _ _ _=>rfl,mixed,Yt,Y0,Yz⟩ Tryz.func195 fun x _ h=>Eq.trans (b:=l5 x) (by kernel_rfl) h
def QZq:LT:={ live:=[],keep:=[] }
noncomputable def QYI:Bn:={ tab:=tab,fs:=[],inl:=[] }
def QCA (x:(Zy×Y20)):Option (Zy):=
 (some x.1)
def lJ (x:(Zy×Y20)):Option (Zy):=QCA x
def QUS:U0:=⟨[(.pair .str (.pair Z2 .unit))],[.str],[false],fun x=>lJ x⟩
theorem QZ7:Hw Tryz.prog 210 QUS:=rz (E:=QYI) (lt:=QZq) (lv:=6) (N:=big) ⟨aM,Yc,fun _ _ _=>rfl,mixed,Yt,Y0,Yz⟩ Tryz.func210 fun x _ h=>Eq.trans (b:=lJ x) (by kernel_rfl) h
def QMN:LT:={ live:=[(4,[0,1,10,11,12])],keep:=[(23,[])] }
noncomputable def QKN:Bn:={ tab:=tab,fs:=[(195,QQl),(198,QNo),(210,QUS)],inl:=[(209,Tryz.f209,QZp)] }
noncomputable def QOj (v:aC×Int×Int×Y16):St:={ s:=[(1,(.Ee 210 .unit)),(5,(.mp 0)),(10,(.val ⟨Z9,v.1⟩)),(11,(.val ⟨Z2,v.2.1⟩)),(12,(.val ⟨Z2,v.2.2.1⟩))],l:=[(0,.mp .str .bool v.2.2.2)],k:=[(4096,[])],b:=16875520 }
noncomputable def QCf (v:Y47):St:={ s:=[(0,(.val ⟨Z9,v.1⟩)),(1,(.val ⟨Z2,v.2.1⟩)),(10,(.val ⟨Z9,v.2.2.1⟩)),(11,(.val ⟨Z2,v.2.2.2.1⟩)),(12,(.val ⟨Z2,v.2.2.2.2⟩))],l:=[],k:=[],b:=4096 }
def qZ (aI:Y47->Option (Bool)) (aJ:aC×Int×Int×Y16->Option (Bool)) (v:aC×Int×Int×Y16):Option (Bool):=
 (bif (decide (v.2.2.1 < v.2.1)) then ((Nk v.1 v.2.2.1).bind fun x4=>((lJ x4).bind fun x5=>((qB x5).bind fun x6=>(bif (!x6) then (some false) else (bif (@Pw .str .bool x5 false v.2.2.2).1 then (some false) else (let x7:Y16:=(@MO .str .bool x5 true v.2.2.2);(let x8:Int:=(IntKind.i64.wrap (v.2.2.1+1));(aJ (v.1,v.2.1,x8,x7))))))))) else (some true))
def eH (N:Nat) (aI:Y47->Option (Bool)) (aJ:aC×Int×Int×Y16->Option (Bool)) (v:aC×Int×Int×Y16):Option (Bool):=qZ aI aJ v
theorem QaG (N:Nat) (s0:St->Option (Bool)) (s1:St->Option (Bool)) (v):(ZR (QKN) QMN 6 N Tryz.f194 [.bool] [false] [.call 9 1 209] 0 Xv) s1 (QOj v)=eH N (fun v=>s0 (QCf v)) (fun v=>s1 (QOj v)) v:=by kernel_rfl
def lS (bH:aC×Int×Int×Y16->Option (Bool)) (aI:Y47->Option (Bool)) (v:Y47):Option (Bool):=
 (bif (decide (v.2.2.2.2 < v.2.2.2.1)) then ((Nk v.2.2.1 v.2.2.2.2).bind fun x1=>((l5 (x1.2.1,v.2.1)).bind fun x2=>(bif (!x2) then (some false) else (let x3:Int:=(IntKind.i64.wrap (v.2.2.2.2+1));(aI (v.1,v.2.1,v.2.2.1,v.2.2.2.1,x3)))))) else (bH (v.1,(List.length v.1:Int),(0:Int),([]:List Y23))))
def eG (N:Nat) (aI:Y47->Option (Bool)) (v:Y47):Option (Bool):=lS (Gb (eH N aI) N) aI v
theorem QS4 (N:Nat) (s0:St->Option (Bool)) (v):(ZR (QKN) QMN 6 N Tryz.f194 [.bool] [false] [] 0 Xv) s0 (QCf v)=eG N (fun v=>s0 (QCf v)) v:=Eq.trans (b:=lS (fun v=>Ot (ZR (QKN) QMN 6 N Tryz.f194 [.bool] [false] [.call 9 1 209] 0 Xv) N (QOj v)) (fun v=>s0 (QCf v)) v) (by kernel_rfl) (by rw [funext (Tf QOj (QaG N s0) N)];rfl)
def oZ (aL:Y47->Option (Bool)) (x:aC×Int):Option (Bool):=
 (bif (decide ((List.length x.1:Int) > 16)) then (some false) else (aL (x.1,x.2,x.1,(List.length x.1:Int),(0:Int))))
def zn (N:Nat) (x:aC×Int):Option (Bool):=oZ (Gb (eG N) N) x
theorem Qak (N:Nat) (x:aC×Int):rise (QKN) QMN 6 N Tryz.f194 [Z9,Z2] [.bool] [false] x=zn N x:=Eq.trans (b:=oZ (fun v=>Ot (ZR (QKN) QMN 6 N Tryz.f194 [.bool] [false] [] 0 Xv) N (QCf v)) x) (by kernel_rfl) (by rw [funext (Tf QCf (QS4 N) N)];rfl)
def tY (x:aC×Int):Option (Bool):=zn big x
def QUT:U0:=⟨[Z9,Z2],[.bool],[false],fun x=>tY x⟩
theorem QZ8:Hw Tryz.prog 194 QUT:=rz (E:=QKN) ⟨aM,(YH QVg (YH QQx (YH QZ7 Yc))),fun _ _ _=>rfl,mixed,(YP (YO Tryz.func209 rfl rfl (by kernel_rfl)) Yt),Y0,Yz⟩ Tryz.func194 fun _ _ h=>(Qak big _).trans h
def QZr:LT:={ live:=[],keep:=[] }
noncomputable def QYJ:Bn:={ tab:=tab,fs:=[],inl:=[] }
def yt (x:Int):Option (Bool):=
 (bif (decide (x≥1)) then (some (decide (x<=34))) else (some false))
def jD (x:Int):Option (Bool):=yt x
def QUU:U0:=⟨[mo],[.bool],[false],fun x=>jD x⟩
theorem QZ9:Hw Tryz.prog 139 QUU:=rz (E:=QYJ) (lt:=QZr) (lv:=6) (N:=big) ⟨aM,Yc,fun _ _ _=>rfl,mixed,Yt,Y0,Yz⟩ Tryz.func139 fun x _ h=>Eq.trans (b:=jD x) (by kernel_rfl) h
def QZs:LT:={ live:=[],keep:=[] }
noncomputable def QYK:Bn:={ tab:=tab,fs:=[],inl:=[] }
def QEw (x:aA):Option (Zy):=
 (let x1:Zy:=[x.2.1,x.2.2.1,x.2.2.2.1];(some x1))
def kN (x:aA):Option (Zy):=QEw x
def QNp:U0:=⟨[Z3],[Z17],[false],fun x=>kN x⟩
theorem QQy:Hw Tryz.prog 140 QNp:=rz (E:=QYK) (lt:=QZs) (lv:=6) (N:=big) ⟨aM,Yc,fun _ _ _=>rfl,mixed,Yt,Y0,Yz⟩ Tryz.func140 fun x _ h=>Eq.trans (b:=kN x) (by kernel_rfl) h
def QZt:LT:={ live:=[],keep:=[] }
noncomputable def QYL:Bn:={ tab:=tab,fs:=[],inl:=[] }
def QCB (x:Y81):Option (Bool):=
 (bif (decide (x.1≥0)) then (some (decide (x.1 < x.2))) else (some false))
def aP (x:Y81):Option (Bool):=QCB x
def QUV:U0:=⟨[Z2,Z2],[.bool],[false],fun x=>aP x⟩
theorem QZA:Hw Tryz.prog 174 QUV:=rz (E:=QYL) (lt:=QZt) (lv:=6) (N:=big) ⟨aM,Yc,fun _ _ _=>rfl,mixed,Yt,Y0,Yz⟩ Tryz.func174 fun x _ h=>Eq.trans (b:=aP x) (by kernel_rfl) h
def QZu:LT:={ live:=[],keep:=[] }
noncomputable def QYM:Bn:={ tab:=tab,fs:=[(174,QUV)],inl:=[] }
def QFS (x:Y81):Option (Bool):=
 (bif (x.1==5) then (some true) else (bif (x.1==3) then (bif (x.1==3) then (bif (x.2==(-1:Int)) then (some true) else ((aP (x.2,(16:Int))).bind fun x1=>(some x1))) else (bif (x.1==1) then (bif (x.1==1) then ((aP (x.2,(16:Int))).bind fun x2=>(some x2)) else (bif (x.1==6) then ((aP (x.2,(2:Int))).bind fun x3=>(some x3)) else (bif (x.1==7) then ((aP (x.2,(32:Int))).bind fun x4=>(some x4)) else (bif (x.1==8) then ((aP (x.2,(8:Int))).bind fun x5=>(some x5)) else (bif (x.1==9) then ((aP (x.2,(32:Int))).bind fun x6=>(some x6)) else (bif (x.1==10) then ((aP (x.2,(200:Int))).bind fun x7=>(some x7)) else (some (x.2==0)))))))) else (bif (x.1==2) then ((aP (x.2,(16:Int))).bind fun x8=>(some x8)) else (bif (x.1==6) then ((aP (x.2,(2:Int))).bind fun x9=>(some x9)) else (bif (x.1==7) then ((aP (x.2,(32:Int))).bind fun gH=>(some gH)) else (bif (x.1==8) then ((aP (x.2,(8:Int))).bind fun nV=>(some nV)) else (bif (x.1==9) then ((aP (x.2,(32:Int))).bind fun pU=>(some pU)) else (bif (x.1==10) then ((aP (x.2,(200:Int))).bind fun rE=>(some rE)) else (some (x.2==0)))))))))) else (bif (x.1==4) then (bif (x.2==(-1:Int)) then (some true) else ((aP (x.2,(16:Int))).bind fun kM=>(some kM))) else (bif (x.1==1) then (bif (x.1==1) then ((aP (x.2,(16:Int))).bind fun jf=>(some jf)) else (bif (x.1==6) then ((aP (x.2,(2:Int))).bind fun vU=>(some vU)) else (bif (x.1==7) then ((aP (x.2,(32:Int))).bind fun yQ=>(some yQ)) else (bif (x.1==8) then ((aP (x.2,(8:Int))).bind fun x18=>(some x18)) else (bif (x.1==9) then ((aP (x.2,(32:Int))).bind fun zh=>(some zh)) else (bif (x.1==10) then ((aP (x.2,(200:Int))).bind fun x20=>(some x20)) else (some (x.2==0)))))))) else (bif (x.1==2) then ((aP (x.2,(16:Int))).bind fun x21=>(some x21)) else (bif (x.1==6) then ((aP (x.2,(2:Int))).bind fun x22=>(some x22)) else (bif (x.1==7) then ((aP (x.2,(32:Int))).bind fun x23=>(some x23)) else (bif (x.1==8) then ((aP (x.2,(8:Int))).bind fun x24=>(some x24)) else (bif (x.1==9) then ((aP (x.2,(32:Int))).bind fun x25=>(some x25)) else (bif (x.1==10) then ((aP (x.2,(200:Int))).bind fun x26=>(some x26)) else (some (x.2==0))))))))))))
def yV (x:Y81):Option (Bool):=QFS x
def QUW:U0:=⟨[mo,Z2],[.bool],[false],fun x=>yV x⟩
theorem QZB:Hw Tryz.prog 141 QUW:=rz (E:=QYM) (lt:=QZu) (lv:=6) (N:=big) ⟨aM,(YH QZA Yc),fun _ _ _=>rfl,mixed,Yt,Y0,Yz⟩ Tryz.func141 fun x _ h=>Eq.trans (b:=yV x) (by kernel_rfl) h
def QRQ:LT:={ live:=[(5,[3,16,17])],keep:=[] }
noncomputable def QNc:Bn:={ tab:=tab,fs:=[(139,QUU),(140,QNp),(141,QUW)],inl:=[] }
noncomputable def QGC (v:Y79):St:={ s:=[(3,(.loc 0 [])),(16,(.val ⟨(.arr 3 mo),v.1⟩)),(17,(.val ⟨Z2,v.2.1⟩))],l:=[(0,.var Z17 (.val ⟨Z17,v.2.2⟩))],k:=[],b:=4096 }
def zN (aI:Y79->Option (Int)) (v:Y79):Option (Int):=
 (bif (decide (v.2.1 < 3)) then ((Nk v.1 v.2.1).bind fun x4=>(bif (decide (0<=v.2.1)&&decide (v.2.1 < 3)) then ((nth v.2.2 (Int.toNat v.2.1)).bind fun x5=>((yV (x4,x5)).bind fun x6=>(bif (!x6) then (some (8:Int)) else (let x7:Int:=(IntKind.i64.wrap (v.2.1+1));(aI (v.1,x7,v.2.2)))))) else none)) else (some (0:Int)))
def uq (N:Nat) (aI:Y79->Option (Int)) (v:Y79):Option (Int):=zN aI v
theorem QS5 (N:Nat) (s0:St->Option (Int)) (v):(ZR (QNc) QRQ 6 N Tryz.f98 [Z2] [false] [] 0 Xv) s0 (QGC v)=uq N (fun v=>s0 (QGC v)) v:=by kernel_rfl
def zU (aL:Y79->Option (Int)) (x:aA):Option (Int):=
 ((jD x.1).bind fun x1=>(bif (!x1) then (some (8:Int)) else ((kN x).bind fun x2=>((Nk ZT x.1).bind fun x3=>(aL (x3.2.1,(0:Int),x2))))))
def QEU (N:Nat) (x:aA):Option (Int):=zU (Gb (uq N) N) x
theorem Qal (N:Nat) (x:aA):rise (QNc) QRQ 6 N Tryz.f98 [Z3] [Z2] [false] x=QEU N x:=Eq.trans (b:=zU (fun v=>Ot (ZR (QNc) QRQ 6 N Tryz.f98 [Z2] [false] [] 0 Xv) N (QGC v)) x) (by kernel_rfl) (by rw [funext (Tf QGC (QS5 N) N)];rfl)
def rQ (x:aA):Option (Int):=QEU big x
def QLe:U0:=⟨[Z3],[Z2],[false],fun x=>rQ x⟩
theorem QNq:Hw Tryz.prog 98 QLe:=rz (E:=QNc) ⟨aM,(YH QZ9 (YH QQy (YH QZB Yc))),fun _ _ _=>rfl,mixed,Yt,Y0,Yz⟩ Tryz.func98 fun _ _ h=>(Qal big _).trans h
def QRR:LT:={ live:=[(4,[13,14,15])],keep:=[] }
noncomputable def QNd:Bn:={ tab:=tab,fs:=[(98,QLe)],inl:=[] }
noncomputable def QGD (v:Y77):St:={ s:=[(13,(.val ⟨ru,v.1⟩)),(14,(.val ⟨Z2,v.2.1⟩)),(15,(.val ⟨Z2,v.2.2⟩))],l:=[],k:=[],b:=4096 }
def uH (aI:Y77->Option (Bool)) (v:Y77):Option (Bool):=
 (bif (decide (v.2.2 < v.2.1)) then ((Nk v.1 v.2.2).bind fun x1=>((rQ x1).bind fun x2=>(bif (x2 != 0) then (some false) else (let x3:Int:=(IntKind.i64.wrap (v.2.2+1));(aI (v.1,v.2.1,x3)))))) else (some true))
def gN (N:Nat) (aI:Y77->Option (Bool)) (v:Y77):Option (Bool):=uH aI v
theorem QS6 (N:Nat) (s0:St->Option (Bool)) (v):(ZR (QNd) QRR 6 N Tryz.f196 [.bool] [false] [] 0 Xv) s0 (QGD v)=gN N (fun v=>s0 (QGD v)) v:=by kernel_rfl
def sV (aL:Y77->Option (Bool)) (x:aF):Option (Bool):=
 (bif (decide ((List.length x:Int) < 1)) then (some false) else (bif (decide ((List.length x:Int) > 200)) then (some false) else (aL (x,(List.length x:Int),(0:Int)))))
def QAt (N:Nat) (x:aF):Option (Bool):=sV (Gb (gN N) N) x
theorem Qam (N:Nat) (x:aF):rise (QNd) QRR 6 N Tryz.f196 [ru] [.bool] [false] x=QAt N x:=Eq.trans (b:=sV (fun v=>Ot (ZR (QNd) QRR 6 N Tryz.f196 [.bool] [false] [] 0 Xv) N (QGD v)) x) (by kernel_rfl) (by rw [funext (Tf QGD (QS6 N) N)];rfl)
def sG (x:aF):Option (Bool):=QAt big x
def QUX:U0:=⟨[ru],[.bool],[false],fun x=>sG x⟩
theorem QZC:Hw Tryz.prog 196 QUX:=rz (E:=QNd) ⟨aM,(YH QNq Yc),fun _ _ _=>rfl,mixed,Yt,Y0,Yz⟩ Tryz.func196 fun _ _ h=>(Qam big _).trans h
def QZv:LT:={ live:=[],keep:=[] }
noncomputable def QYN:Bn:={ tab:=tab,fs:=[],inl:=[] }
def uP (x:Int):Option (Bool):=
 (bif (decide (x≥1)) then (some (decide (x<=200))) else (some false))
def kH (x:Int):Option (Bool):=uP x
def QQm:U0:=⟨[Z2],[.bool],[false],fun x=>kH x⟩
theorem QVh:Hw Tryz.prog 168 QQm:=rz (E:=QYN) (lt:=QZv) (lv:=6) (N:=big) ⟨aM,Yc,fun _ _ _=>rfl,mixed,Yt,Y0,Yz⟩ Tryz.func168 fun x _ h=>Eq.trans (b:=kH x) (by kernel_rfl) h
def QZx:LT:={ live:=[],keep:=[] }
noncomputable def QYO:Bn:={ tab:=tab,fs:=[],inl:=[] }
def QCD (x:yx×yx):Option (Bool):=
 (some (JW Z18 (x.2.1,x.1.2) x.2))
def gq (x:yx×yx):Option (Bool):=QCD x
def QQn:U0:=⟨[Z18,Z18],[.bool],[false],fun x=>gq x⟩
theorem QVi:Hw Tryz.prog 169 QQn:=rz (E:=QYO) (lt:=QZx) (lv:=6) (N:=big) ⟨aM,Yc,fun _ _ _=>rfl,mixed,Yt,Y0,Yz⟩ Tryz.func169 fun x _ h=>Eq.trans (b:=gq x) (by kernel_rfl) h
def QRS:LT:={ live:=[(6,[0,32,33])],keep:=[] }
noncomputable def QNe:Bn:={ tab:=tab,fs:=[(168,QQm),(169,QQn)],inl:=[] }
noncomputable def QGE (v:Y75):St:={ s:=[(0,(.val ⟨Z6,v.1⟩)),(32,(.val ⟨Z2,v.2.1⟩)),(33,(.val ⟨Z2,v.2.2⟩))],l:=[],k:=[],b:=4096 }
def kK (aI:Y75->Option (Int)) (v:Y75):Option (Int):=
 (bif (decide (v.2.2 < v.2.1)) then ((Nk v.1 v.2.2).bind fun x6=>(let x7:Int:=(IntKind.i64.wrap (v.2.2+1));((Nk v.1 x7).bind fun x8=>(bif (decide (x6.1≥x8.1)) then (some (8:Int)) else ((Nk v.1 v.2.2).bind fun x9=>(let gH:Int:=(IntKind.i64.wrap (v.2.2+1));((Nk v.1 gH).bind fun nV=>((gq (x9,nV)).bind fun pU=>(bif pU then (some (8:Int)) else (let rE:Int:=(IntKind.i64.wrap (v.2.2+1));(aI (v.1,v.2.1,rE)))))))))))) else (some (0:Int)))
def oU (N:Nat) (aI:Y75->Option (Int)) (v:Y75):Option (Int):=kK aI v
theorem QS7 (N:Nat) (s0:St->Option (Int)) (v):(ZR (QNe) QRS 6 N Tryz.f197 [Z2] [false] [] 0 Xv) s0 (QGE v)=oU N (fun v=>s0 (QGE v)) v:=by kernel_rfl
def su (aL:Y75->Option (Int)) (x:aB×Int):Option (Int):=
 ((kH x.2).bind fun x1=>(bif (!x1) then (some (2:Int)) else (bif ((List.length x.1:Int)==0) then (some (8:Int)) else ((Nk x.1 (0:Int)).bind fun x2=>(bif (x2.1 != 0) then (some (8:Int)) else (let x3:Int:=(IntKind.i64.wrap ((List.length x.1:Int) - 1));((Nk x.1 x3).bind fun x4=>(bif (decide (x4.1≥x.2)) then (some (8:Int)) else (let x5:Int:=(IntKind.i64.wrap ((List.length x.1:Int) - 1));(aL (x.1,x5,(0:Int))))))))))))
def QAz (N:Nat) (x:aB×Int):Option (Int):=su (Gb (oU N) N) x
theorem Qan (N:Nat) (x:aB×Int):rise (QNe) QRS 6 N Tryz.f197 [Z6,Z2] [Z2] [false] x=QAz N x:=Eq.trans (b:=su (fun v=>Ot (ZR (QNe) QRS 6 N Tryz.f197 [Z2] [false] [] 0 Xv) N (QGE v)) x) (by kernel_rfl) (by rw [funext (Tf QGE (QS7 N) N)];rfl)
def iQ (x:aB×Int):Option (Int):=QAz big x
def QQo:U0:=⟨[Z6,Z2],[Z2],[false],fun x=>iQ x⟩
theorem QVj:Hw Tryz.prog 197 QQo:=rz (E:=QNe) ⟨aM,(YH QVh (YH QVi Yc)),fun _ _ _=>rfl,mixed,Yt,Y0,Yz⟩ Tryz.func197 fun _ _ h=>(Qan big _).trans h
def QZy:LT:={ live:=[],keep:=[] }
noncomputable def QYP:Bn:={ tab:=tab,fs:=[(194,QUT),(195,QQl),(196,QUX),(197,QQo)],inl:=[] }
def yF (x:Zw×Int):Option (Bool):=
 ((tY (x.1.2.2.2.1,x.2)).bind fun x1=>(bif (!x1) then (some false) else (bif (decide (x.1.2.1 < 0)) then (some false) else (bif (decide (x.1.2.1 > (List.length x.1.2.2.2.1:Int))) then (some false) else (bif (x.1.2.2.1 != (-1:Int)) then ((l5 (x.1.2.2.1,x.2)).bind fun x2=>(bif (!x2) then (some false) else ((sG x.1.2.2.2.2.1).bind fun x3=>(bif x3 then ((iQ (x.1.2.2.2.2.2.1,(List.length x.1.2.2.2.2.1:Int))).bind fun x4=>(bif (x4==0) then ((iQ (x.1.2.2.2.2.2.2.1,(List.length x.1.2.2.2.2.1:Int))).bind fun x5=>(some (x5==0))) else (some false))) else (some false))))) else ((sG x.1.2.2.2.2.1).bind fun x6=>(bif x6 then ((iQ (x.1.2.2.2.2.2.1,(List.length x.1.2.2.2.2.1:Int))).bind fun x7=>(bif (x7==0) then ((iQ (x.1.2.2.2.2.2.2.1,(List.length x.1.2.2.2.2.1:Int))).bind fun x8=>(some (x8==0))) else (some false))) else (some false))))))))
def sH (x:Zw×Int):Option (Bool):=yF x
def QUY:U0:=⟨[Z0,Z2],[.bool],[false],fun x=>sH x⟩
theorem QZD:Hw Tryz.prog 177 QUY:=rz (E:=QYP) (lt:=QZy) (lv:=6) (N:=big) ⟨aM,(YH QZ8 (YH QVg (YH QZC (YH QVj Yc)))),fun _ _ _=>rfl,mixed,Yt,Y0,Yz⟩ Tryz.func177 fun x _ h=>Eq.trans (b:=sH x) (by kernel_rfl) h
def Qa0:LT:={ live:=[],keep:=[] }
noncomputable def QYQ:Bn:={ tab:=tab,fs:=[],inl:=[] }
def QC9 (x:Zw):Option (Zy):=
 (some x.1)
def lI (x:Zw):Option (Zy):=QC9 x
def QUZ:U0:=⟨[Z0],[.str],[false],fun x=>lI x⟩
theorem QZE:Hw Tryz.prog 179 QUZ:=rz (E:=QYQ) (lt:=Qa0) (lv:=6) (N:=big) ⟨aM,Yc,fun _ _ _=>rfl,mixed,Yt,Y0,Yz⟩ Tryz.func179 fun x _ h=>Eq.trans (b:=lI x) (by kernel_rfl) h
def QMO:LT:={ live:=[(4,[0,1,15,16,17])],keep:=[(27,[])] }
noncomputable def QKO:Bn:={ tab:=tab,fs:=[(177,QUY),(179,QUZ),(198,QNo)],inl:=[(178,Tryz.f178,QZz)] }
noncomputable def QOk (v:Y17×Int×Int×Y16):St:={ s:=[(1,(.Ee 179 .unit)),(5,(.mp 0)),(10,(.val ⟨(.slice Z0),v.1⟩)),(11,(.val ⟨Z2,v.2.1⟩)),(12,(.val ⟨Z2,v.2.2.1⟩))],l:=[(0,.mp .str .bool v.2.2.2)],k:=[(4096,[])],b:=16891904 }
noncomputable def QCg (v:Y42):St:={ s:=[(0,(.val ⟨(.slice Z0),v.1⟩)),(1,(.val ⟨Z2,v.2.1⟩)),(15,(.val ⟨(.slice Z0),v.2.2.1⟩)),(16,(.val ⟨Z2,v.2.2.2.1⟩)),(17,(.val ⟨Z2,v.2.2.2.2⟩))],l:=[],k:=[],b:=4096 }
def qY (aI:Y42->Option (Bool)) (aJ:Y17×Int×Int×Y16->Option (Bool)) (v:Y17×Int×Int×Y16):Option (Bool):=
 (bif (decide (v.2.2.1 < v.2.1)) then ((Nk v.1 v.2.2.1).bind fun x4=>((lI x4).bind fun x5=>((qB x5).bind fun x6=>(bif (!x6) then (some false) else (bif (@Pw .str .bool x5 false v.2.2.2).1 then (some false) else (let x7:Y16:=(@MO .str .bool x5 true v.2.2.2);(let x8:Int:=(IntKind.i64.wrap (v.2.2.1+1));(aJ (v.1,v.2.1,x8,x7))))))))) else (some true))
def eF (N:Nat) (aI:Y42->Option (Bool)) (aJ:Y17×Int×Int×Y16->Option (Bool)) (v:Y17×Int×Int×Y16):Option (Bool):=qY aI aJ v
theorem QaH (N:Nat) (s0:St->Option (Bool)) (s1:St->Option (Bool)) (v):(ZR (QKO) QMO 6 N Tryz.f150 [.bool] [false] [.call 9 1 178] 0 Xv) s1 (QOk v)=eF N (fun v=>s0 (QCg v)) (fun v=>s1 (QOk v)) v:=by kernel_rfl
def lQ (bH:Y17×Int×Int×Y16->Option (Bool)) (aI:Y42->Option (Bool)) (v:Y42):Option (Bool):=
 (bif (decide (v.2.2.2.2 < v.2.2.2.1)) then ((Nk v.2.2.1 v.2.2.2.2).bind fun x1=>((sH (x1,v.2.1)).bind fun x2=>(bif (!x2) then (some false) else (let x3:Int:=(IntKind.i64.wrap (v.2.2.2.2+1));(aI (v.1,v.2.1,v.2.2.1,v.2.2.2.1,x3)))))) else (bH (v.1,(List.length v.1:Int),(0:Int),([]:List Y23))))
def eD (N:Nat) (aI:Y42->Option (Bool)) (v:Y42):Option (Bool):=lQ (Gb (eF N aI) N) aI v
theorem QS8 (N:Nat) (s0:St->Option (Bool)) (v):(ZR (QKO) QMO 6 N Tryz.f150 [.bool] [false] [] 0 Xv) s0 (QCg v)=eD N (fun v=>s0 (QCg v)) v:=Eq.trans (b:=lQ (fun v=>Ot (ZR (QKO) QMO 6 N Tryz.f150 [.bool] [false] [.call 9 1 178] 0 Xv) N (QOk v)) (fun v=>s0 (QCg v)) v) (by kernel_rfl) (by rw [funext (Tf QOk (QaH N s0) N)];rfl)
def oW (aL:Y42->Option (Bool)) (x:Y17×Int):Option (Bool):=
 (bif (decide ((List.length x.1:Int) < 1)) then (some false) else (bif (decide ((List.length x.1:Int) > 32)) then (some false) else (aL (x.1,x.2,x.1,(List.length x.1:Int),(0:Int)))))
def zm (N:Nat) (x:Y17×Int):Option (Bool):=oW (Gb (eD N) N) x
theorem Qao (N:Nat) (x:Y17×Int):rise (QKO) QMO 6 N Tryz.f150 [(.slice Z0),Z2] [.bool] [false] x=zm N x:=Eq.trans (b:=oW (fun v=>Ot (ZR (QKO) QMO 6 N Tryz.f150 [.bool] [false] [] 0 Xv) N (QCg v)) x) (by kernel_rfl) (by rw [funext (Tf QCg (QS8 N) N)];rfl)
def tX (x:Y17×Int):Option (Bool):=zm big x
def QUa:U0:=⟨[(.slice Z0),Z2],[.bool],[false],fun x=>tX x⟩
theorem QZF:Hw Tryz.prog 150 QUa:=rz (E:=QKO) ⟨aM,(YH QZD (YH QZE (YH QQx Yc))),fun _ _ _=>rfl,mixed,(YP (YO Tryz.func178 rfl rfl (by kernel_rfl)) Yt),Y0,Yz⟩ Tryz.func150 fun _ _ h=>(Qao big _).trans h
def Qa1:LT:={ live:=[],keep:=[] }
noncomputable def QYR:Bn:={ tab:=tab,fs:=[(148,QUQ),(149,QUR),(150,QUa)],inl:=[] }
def wR (x:Zx):Option (Bool):=
 ((tq x.1).bind fun x1=>(bif x1 then ((tZ x.2.1).bind fun x2=>(bif x2 then ((tX (x.2.2.1,(List.length x.1:Int))).bind fun x3=>(some x3)) else (some false))) else (some false)))
def qA (x:Zx):Option (Bool):=wR x
def QUb:U0:=⟨[Z1],[.bool],[false],fun x=>qA x⟩
theorem QZG:Hw Tryz.prog 118 QUb:=rz (E:=QYR) (lt:=Qa1) (lv:=6) (N:=big) ⟨aM,(YH QZ5 (YH QZ6 (YH QZF Yc))),fun _ _ _=>rfl,mixed,Yt,Y0,Yz⟩ Tryz.func118 fun x _ h=>Eq.trans (b:=qA x) (by kernel_rfl) h
def QMP:LT:={ live:=[(3,[0,3,9,10,11]),(9,[6,22,23,24])],keep:=[] }
noncomputable def QKP (mk:(α:Type)->Nat->α->List α):Bn:={ tab:=tab,fs:=[],inl:=[],rep:=mk }
noncomputable def QGF (v:Y66):St:={ s:=[(6,(.row 0)),(22,(.val ⟨(.slice Z8),v.1⟩)),(23,(.val ⟨Z2,v.2.1⟩)),(24,(.val ⟨Z2,v.2.2.1⟩))],l:=[(0,.row mo v.2.2.2)],k:=[],b:=4096 }
noncomputable def QCh (v:Y43):St:={ s:=[(0,(.val ⟨(.slice Z8),v.1⟩)),(3,(.val ⟨Z2,v.2.1⟩)),(9,(.val ⟨(.slice Z8),v.2.2.1⟩)),(10,(.val ⟨Z2,v.2.2.2.1⟩)),(11,(.val ⟨Z2,v.2.2.2.2⟩))],l:=[],k:=[],b:=4096 }
def wH (mk:(α:Type)->Nat->α->List α) (aI:Y43->Option (Zy)) (aJ:Y66->Option (Zy)) (v:Y66):Option (Zy):=
 (bif (decide (v.2.2.1 < v.2.1)) then ((Nk v.1 v.2.2.1).bind fun x5=>(bif (Nat.ble 1 1&&Nat.ble (List.length v.2.2.2+List.length x5) lim) then (let x6:Int:=(IntKind.i64.wrap (v.2.2.1+1));(aJ (v.1,v.2.1,x6,(List.append v.2.2.2 x5)))) else none)) else (some v.2.2.2))
def mF (mk:(α:Type)->Nat->α->List α) (N:Nat) (aI:Y43->Option (Zy)) (aJ:Y66->Option (Zy)) (v:Y66):Option (Zy):=wH mk aI aJ v
theorem QSA (mk:(α:Type)->Nat->α->List α) (N:Nat) (s0:St->Option (Zy)) (s1:St->Option (Zy)) (v):(ZR (QKP mk) QMP 6 N Tryz.f200 [Z8] [true] [] 1 Xv) s1 (QGF v)=mF mk N (fun v=>s0 (QCh v)) (fun v=>s1 (QGF v)) v:=by kernel_rfl
def qo (mk:(α:Type)->Nat->α->List α) (bH:Y66->Option (Zy)) (aI:Y43->Option (Zy)) (v:Y43):Option (Zy):=
 (bif (decide (v.2.2.2.2 < v.2.2.2.1)) then ((Nk v.2.2.1 v.2.2.2.2).bind fun x1=>(let x2:Int:=(IntKind.i64.wrap (v.2.1+(List.length x1:Int)));(let x3:Int:=(IntKind.i64.wrap (v.2.2.2.2+1));(aI (v.1,x2,v.2.2.1,v.2.2.2.1,x3))))) else (bif (decide (0<=(0:Int))&&(decide ((0:Int)<=v.2.1)&&(decide (v.2.1<=68719476736)&&true))) then (let x4:Zy:=(mk Int (Int.toNat (0:Int)) (0:Int));(bH (v.1,(List.length v.1:Int),(0:Int),x4))) else none))
def jU (mk:(α:Type)->Nat->α->List α) (N:Nat) (aI:Y43->Option (Zy)) (v:Y43):Option (Zy):=qo mk (Gb (mF mk N aI) N) aI v
theorem QS9 (mk:(α:Type)->Nat->α->List α) (N:Nat) (s0:St->Option (Zy)) (v):(ZR (QKP mk) QMP 6 N Tryz.f200 [Z8] [true] [] 0 Xv) s0 (QCh v)=jU mk N (fun v=>s0 (QCh v)) v:=Eq.trans (b:=qo mk (fun v=>Ot (ZR (QKP mk) QMP 6 N Tryz.f200 [Z8] [true] [] 1 Xv) N (QGF v)) (fun v=>s0 (QCh v)) v) (by kernel_rfl) (by rw [funext (Tf QGF (QSA mk N s0) N)];rfl)
def QCF (mk:(α:Type)->Nat->α->List α) (aL:Y43->Option (Zy)) (x:Y12):Option (Zy):=
 (aL (x,(0:Int),x,(List.length x:Int),(0:Int)))
def QC8 (mk:(α:Type)->Nat->α->List α) (N:Nat) (x:Y12):Option (Zy):=QCF mk (Gb (jU mk N) N) x
theorem Qap (mk:(α:Type)->Nat->α->List α) (N:Nat) (x:Y12):rise (QKP mk) QMP 6 N Tryz.f200 [(.slice Z8)] [Z8] [true] x=QC8 mk N x:=Eq.trans (b:=QCF mk (fun v=>Ot (ZR (QKP mk) QMP 6 N Tryz.f200 [Z8] [true] [] 0 Xv) N (QCh v)) x) (by kernel_rfl) (by rw [funext (Tf QCh (QS9 mk N) N)];rfl)
def nH (x:Y12):Option (Zy):=QC8 (fun _=>List.replicate) big x
def QQp:U0:=⟨[(.slice Z8)],[Z8],[true],fun x=>nH x⟩
theorem QVk:Hw Tryz.prog 200 QQp:=rz (E:=QKP (fun _=>List.replicate)) ⟨aM,Yc,fun _ _ _=>rfl,mixed,Yt,Y0,Yz⟩ Tryz.func200 fun _ _ h=>(Qap (fun _=>List.replicate) big _).trans h
def QRT:LT:={ live:=[(3,[0,3,4])],keep:=[] }
noncomputable def QNf:Bn:={ tab:=tab,fs:=[(200,QQp)],inl:=[] }
noncomputable def QGG (v:Int×Int×Zy):St:={ s:=[(0,(.val ⟨yT,v.1⟩)),(3,(.loc 0 [])),(4,(.val ⟨Z2,v.2.1⟩))],l:=[(0,.var (.arr 10 mo) (.val ⟨(.arr 10 mo),v.2.2⟩))],k:=[],b:=4096 }
def QBb (aI:Int×Int×Zy->Option (Zy)) (v:Int×Int×Zy):Option (Zy):=
 (bif (decide (v.1≥128)) then (let x1:Int:=(bits .or .u8 (IntKind.u8.wrap v.1) (128:Int));(bif (decide (0<=v.2.1)&&decide (v.2.1 < 10)) then (let x2:Zy:=(List.set v.2.2 (Int.toNat v.2.1) x1);(let x3:Int:=(IntKind.i64.wrap (v.2.1+1));(aI ((v.1.fdiv (2 ^ 7)),x3,x2)))) else none)) else (bif (decide (0<=v.2.1)&&decide (v.2.1 < 10)) then (let x4:Zy:=(List.set v.2.2 (Int.toNat v.2.1) (IntKind.u8.wrap v.1));(let x5:Int:=(IntKind.i64.wrap (v.2.1+1));(bif (decide (0<=x5)&&decide (x5<=(List.length x4:Int))) then (let x6:Zy:=(List.take (Int.toNat x5) x4);(let x7:Y12:=([x6]:Y12);((nH x7).bind fun x8=>(some x8)))) else none))) else none))
def uy (N:Nat) (aI:Int×Int×Zy->Option (Zy)) (v:Int×Int×Zy):Option (Zy):=QBb aI v
theorem QSB (N:Nat) (s0:St->Option (Zy)) (v):(ZR (QNf) QRT 6 N Tryz.f199 [Z8] [true] [] 0 Xv) s0 (QGG v)=uy N (fun v=>s0 (QGG v)) v:=by kernel_rfl
def QEY (aL:Int×Int×Zy->Option (Zy)) (x:Int):Option (Zy):=
 (aL (x,(0:Int),(List.replicate 10 (0:Int))))
def QEW (N:Nat) (x:Int):Option (Zy):=QEY (Gb (uy N) N) x
theorem Qaq (N:Nat) (x:Int):rise (QNf) QRT 6 N Tryz.f199 [yT] [Z8] [true] x=QEW N x:=Eq.trans (b:=QEY (fun v=>Ot (ZR (QNf) QRT 6 N Tryz.f199 [Z8] [true] [] 0 Xv) N (QGG v)) x) (by kernel_rfl) (by rw [funext (Tf QGG (QSB N) N)];rfl)
def fU (x:Int):Option (Zy):=QEW big x
def QKU:U0:=⟨[yT],[Z8],[true],fun x=>fU x⟩
theorem QLn:Hw Tryz.prog 199 QKU:=rz (E:=QNf) ⟨aM,(YH QVk Yc),fun _ _ _=>rfl,mixed,Yt,Y0,Yz⟩ Tryz.func199 fun _ _ h=>(Qaq big _).trans h
def QWV:LT:={ live:=[],keep:=[] }
noncomputable def QTu:Bn:={ tab:=tab,fs:=[(199,QKU)],inl:=[] }
def iw (x:Zy) (y:Y20):Option (Zy):=
 ((fU (IntKind.u64.wrap y.1)).bind fun x1=>(bif (Nat.ble 1 1&&Nat.ble (List.length x+List.length x1) lim) then (some (List.append x x1)) else none))
def QAn (N:Nat) (x:Zy) (y:Y20):Option (Zy):=iw x y
theorem Qar (N:Nat) (x:Zy) (y:Y20):V4 (QTu) QWV 6 N Tryz.f180 mo [.hole Z2] x y=iw x y:=by kernel_rfl
def aO (x:Zy) (y:Y20):Option (Zy):=QAn big x y
@[reducible] def QKX:MF:=⟨mo,[.hole Z2],fun x y=>aO x y⟩
theorem QNr:MS Tryz.prog 180 QKX:=Yy (c:=QKX) (E:=QTu) ⟨aM,(YH QLn Yc),fun _ _ _=>rfl,mixed,Yt,Y0,Yz⟩ Tryz.func180 rfl (by decide) (by kernel_rfl) (by kernel_rfl) (fun x y z h=>⟨QWV,6,big,(Qar big x y).trans h⟩)
def Qa3:LT:={ live:=[],keep:=[] }
noncomputable def QYS:Bn:={ tab:=tab,fs:=[(199,QKU),(200,QQp)],inl:=[] }
def QEX (x:Zy):Option lZ:=
 (bif (decide ((List.length x:Int) > 200000)) then (some (([]:List Int),(4:Int))) else (let x1:Int:=(IntKind.u64.wrap (List.length x:Int));((fU x1).bind fun x2=>(let x3:Y12:=([x2,x]:Y12);((nH x3).bind fun x4=>(some (x4,(0:Int))))))))
def vk (x:Zy):Option lZ:=QEX x
def QUc:U0:=⟨[.str],[Z8,Z2],[true,false],fun x=>vk x⟩
theorem QZH:Hw Tryz.prog 183 QUc:=rz (E:=QYS) (lt:=Qa3) (lv:=6) (N:=big) ⟨aM,(YH QLn (YH QVk Yc)),fun _ _ _=>rfl,mixed,Yt,Y0,Yz⟩ Tryz.func183 fun x _ h=>Eq.trans (b:=vk x) (by kernel_rfl) h
def QWX:LT:={ live:=[],keep:=[] }
noncomputable def QTv:Bn:={ tab:=tab,fs:=[(183,QUc)],inl:=[] }
def lW (x:Zy) (y:(Zy×Unit)):Option (Zy):=
 ((vk y.1).bind fun x1=>(bif (Nat.ble 1 1&&Nat.ble (List.length x+List.length x1.1) lim) then (some (List.append x x1.1)) else none))
def QBo (N:Nat) (x:Zy) (y:(Zy×Unit)):Option (Zy):=lW x y
theorem Qas (N:Nat) (x:Zy) (y:(Zy×Unit)):V4 (QTv) QWX 6 N Tryz.f154 mo [.hole .str] x y=lW x y:=by kernel_rfl
def gY (x:Zy) (y:(Zy×Unit)):Option (Zy):=QBo big x y
@[reducible] def QLq:MF:=⟨mo,[.hole .str],fun x y=>gY x y⟩
theorem QQz:MS Tryz.prog 154 QLq:=Yy (c:=QLq) (E:=QTv) ⟨aM,(YH QZH Yc),fun _ _ _=>rfl,mixed,Yt,Y0,Yz⟩ Tryz.func154 rfl (by decide) (by kernel_rfl) (by kernel_rfl) (fun x y z h=>⟨QWX,6,big,(Qas big x y).trans h⟩)
def QWY:LT:={ live:=[],keep:=[] }
noncomputable def QTw:Bn:={ tab:=tab,fs:=[],inl:=[],ow:=[(154,QLq),(180,QKX)] }
def j6 (x:Zy) (y:((Zy×Y20)×Unit)):Option (Zy):=
 ((gY x (y.1.1,())).bind fun x1=>((aO x1 (y.1.2.1,())).bind fun x2=>(some x2)))
def QBH (N:Nat) (x:Zy) (y:((Zy×Y20)×Unit)):Option (Zy):=j6 x y
theorem Qat (N:Nat) (x:Zy) (y:((Zy×Y20)×Unit)):V4 (QTw) QWY 6 N Tryz.f182 mo [.hole (.pair .str (.pair Z2 .unit))] x y=j6 x y:=by kernel_rfl
def jm (x:Zy) (y:((Zy×Y20)×Unit)):Option (Zy):=QBH big x y
@[reducible] def QNu:MF:=⟨mo,[.hole (.pair .str (.pair Z2 .unit))],fun x y=>jm x y⟩
theorem QVl:MS Tryz.prog 182 QNu:=Yy (c:=QNu) (E:=QTw) ⟨aM,Yc,fun _ _ _=>rfl,mixed,Yt,Y0,(YS QQz (YS QNr Yz))⟩ Tryz.func182 rfl (by decide) (by kernel_rfl) (by kernel_rfl) (fun x y z h=>⟨QWY,6,big,(Qat big x y).trans h⟩)
def QNv:LT:={ live:=[],keep:=[(34,[])] }
noncomputable def QNg:Bn:={ tab:=tab,fs:=[],inl:=[(181,Tryz.f181,QWW)],ow:=[(180,QKX),(182,QNu)] }
noncomputable def QGH (v:Y67):St:={ s:=[(0,(.row 0)),(2,(.Ee 182 .unit)),(13,(.val ⟨Z9,v.1⟩)),(14,(.val ⟨Z2,v.2.1⟩)),(15,(.val ⟨Z2,v.2.2.1⟩))],l:=[(0,.row mo v.2.2.2)],k:=[(4096,[])],b:=16920576 }
def nk (aI:Y67->Option (Zy)) (v:Y67):Option (Zy):=
 (bif (decide (v.2.2.1 < v.2.1)) then ((Nk v.1 v.2.2.1).bind fun x6=>((jm v.2.2.2 (x6,())).bind fun x7=>(let x8:Int:=(IntKind.i64.wrap (v.2.2.1+1));(aI (v.1,v.2.1,x8,x7))))) else (some v.2.2.2))
def bN (N:Nat) (aI:Y67->Option (Zy)) (v:Y67):Option (Zy):=nk aI v
theorem QSC (N:Nat) (s0:St->Option (Zy)) (v):(Y5 (QNg) QNv 6 N Tryz.f152 mo [.call 10 3 181] 0 Xv) s0 (QGH v)=bN N (fun v=>s0 (QGH v)) v:=by kernel_rfl
def lX (aL:Y67->Option (Zy)) (x:Zy) (y:(Zz×Unit)):Option (Zy):=
 (bif (Nat.ble 1 1&&Nat.ble (List.length x+List.length ([y.1.1]:Zy)) lim) then (let x1:Zy:=(List.append x ([y.1.1]:Zy));(bif (y.1.1==4) then (bif (y.1.1==4) then ((aO x1 (y.1.2.1,())).bind fun x2=>(some x2)) else (bif (y.1.1==6) then ((aO x1 (y.1.2.1,())).bind fun x3=>((aO x3 (y.1.2.2.1,())).bind fun x4=>(some x4))) else (bif (y.1.1==5) then ((aO x1 ((List.length y.1.2.2.2.1:Int),())).bind fun x5=>(aL (y.1.2.2.2.1,(List.length y.1.2.2.2.1:Int),(0:Int),x5))) else (some x1)))) else (bif (y.1.1==7) then ((aO x1 (y.1.2.1,())).bind fun x9=>(some x9)) else (bif (y.1.1==6) then ((aO x1 (y.1.2.1,())).bind fun gH=>((aO gH (y.1.2.2.1,())).bind fun nV=>(some nV))) else (bif (y.1.1==5) then ((aO x1 ((List.length y.1.2.2.2.1:Int),())).bind fun pU=>(aL (y.1.2.2.2.1,(List.length y.1.2.2.2.1:Int),(0:Int),pU))) else (some x1)))))) else none)
def xJ (N:Nat) (x:Zy) (y:(Zz×Unit)):Option (Zy):=lX (Gb (bN N) N) x y
theorem Qau (N:Nat) (x:Zy) (y:(Zz×Unit)):V4 (QNg) QNv 6 N Tryz.f152 mo [.hole Z4] x y=xJ N x y:=Eq.trans (b:=lX (fun v=>Ot (Y5 (QNg) QNv 6 N Tryz.f152 mo [.call 10 3 181] 0 Xv) N (QGH v)) x y) (by kernel_rfl) (by rw [funext (Tf QGH (QSC N) N)];rfl)
def p9 (x:Zy) (y:(Zz×Unit)):Option (Zy):=xJ big x y
@[reducible] def QR0:MF:=⟨mo,[.hole Z4],fun x y=>p9 x y⟩
theorem QZI:MS Tryz.prog 152 QR0:=Yy (c:=QR0) (E:=QNg) ⟨aM,Yc,fun _ _ _=>rfl,mixed,(YP (YO Tryz.func181 rfl rfl (by kernel_rfl)) Yt),Y0,(YS QNr (YS QVl Yz))⟩ Tryz.func152 rfl (by decide) (by kernel_rfl) (by kernel_rfl) (fun x y z h=>⟨QNv,6,big,(Qau big x y).trans h⟩)
def Qa6:LT:={ live:=[],keep:=[] }
noncomputable def QYT:Bn:={ tab:=tab,fs:=[(199,QKU)],inl:=[] }
def QCE (x:Int):Option (Zy):=
 (bif (decide (x < 0)) then (let x1:Int:=(bits .xor .i64 (if IntKind.signed .i64 then -1 else IntKind.max .i64) x);(let x2:Int:=(IntKind.u64.wrap ((IntKind.u64.wrap x1) * 2 ^ 1));(let x3:Int:=(bits .or .u64 x2 (1:Int));((fU x3).bind fun x4=>(some x4))))) else (let x5:Int:=(IntKind.u64.wrap ((IntKind.u64.wrap x) * 2 ^ 1));((fU x5).bind fun x6=>(some x6))))
def nG (x:Int):Option (Zy):=QCE x
def QQq:U0:=⟨[Z2],[Z8],[true],fun x=>nG x⟩
theorem QVm:Hw Tryz.prog 184 QQq:=rz (E:=QYT) (lt:=Qa6) (lv:=6) (N:=big) ⟨aM,(YH QLn Yc),fun _ _ _=>rfl,mixed,Yt,Y0,Yz⟩ Tryz.func184 fun x _ h=>Eq.trans (b:=nG x) (by kernel_rfl) h
def Qa8:LT:={ live:=[],keep:=[] }
noncomputable def QYU:Bn:={ tab:=tab,fs:=[],inl:=[] }
def QB1 (x:Int):Option (Bool):=
 (bif (x==5) then (some true) else (bif (x==3) then (some true) else (some (x==4))))
def oG (x:Int):Option (Bool):=QB1 x
def QUd:U0:=⟨[mo],[.bool],[false],fun x=>oG x⟩
theorem QZJ:Hw Tryz.prog 214 QUd:=rz (E:=QYU) (lt:=Qa8) (lv:=6) (N:=big) ⟨aM,Yc,fun _ _ _=>rfl,mixed,Yt,Y0,Yz⟩ Tryz.func214 fun x _ h=>Eq.trans (b:=oG x) (by kernel_rfl) h
def QRU:LT:={ live:=[],keep:=[(16,[5])] }
noncomputable def QNh:Bn:={ tab:=tab,fs:=[(98,QLe),(140,QNp),(184,QQq),(199,QKU),(214,QUd)],inl:=[(99,Tryz.f99,QWa),(213,Tryz.f213,Qa9)] }
noncomputable def QGI (v:Y72):St:={ s:=[(1,(.Ee 213 (.pair (.loc 0 []) .unit))),(4,(.loc 2 [])),(13,(.val ⟨(.arr 3 mo),v.1⟩)),(14,(.val ⟨Z2,v.2.1⟩))],l:=[(0,.var Z8 (.row 1)),(1,.row mo v.2.2.1),(2,.var Z17 (.val ⟨Z17,v.2.2.2⟩))],k:=[(4096,[(5,(.loc 0 []))])],b:=16846848 }
def xu (aI:Y72->Option lZ) (v:Y72):Option lZ:=
 (bif (decide (v.2.1 < 3)) then ((Nk v.1 v.2.1).bind fun x4=>(bif (x4 != 0) then (bif (decide (0<=v.2.1)&&decide (v.2.1 < 3)) then ((nth v.2.2.2 (Int.toNat v.2.1)).bind fun x5=>((oG x4).bind fun x6=>(bif x6 then ((nG x5).bind fun x7=>(bif (Nat.ble 1 1&&Nat.ble (List.length v.2.2.1+List.length x7) lim) then (let x8:Int:=(IntKind.i64.wrap (v.2.1+1));(aI (v.1,x8,(List.append v.2.2.1 x7),v.2.2.2))) else none)) else ((fU (IntKind.u64.wrap x5)).bind fun x9=>(bif (Nat.ble 1 1&&Nat.ble (List.length v.2.2.1+List.length x9) lim) then (let gH:Int:=(IntKind.i64.wrap (v.2.1+1));(aI (v.1,gH,(List.append v.2.2.1 x9),v.2.2.2))) else none))))) else none) else (let nV:Int:=(IntKind.i64.wrap (v.2.1+1));(aI (v.1,nV,v.2.2.1,v.2.2.2))))) else (some (v.2.2.1,(0:Int))))
def sO (N:Nat) (aI:Y72->Option lZ) (v:Y72):Option lZ:=xu aI v
theorem QSD (N:Nat) (s0:St->Option lZ) (v):(ZR (QNh) QRU 6 N Tryz.f201 [Z8,Z2] [true,false] [.call 5 2 99] 0 Xv) s0 (QGI v)=sO N (fun v=>s0 (QGI v)) v:=by kernel_rfl
def xO (aL:Y72->Option lZ) (x:aA):Option lZ:=
 ((rQ x).bind fun x1=>(bif (x1 != 0) then (some (([]:List Int),x1)) else ((kN x).bind fun x2=>((Nk ZT x.1).bind fun x3=>(aL (x3.2.1,(0:Int),([x.1]:Zy),x2))))))
def QD9 (N:Nat) (x:aA):Option lZ:=xO (Gb (sO N) N) x
theorem Qav (N:Nat) (x:aA):rise (QNh) QRU 6 N Tryz.f201 [Z3] [Z8,Z2] [true,false] x=QD9 N x:=Eq.trans (b:=xO (fun v=>Ot (ZR (QNh) QRU 6 N Tryz.f201 [Z8,Z2] [true,false] [.call 5 2 99] 0 Xv) N (QGI v)) x) (by kernel_rfl) (by rw [funext (Tf QGI (QSD N) N)];rfl)
def QAB (x:aA):Option lZ:=QD9 big x
def QUe:U0:=⟨[Z3],[Z8,Z2],[true,false],fun x=>QAB x⟩
theorem QZK:Hw Tryz.prog 201 QUe:=rz (E:=QNh) ⟨aM,(YH QNq (YH QQy (YH QVm (YH QLn (YH QZJ Yc))))),fun _ _ _=>rfl,mixed,(YP (YO Tryz.func99 rfl rfl (by kernel_rfl)) (YP (YO Tryz.func213 rfl rfl (by kernel_rfl)) Yt)),Y0,Yz⟩ Tryz.func201 fun _ _ h=>(Qav big _).trans h
def QWb:LT:={ live:=[],keep:=[] }
noncomputable def QTx:Bn:={ tab:=tab,fs:=[(201,QUe)],inl:=[] }
def kD (x:Zy) (y:(aA×Unit)):Option (Zy):=
 ((QAB y.1).bind fun x1=>(bif (Nat.ble 1 1&&Nat.ble (List.length x+List.length x1.1) lim) then (some (List.append x x1.1)) else none))
def QBI (N:Nat) (x:Zy) (y:(aA×Unit)):Option (Zy):=kD x y
theorem Qaw (N:Nat) (x:Zy) (y:(aA×Unit)):V4 (QTx) QWb 6 N Tryz.f186 mo [.hole Z3] x y=kD x y:=by kernel_rfl
def o8 (x:Zy) (y:(aA×Unit)):Option (Zy):=QBI big x y
@[reducible] def QR1:MF:=⟨mo,[.hole Z3],fun x y=>o8 x y⟩
theorem QZL:MS Tryz.prog 186 QR1:=Yy (c:=QR1) (E:=QTx) ⟨aM,(YH QZK Yc),fun _ _ _=>rfl,mixed,Yt,Y0,Yz⟩ Tryz.func186 rfl (by decide) (by kernel_rfl) (by kernel_rfl) (fun x y z h=>⟨QWb,6,big,(Qaw big x y).trans h⟩)
def QRV:LT:={ live:=[(7,[7,8,21,22,23])],keep:=[] }
noncomputable def QNi:Bn:={ tab:=tab,fs:=[(197,QQo),(199,QKU)],inl:=[] }
noncomputable def QGJ (v:Y48):St:={ s:=[(7,(.row 0)),(8,(.val ⟨Z2,v.1⟩)),(21,(.val ⟨Z6,v.2.1⟩)),(22,(.val ⟨Z2,v.2.2.1⟩)),(23,(.val ⟨Z2,v.2.2.2.1⟩))],l:=[(0,.row mo v.2.2.2.2)],k:=[],b:=4096 }
def je (aI:Y48->Option lZ) (v:Y48):Option lZ:=
 (bif (decide (v.2.2.2.1 < v.2.2.1)) then ((Nk v.2.1 v.2.2.2.1).bind fun x4=>(let x5:Int:=(IntKind.i64.wrap (x4.1 - v.1));((fU (IntKind.u64.wrap x5)).bind fun x6=>(bif (Nat.ble 1 1&&Nat.ble (List.length v.2.2.2.2+List.length x6) lim) then (let x7:Zy:=(List.append v.2.2.2.2 x6);((fU x4.2.1).bind fun x8=>(bif (Nat.ble 1 1&&Nat.ble (List.length x7+List.length x8) lim) then (let x9:Int:=(IntKind.i64.wrap (v.2.2.2.1+1));(aI (x4.1,v.2.1,v.2.2.1,x9,(List.append x7 x8)))) else none))) else none)))) else (some (v.2.2.2.2,(0:Int))))
def nN (N:Nat) (aI:Y48->Option lZ) (v:Y48):Option lZ:=je aI v
theorem QSE (N:Nat) (s0:St->Option lZ) (v):(ZR (QNi) QRV 6 N Tryz.f202 [Z8,Z2] [true,false] [] 0 Xv) s0 (QGJ v)=nN N (fun v=>s0 (QGJ v)) v:=by kernel_rfl
def rC (aL:Y48->Option lZ) (x:aB×Int):Option lZ:=
 ((iQ (x.1,x.2)).bind fun x1=>(bif (x1 != 0) then (some (([]:List Int),x1)) else (let x2:Int:=(IntKind.u64.wrap (List.length x.1:Int));((fU x2).bind fun x3=>(aL ((0:Int),x.1,(List.length x.1:Int),(0:Int),x3))))))
def QAO (N:Nat) (x:aB×Int):Option lZ:=rC (Gb (nN N) N) x
theorem Qax (N:Nat) (x:aB×Int):rise (QNi) QRV 6 N Tryz.f202 [Z6,Z2] [Z8,Z2] [true,false] x=QAO N x:=Eq.trans (b:=rC (fun v=>Ot (ZR (QNi) QRV 6 N Tryz.f202 [Z8,Z2] [true,false] [] 0 Xv) N (QGJ v)) x) (by kernel_rfl) (by rw [funext (Tf QGJ (QSE N) N)];rfl)
def vg (x:aB×Int):Option lZ:=QAO big x
def QUf:U0:=⟨[Z6,Z2],[Z8,Z2],[true,false],fun x=>vg x⟩
theorem QZM:Hw Tryz.prog 202 QUf:=rz (E:=QNi) ⟨aM,(YH QVj (YH QLn Yc)),fun _ _ _=>rfl,mixed,Yt,Y0,Yz⟩ Tryz.func202 fun _ _ h=>(Qax big _).trans h
def QWc:LT:={ live:=[],keep:=[] }
noncomputable def QTy:Bn:={ tab:=tab,fs:=[(202,QUf)],inl:=[] }
def lV (x:Zy) (y:(aB×Y20)):Option (Zy):=
 ((vg (y.1,y.2.1)).bind fun x1=>(bif (Nat.ble 1 1&&Nat.ble (List.length x+List.length x1.1) lim) then (some (List.append x x1.1)) else none))
def QBn (N:Nat) (x:Zy) (y:(aB×Y20)):Option (Zy):=lV x y
theorem Qay (N:Nat) (x:Zy) (y:(aB×Y20)):V4 (QTy) QWc 6 N Tryz.f187 mo [.hole Z6,.hole Z2] x y=lV x y:=by kernel_rfl
def lH (x:Zy) (y:(aB×Y20)):Option (Zy):=QBn big x y
@[reducible] def QR2:MF:=⟨mo,[.hole Z6,.hole Z2],fun x y=>lH x y⟩
theorem QZN:MS Tryz.prog 187 QR2:=Yy (c:=QR2) (E:=QTy) ⟨aM,(YH QZM Yc),fun _ _ _=>rfl,mixed,Yt,Y0,Yz⟩ Tryz.func187 rfl (by decide) (by kernel_rfl) (by kernel_rfl) (fun x y z h=>⟨QWc,6,big,(Qay big x y).trans h⟩)
def QKZ:LT:={ live:=[],keep:=[(21,[3]),(25,[3])] }
noncomputable def QKQ:Bn:={ tab:=tab,fs:=[(184,QQq)],inl:=[(181,Tryz.f181,QWW),(185,Tryz.f185,Qa7)],ow:=[(154,QLq),(180,QKX),(182,QNu),(186,QR1),(187,QR2)] }
noncomputable def QGK (v:Y58):St:={ s:=[(0,(.row 0)),(2,(.Ee 186 .unit)),(13,(.val ⟨ru,v.1⟩)),(14,(.val ⟨Z2,v.2.1⟩)),(15,(.val ⟨Z2,v.2.2.1⟩))],l:=[(0,.row mo v.2.2.2.1),(1,.var Z0 (.val ⟨Z0,v.2.2.2.2⟩))],k:=[(4096,[(3,(.loc 1 []))])],b:=16883712 }
noncomputable def QCi (v:Y59):St:={ s:=[(0,(.row 0)),(2,(.Ee 182 .unit)),(13,(.val ⟨Z9,v.1⟩)),(14,(.val ⟨Z2,v.2.1⟩)),(15,(.val ⟨Z2,v.2.2.1⟩))],l:=[(0,.row mo v.2.2.2.1),(1,.var Z0 (.val ⟨Z0,v.2.2.2.2⟩))],k:=[(4096,[(3,(.loc 1 []))])],b:=16867328 }
def ni (aI:Y59->Option (Zy)) (aJ:Y58->Option (Zy)) (v:Y58):Option (Zy):=
 (bif (decide (v.2.2.1 < v.2.1)) then ((Nk v.1 v.2.2.1).bind fun x9=>((o8 v.2.2.2.1 (x9,())).bind fun gH=>(let nV:Int:=(IntKind.i64.wrap (v.2.2.1+1));(aJ (v.1,v.2.1,nV,gH,v.2.2.2.2))))) else ((lH v.2.2.2.1 (v.2.2.2.2.2.2.2.2.2.1,((List.length v.2.2.2.2.2.2.2.2.1:Int),()))).bind fun pU=>((lH pU (v.2.2.2.2.2.2.2.2.2.2.1,((List.length v.2.2.2.2.2.2.2.2.1:Int),()))).bind fun rE=>(some rE))))
def dF (N:Nat) (aI:Y59->Option (Zy)) (aJ:Y58->Option (Zy)) (v:Y58):Option (Zy):=ni aI aJ v
theorem QSG (N:Nat) (s0:St->Option (Zy)) (s1:St->Option (Zy)) (v):(Y5 (QKQ) QKZ 6 N Tryz.f156 mo [.call 5 3 185] 0 Xv) s1 (QGK v)=dF N (fun v=>s0 (QCi v)) (fun v=>s1 (QGK v)) v:=by kernel_rfl
def iY (bH:Y58->Option (Zy)) (aI:Y59->Option (Zy)) (v:Y59):Option (Zy):=
 (bif (decide (v.2.2.1 < v.2.1)) then ((Nk v.1 v.2.2.1).bind fun x5=>((jm v.2.2.2.1 (x5,())).bind fun x6=>(let x7:Int:=(IntKind.i64.wrap (v.2.2.1+1));(aI (v.1,v.2.1,x7,x6,v.2.2.2.2))))) else ((aO v.2.2.2.1 ((List.length v.2.2.2.2.2.2.2.2.1:Int),())).bind fun x8=>(bH (v.2.2.2.2.2.2.2.2.1,(List.length v.2.2.2.2.2.2.2.2.1:Int),(0:Int),x8,v.2.2.2.2))))
def dD (N:Nat) (aI:Y59->Option (Zy)) (v:Y59):Option (Zy):=iY (Gb (dF N aI) N) aI v
theorem QSF (N:Nat) (s0:St->Option (Zy)) (v):(Y5 (QKQ) QKZ 6 N Tryz.f156 mo [.call 4 3 181] 0 Xv) s0 (QCi v)=dD N (fun v=>s0 (QCi v)) v:=Eq.trans (b:=iY (fun v=>Ot (Y5 (QKQ) QKZ 6 N Tryz.f156 mo [.call 5 3 185] 0 Xv) N (QGK v)) (fun v=>s0 (QCi v)) v) (by kernel_rfl) (by rw [funext (Tf QGK (QSG N s0) N)];rfl)
def lU (aL:Y59->Option (Zy)) (x:Zy) (y:(Zw×Unit)):Option (Zy):=
 ((gY x (y.1.1,())).bind fun x1=>((aO x1 (y.1.2.1,())).bind fun x2=>((nG y.1.2.2.1).bind fun x3=>(bif (Nat.ble 1 1&&Nat.ble (List.length x2+List.length x3) lim) then ((aO (List.append x2 x3) ((List.length y.1.2.2.2.1:Int),())).bind fun x4=>(aL (y.1.2.2.2.1,(List.length y.1.2.2.2.1:Int),(0:Int),x4,y.1))) else none))))
def xI (N:Nat) (x:Zy) (y:(Zw×Unit)):Option (Zy):=lU (Gb (dD N) N) x y
theorem Qaz (N:Nat) (x:Zy) (y:(Zw×Unit)):V4 (QKQ) QKZ 6 N Tryz.f156 mo [.hole Z0] x y=xI N x y:=Eq.trans (b:=lU (fun v=>Ot (Y5 (QKQ) QKZ 6 N Tryz.f156 mo [.call 4 3 181] 0 Xv) N (QCi v)) x y) (by kernel_rfl) (by rw [funext (Tf QCi (QSF N) N)];rfl)
def p8 (x:Zy) (y:(Zw×Unit)):Option (Zy):=xI big x y
@[reducible] def QR3:MF:=⟨mo,[.hole Z0],fun x y=>p8 x y⟩
theorem QZO:MS Tryz.prog 156 QR3:=Yy (c:=QR3) (E:=QKQ) ⟨aM,(YH QVm Yc),fun _ _ _=>rfl,mixed,(YP (YO Tryz.func181 rfl rfl (by kernel_rfl)) (YP (YO Tryz.func185 rfl rfl (by kernel_rfl)) Yt)),Y0,(YS QQz (YS QNr (YS QVl (YS QZL (YS QZN Yz)))))⟩ Tryz.func156 rfl (by decide) (by kernel_rfl) (by kernel_rfl) (fun x y z h=>⟨QKZ,6,big,(Qaz big x y).trans h⟩)
def QH3:LT:={ live:=[],keep:=[(8,[3]),(12,[3]),(16,[])] }
noncomputable def QGx:Bn:={ tab:=tab,fs:=[],inl:=[(151,Tryz.f151,Qa2),(153,Tryz.f153,Qa4),(155,Tryz.f155,Qa5)],ow:=[(152,QR0),(154,QLq),(156,QR3),(180,QKX)] }
noncomputable def QGL (v:Y17×Int×Int×Zy):St:={ s:=[(0,(.row 0)),(2,(.Ee 156 .unit)),(13,(.val ⟨(.slice Z0),v.1⟩)),(14,(.val ⟨Z2,v.2.1⟩)),(15,(.val ⟨Z2,v.2.2.1⟩))],l:=[(0,.row mo v.2.2.2)],k:=[(4096,[])],b:=16846848 }
noncomputable def QCj (v:Y49):St:={ s:=[(0,(.row 0)),(2,(.Ee 154 .unit)),(13,(.val ⟨(.slice .str),v.1⟩)),(14,(.val ⟨Z2,v.2.1⟩)),(15,(.val ⟨Z2,v.2.2.1⟩))],l:=[(0,.row mo v.2.2.2.1),(1,.var Z1 (.val ⟨Z1,v.2.2.2.2⟩))],k:=[(4096,[(3,(.loc 1 []))])],b:=16830464 }
noncomputable def QAH (v:Y60):St:={ s:=[(0,(.row 0)),(2,(.Ee 152 .unit)),(13,(.val ⟨wh,v.1⟩)),(14,(.val ⟨Z2,v.2.1⟩)),(15,(.val ⟨Z2,v.2.2.1⟩))],l:=[(0,.row mo v.2.2.2.1),(1,.var Z1 (.val ⟨Z1,v.2.2.2.2⟩))],k:=[(4096,[(3,(.loc 1 []))])],b:=16814080 }
def mK (aI:Y60->Option (Zy)) (aJ:Y49->Option (Zy)) (bL:Y17×Int×Int×Zy->Option (Zy)) (v:Y17×Int×Int×Zy):Option (Zy):=
 (bif (decide (v.2.2.1 < v.2.1)) then ((Nk v.1 v.2.2.1).bind fun gH=>((p8 v.2.2.2 (gH,())).bind fun nV=>(let pU:Int:=(IntKind.i64.wrap (v.2.2.1+1));(bL (v.1,v.2.1,pU,nV))))) else (some v.2.2.2))
def cB (N:Nat) (aI:Y60->Option (Zy)) (aJ:Y49->Option (Zy)) (bL:Y17×Int×Int×Zy->Option (Zy)) (v:Y17×Int×Int×Zy):Option (Zy):=mK aI aJ bL v
theorem QSJ (N:Nat) (s0:St->Option (Zy)) (s1:St->Option (Zy)) (s2:St->Option (Zy)) (v):(Y5 (QGx) QH3 6 N Tryz.f119 mo [.call 3 3 155] 0 Xv) s2 (QGL v)=cB N (fun v=>s0 (QAH v)) (fun v=>s1 (QCj v)) (fun v=>s2 (QGL v)) v:=by kernel_rfl
def iG (QAI:Y17×Int×Int×Zy->Option (Zy)) (aI:Y60->Option (Zy)) (aJ:Y49->Option (Zy)) (v:Y49):Option (Zy):=
 (bif (decide (v.2.2.1 < v.2.1)) then ((Nk v.1 v.2.2.1).bind fun x6=>((gY v.2.2.2.1 (x6,())).bind fun x7=>(let x8:Int:=(IntKind.i64.wrap (v.2.2.1+1));(aJ (v.1,v.2.1,x8,x7,v.2.2.2.2))))) else ((aO v.2.2.2.1 ((List.length v.2.2.2.2.2.2.1:Int),())).bind fun x9=>(QAI (v.2.2.2.2.2.2.1,(List.length v.2.2.2.2.2.2.1:Int),(0:Int),x9))))
def bq (N:Nat) (aI:Y60->Option (Zy)) (aJ:Y49->Option (Zy)) (v:Y49):Option (Zy):=iG (Gb (cB N aI aJ) N) aI aJ v
theorem QSI (N:Nat) (s0:St->Option (Zy)) (s1:St->Option (Zy)) (v):(Y5 (QGx) QH3 6 N Tryz.f119 mo [.call 2 3 153] 0 Xv) s1 (QCj v)=bq N (fun v=>s0 (QAH v)) (fun v=>s1 (QCj v)) v:=Eq.trans (b:=iG (fun v=>Ot (Y5 (QGx) QH3 6 N Tryz.f119 mo [.call 3 3 155] 0 Xv) N (QGL v)) (fun v=>s0 (QAH v)) (fun v=>s1 (QCj v)) v) (by kernel_rfl) (by rw [funext (Tf QGL (QSJ N s0 s1) N)];rfl)
def iF (bH:Y49->Option (Zy)) (aI:Y60->Option (Zy)) (v:Y60):Option (Zy):=
 (bif (decide (v.2.2.1 < v.2.1)) then ((Nk v.1 v.2.2.1).bind fun x2=>((p9 v.2.2.2.1 (x2,())).bind fun x3=>(let x4:Int:=(IntKind.i64.wrap (v.2.2.1+1));(aI (v.1,v.2.1,x4,x3,v.2.2.2.2))))) else ((aO v.2.2.2.1 ((List.length v.2.2.2.2.2.1:Int),())).bind fun x5=>(bH (v.2.2.2.2.2.1,(List.length v.2.2.2.2.2.1:Int),(0:Int),x5,v.2.2.2.2))))
def bn (N:Nat) (aI:Y60->Option (Zy)) (v:Y60):Option (Zy):=iF (Gb (bq N aI) N) aI v
theorem QSH (N:Nat) (s0:St->Option (Zy)) (v):(Y5 (QGx) QH3 6 N Tryz.f119 mo [.call 1 3 151] 0 Xv) s0 (QAH v)=bn N (fun v=>s0 (QAH v)) v:=Eq.trans (b:=iF (fun v=>Ot (Y5 (QGx) QH3 6 N Tryz.f119 mo [.call 2 3 153] 0 Xv) N (QCj v)) (fun v=>s0 (QAH v)) v) (by kernel_rfl) (by rw [funext (Tf QCj (QSI N s0) N)];rfl)
def kC (aL:Y60->Option (Zy)) (x:Zy) (y:(Zx×Unit)):Option (Zy):=
 ((aO x ((List.length y.1.1:Int),())).bind fun x1=>(aL (y.1.1,(List.length y.1.1:Int),(0:Int),x1,y.1)))
def wL (N:Nat) (x:Zy) (y:(Zx×Unit)):Option (Zy):=kC (Gb (bn N) N) x y
theorem Qb0 (N:Nat) (x:Zy) (y:(Zx×Unit)):V4 (QGx) QH3 6 N Tryz.f119 mo [.hole Z1] x y=wL N x y:=Eq.trans (b:=kC (fun v=>Ot (Y5 (QGx) QH3 6 N Tryz.f119 mo [.call 1 3 151] 0 Xv) N (QAH v)) x y) (by kernel_rfl) (by rw [funext (Tf QAH (QSH N) N)];rfl)
def o7 (x:Zy) (y:(Zx×Unit)):Option (Zy):=wL big x y
@[reducible] def QR4:MF:=⟨mo,[.hole Z1],fun x y=>o7 x y⟩
theorem QZP:MS Tryz.prog 119 QR4:=Yy (c:=QR4) (E:=QGx) ⟨aM,Yc,fun _ _ _=>rfl,mixed,(YP (YO Tryz.func151 rfl rfl (by kernel_rfl)) (YP (YO Tryz.func153 rfl rfl (by kernel_rfl)) (YP (YO Tryz.func155 rfl rfl (by kernel_rfl)) Yt))),Y0,(YS QZI (YS QQz (YS QZO (YS QNr Yz))))⟩ Tryz.func119 rfl (by decide) (by kernel_rfl) (by kernel_rfl) (fun x y z h=>⟨QH3,6,big,(Qb0 big x y).trans h⟩)
def QaA:LT:={ live:=[],keep:=[] }
noncomputable def QYV:Bn:={ tab:=tab,fs:=[(118,QUb)],inl:=[],ow:=[(119,QR4)] }
def yE (x:Zx):Option lZ:=
 ((qA x).bind fun x1=>(bif (!x1) then (some (([]:List Int),(8:Int))) else ((o7 ([]:List Int) (x,())).bind fun x2=>(bif (decide ((List.length x2:Int) > 20000)) then (some (([]:List Int),(4:Int))) else (some (x2,(0:Int)))))))
def sF (x:Zx):Option lZ:=yE x
def QUg:U0:=⟨[Z1],[Z8,Z2],[true,false],fun x=>sF x⟩
theorem QZQ:Hw Tryz.prog 77 QUg:=rz (E:=QYV) (lt:=QaA) (lv:=6) (N:=big) ⟨aM,(YH QZG Yc),fun _ _ _=>rfl,mixed,Yt,Y0,(YS QZP Yz)⟩ Tryz.func77 fun x _ h=>Eq.trans (b:=sF x) (by kernel_rfl) h
def QaB:LT:={ live:=[],keep:=[] }
noncomputable def QYW:Bn:={ tab:=tab,fs:=[(77,QUg)],inl:=[] }
def zS (x:Zx):Option (Int):=
 ((sF x).bind fun x1=>(some x1.2))
def pz (x:Zx):Option (Int):=zS x
def QQr:U0:=⟨[Z1],[Z2],[false],fun x=>pz x⟩
theorem QVn:Hw Tryz.prog 42 QQr:=rz (E:=QYW) (lt:=QaB) (lv:=6) (N:=big) ⟨aM,(YH QZQ Yc),fun _ _ _=>rfl,mixed,Yt,Y0,Yz⟩ Tryz.func42 fun x _ h=>Eq.trans (b:=pz x) (by kernel_rfl) h
def QaC:LT:={ live:=[],keep:=[] }
noncomputable def QYX:Bn:={ tab:=tab,fs:=[(135,QQj)],inl:=[] }
def yG (x:Int):Option (Int×Int):=
 (bif (decide (x < 0)) then (some ((0:Int),(2:Int))) else (bif (decide (x > 1073741824)) then (some ((0:Int),(2:Int))) else ((fM (x,(8:Int))).bind fun x1=>(some (x1,(0:Int))))))
def sI (x:Int):Option (Int×Int):=yG x
def QUh:U0:=⟨[Z2],[Z2,Z2],[false,false],fun x=>sI x⟩
theorem QZR:Hw Tryz.prog 86 QUh:=rz (E:=QYX) (lt:=QaC) (lv:=6) (N:=big) ⟨aM,(YH QVe Yc),fun _ _ _=>rfl,mixed,Yt,Y0,Yz⟩ Tryz.func86 fun x _ h=>Eq.trans (b:=sI x) (by kernel_rfl) h
def QRW:LT:={ live:=[(3,[0,3,12,13])],keep:=[] }
noncomputable def QNj (mk:(α:Type)->Nat->α->List α):Bn:={ tab:=tab,fs:=[(85,QQk),(86,QUh)],inl:=[],rep:=mk }
noncomputable def QGM (v:aG×Int×Int×Zy):St:={ s:=[(0,(.val ⟨wh,v.1⟩)),(3,(.row 0)),(12,(.val ⟨Z2,v.2.1⟩)),(13,(.val ⟨Z2,v.2.2.1⟩))],l:=[(0,.row Z2 v.2.2.2)],k:=[],b:=4096 }
def lC (mk:(α:Type)->Nat->α->List α) (aI:aG×Int×Int×Zy->Option (Zy)) (v:aG×Int×Int×Zy):Option (Zy):=
 (bif (decide (v.2.2.1 < v.2.1)) then ((qE (v.1,v.2.2.1)).bind fun x2=>((sI x2.1).bind fun x3=>(bif (decide (0<=v.2.2.1)&&decide (v.2.2.1 < (List.length v.2.2.2:Int))) then (let x4:Zy:=(List.set v.2.2.2 (Int.toNat v.2.2.1) x3.1);(let x5:Int:=(IntKind.i64.wrap (v.2.2.1+1));(aI (v.1,v.2.1,x5,x4)))) else none))) else (some v.2.2.2))
def bQ (mk:(α:Type)->Nat->α->List α) (N:Nat) (aI:aG×Int×Int×Zy->Option (Zy)) (v:aG×Int×Int×Zy):Option (Zy):=lC mk aI v
theorem QSK (mk:(α:Type)->Nat->α->List α) (N:Nat) (s0:St->Option (Zy)) (v):(ZR (QNj mk) QRW 6 N Tryz.f45 [Z5] [false] [] 0 Xv) s0 (QGM v)=bQ mk N (fun v=>s0 (QGM v)) v:=by kernel_rfl
def ig (mk:(α:Type)->Nat->α->List α) (aL:aG×Int×Int×Zy->Option (Zy)) (x:aG):Option (Zy):=
 (bif (decide (0<=(List.length x:Int))&&(decide ((List.length x:Int)<=(List.length x:Int))&&(decide ((List.length x:Int)<=68719476736)&&true))) then (let x1:Zy:=(mk Int (Int.toNat (List.length x:Int)) (0:Int));(aL (x,(List.length x:Int),(0:Int),x1))) else none)
def uR (mk:(α:Type)->Nat->α->List α) (N:Nat) (x:aG):Option (Zy):=ig mk (Gb (bQ mk N) N) x
theorem Qb1 (mk:(α:Type)->Nat->α->List α) (N:Nat) (x:aG):rise (QNj mk) QRW 6 N Tryz.f45 [wh] [Z5] [false] x=uR mk N x:=Eq.trans (b:=ig mk (fun v=>Ot (ZR (QNj mk) QRW 6 N Tryz.f45 [Z5] [false] [] 0 Xv) N (QGM v)) x) (by kernel_rfl) (by rw [funext (Tf QGM (QSK mk N) N)];rfl)
def ng (x:aG):Option (Zy):=uR (fun _=>List.replicate) big x
def QUi:U0:=⟨[wh],[Z5],[false],fun x=>ng x⟩
theorem QZS:Hw Tryz.prog 45 QUi:=rz (E:=QNj (fun _=>List.replicate)) ⟨aM,(YH QVf (YH QZR Yc)),fun _ _ _=>rfl,mixed,Yt,Y0,Yz⟩ Tryz.func45 fun _ _ h=>(Qb1 (fun _=>List.replicate) big _).trans h
def QaD:LT:={ live:=[],keep:=[] }
noncomputable def QYY:Bn:={ tab:=tab,fs:=[],inl:=[] }
def QB0 (x:Y81):Option (Bool):=
 (bif (decide (x.1≥0)) then (some (decide (x.1 < x.2))) else (some false))
def iO (x:Y81):Option (Bool):=QB0 x
def QQs:U0:=⟨[Z2,Z2],[.bool],[false],fun x=>iO x⟩
theorem QVo:Hw Tryz.prog 157 QQs:=rz (E:=QYY) (lt:=QaD) (lv:=6) (N:=big) ⟨aM,Yc,fun _ _ _=>rfl,mixed,Yt,Y0,Yz⟩ Tryz.func157 fun x _ h=>Eq.trans (b:=iO x) (by kernel_rfl) h
def QaE:LT:={ live:=[],keep:=[] }
noncomputable def QYZ:Bn:={ tab:=tab,fs:=[(157,QQs)],inl:=[] }
def QA0 (x:aA×Int):Option (Bool):=
 (bif (x.1.1==22) then ((iO (x.1.2.1,x.2)).bind fun x1=>(some x1)) else (bif (x.1.1==23) then ((iO (x.1.2.2.1,x.2)).bind fun x2=>(some x2)) else (some true)))
def kF (x:aA×Int):Option (Bool):=QA0 x
def QUj:U0:=⟨[Z3,Z2],[.bool],[false],fun x=>kF x⟩
theorem QZT:Hw Tryz.prog 120 QUj:=rz (E:=QYZ) (lt:=QaE) (lv:=6) (N:=big) ⟨aM,(YH QVo Yc),fun _ _ _=>rfl,mixed,Yt,Y0,Yz⟩ Tryz.func120 fun x _ h=>Eq.trans (b:=kF x) (by kernel_rfl) h
def QRX:LT:={ live:=[(4,[0,14,15,16])],keep:=[] }
noncomputable def QNk:Bn:={ tab:=tab,fs:=[(98,QLe),(120,QUj)],inl:=[] }
noncomputable def QGN (v:aF×aF×Int×Int):St:={ s:=[(0,(.val ⟨ru,v.1⟩)),(14,(.val ⟨ru,v.2.1⟩)),(15,(.val ⟨Z2,v.2.2.1⟩)),(16,(.val ⟨Z2,v.2.2.2⟩))],l:=[],k:=[],b:=4096 }
def kX (aI:aF×aF×Int×Int->Option (Int)) (v:aF×aF×Int×Int):Option (Int):=
 (bif (decide (v.2.2.2 < v.2.2.1)) then ((Nk v.2.1 v.2.2.2).bind fun x1=>((rQ x1).bind fun x2=>(bif (x2 != 0) then (some (8:Int)) else ((kF (x1,(List.length v.1:Int))).bind fun x3=>(bif (!x3) then (some (8:Int)) else (let x4:Int:=(IntKind.i64.wrap (v.2.2.2+1));(aI (v.1,v.2.1,v.2.2.1,x4)))))))) else (let x5:Int:=(IntKind.i64.wrap ((List.length v.1:Int) - 1));((Nk v.1 x5).bind fun x6=>(bif (x6.1 != 34) then (some (8:Int)) else (bif (x6.2.1 != (-1:Int)) then (some (8:Int)) else (some (0:Int)))))))
def sM (N:Nat) (aI:aF×aF×Int×Int->Option (Int)) (v:aF×aF×Int×Int):Option (Int):=kX aI v
theorem QSL (N:Nat) (s0:St->Option (Int)) (v):(ZR (QNk) QRX 6 N Tryz.f78 [Z2] [false] [] 0 Xv) s0 (QGN v)=sM N (fun v=>s0 (QGN v)) v:=by kernel_rfl
def xK (aL:aF×aF×Int×Int->Option (Int)) (x:aF):Option (Int):=
 (bif ((List.length x:Int)==0) then (some (8:Int)) else (bif (decide ((List.length x:Int) > 200)) then (some (8:Int)) else (aL (x,x,(List.length x:Int),(0:Int)))))
def QD6 (N:Nat) (x:aF):Option (Int):=xK (Gb (sM N) N) x
theorem Qb2 (N:Nat) (x:aF):rise (QNk) QRX 6 N Tryz.f78 [ru] [Z2] [false] x=QD6 N x:=Eq.trans (b:=xK (fun v=>Ot (ZR (QNk) QRX 6 N Tryz.f78 [Z2] [false] [] 0 Xv) N (QGN v)) x) (by kernel_rfl) (by rw [funext (Tf QGN (QSL N) N)];rfl)
def lu (x:aF):Option (Int):=QD6 big x
def QKV:U0:=⟨[ru],[Z2],[false],fun x=>lu x⟩
theorem QLo:Hw Tryz.prog 78 QKV:=rz (E:=QNk) ⟨aM,(YH QNq (YH QZT Yc)),fun _ _ _=>rfl,mixed,Yt,Y0,Yz⟩ Tryz.func78 fun _ _ h=>(Qb2 big _).trans h
def QMQ:LT:={ live:=[],keep:=[(30,[])] }
noncomputable def QKR (mk:(α:Type)->Nat->α->List α):Bn:={ tab:=tab,fs:=[],inl:=[(203,Tryz.f203,QaF)],rep:=mk }
noncomputable def QGO (v:Y45):St:={ s:=[(0,(.row 0)),(3,(.val ⟨Z2,v.1⟩)),(4,(.sub 0 v.2.1 v.2.2.1)),(5,(.val ⟨Z2,v.2.2.2.1⟩))],l:=[(0,.row Z2 v.2.2.2.2)],k:=[(4096,[])],b:=16904192 }
noncomputable def QCk (v:Int×Zy):St:={ s:=[(0,(.row 0)),(3,(.val ⟨Z2,v.1⟩))],l:=[(0,.row Z2 v.2)],k:=[(4096,[])],b:=16904192 }
def wB (mk:(α:Type)->Nat->α->List α) (aI:Int×Zy->Option (Zy)) (aJ:Y45->Option (Zy)) (v:Y45):Option (Zy):=
 (bif (decide (v.2.2.2.1 < (List.length (List.drop v.2.1 (List.take v.2.2.1 v.2.2.2.2)):Int))) then (bif (decide (0<=v.2.2.2.1)&&decide (v.2.2.2.1 < (v.2.2.1:Int) - (v.2.1:Int))) then ((nth v.2.2.2.2 (Int.toNat ((v.2.1:Int)+v.2.2.2.1))).bind fun x9=>(let gH:Int:=(IntKind.i64.wrap (v.2.2.2.1 - 1));(bif (decide (0<=gH)&&decide (gH < (v.2.2.1:Int) - (v.2.1:Int))) then ((nth v.2.2.2.2 (Int.toNat ((v.2.1:Int)+gH))).bind fun nV=>(bif (x9 != nV) then (bif (decide (0<=v.2.2.2.1)&&decide (v.2.2.2.1 < (v.2.2.1:Int) - (v.2.1:Int))) then ((nth v.2.2.2.2 (Int.toNat ((v.2.1:Int)+v.2.2.2.1))).bind fun pU=>(bif (decide (0<=v.1)&&decide (v.1 < (List.length v.2.2.2.2:Int))) then (let rE:Zy:=(List.set v.2.2.2.2 (Int.toNat v.1) pU);(let kM:Int:=(IntKind.i64.wrap (v.1+1));(let jf:Int:=(IntKind.i64.wrap (v.2.2.2.1+1));(aJ (kM,v.2.1,v.2.2.1,jf,rE))))) else none)) else none) else (let vU:Int:=(IntKind.i64.wrap (v.2.2.2.1+1));(aJ (v.1,v.2.1,v.2.2.1,vU,v.2.2.2.2))))) else none))) else none) else (bif (decide (0<=v.1)&&decide (v.1<=((List.length v.2.2.2.2):Int))) then (let yQ:Zy:=(List.append (List.take (Int.toNat v.1) v.2.2.2.2) (List.append (mk Int ((List.length v.2.2.2.2) - (Int.toNat v.1)) (0:Int)) (List.drop (List.length v.2.2.2.2) v.2.2.2.2)));(bif (decide (0<=v.1)&&decide (v.1<=((List.length yQ):Int))) then (some (List.drop 0 (List.take (Int.toNat v.1) yQ))) else none)) else none))
def qJ (mk:(α:Type)->Nat->α->List α) (N:Nat) (aI:Int×Zy->Option (Zy)) (aJ:Y45->Option (Zy)) (v:Y45):Option (Zy):=wB mk aI aJ v
theorem QSN (mk:(α:Type)->Nat->α->List α) (N:Nat) (s0:St->Option (Zy)) (s1:St->Option (Zy)) (v):(ZR (QKR mk) QMQ 6 N Tryz.f189 [Z5] [false] [.call 6 11 203] 1 (Yx s0 Xv)) s1 (QGO v)=qJ mk N (fun v=>s0 (QCk v)) (fun v=>s1 (QGO v)) v:=by kernel_rfl
def mI (mk:(α:Type)->Nat->α->List α) (bH:Y45->Option (Zy)) (aI:Int×Zy->Option (Zy)) (v:Int×Zy):Option (Zy):=
 (bif (decide (v.1 < (List.length v.2:Int))) then (bif (decide (0<=v.1)&&decide (v.1 < (List.length v.2:Int))) then ((nth v.2 (Int.toNat v.1)).bind fun x6=>(let x7:Int:=(IntKind.i64.wrap (v.1 - 1));(bif (decide (0<=x7)&&decide (x7 < (List.length v.2:Int))) then ((nth v.2 (Int.toNat x7)).bind fun x8=>(bif (x6==x8) then (bif (decide (0<=v.1)&&decide (v.1<=((List.length v.2):Int))) then (bH (v.1,(Int.toNat v.1),(List.length v.2),(1:Int),v.2)) else none) else (let x18:Int:=(IntKind.i64.wrap (v.1+1));(aI (x18,v.2))))) else none))) else none) else (some v.2))
def bU (mk:(α:Type)->Nat->α->List α) (N:Nat) (aI:Int×Zy->Option (Zy)) (v:Int×Zy):Option (Zy):=mI mk (Gb (qJ mk N aI) N) aI v
theorem QSM (mk:(α:Type)->Nat->α->List α) (N:Nat) (s0:St->Option (Zy)) (v):(ZR (QKR mk) QMQ 6 N Tryz.f189 [Z5] [false] [.call 6 11 203] 0 Xv) s0 (QCk v)=bU mk N (fun v=>s0 (QCk v)) v:=Eq.trans (b:=mI mk (fun v=>Ot (ZR (QKR mk) QMQ 6 N Tryz.f189 [Z5] [false] [.call 6 11 203] 1 (Yx s0 Xv)) N (QGO v)) (fun v=>s0 (QCk v)) v) (by kernel_rfl) (by rw [funext (Tf QGO (QSN mk N s0) N)];rfl)
def vC (mk:(α:Type)->Nat->α->List α) (aL:Int×Zy->Option (Zy)) (x:aF×Int):Option (Zy):=
 ((Nk x.1 x.2).bind fun x1=>(bif (x1.1==22) then (some ([x1.2.1]:Zy)) else (bif (x1.1==23) then (let x2:Int:=(IntKind.i64.wrap (x.2+1));(let x3:Int:=(if x1.2.2.1 < x2 then x1.2.2.1 else x2);(let x4:Int:=(IntKind.i64.wrap (x.2+1));(let x5:Int:=(if x1.2.2.1 > x4 then x1.2.2.1 else x4);(bif (decide ((List.length ([x3,x5]:Zy):Int) < 2)) then (some ([x3,x5]:Zy)) else (aL ((1:Int),([x3,x5]:Zy)))))))) else (bif (x1.1==34) then (bif (x1.1==34) then (some ([]:List Int)) else (let zh:Int:=(IntKind.i64.wrap (x.2+1));(some ([zh]:Zy)))) else (bif (x1.1==28) then (bif (x1.1==28) then (some ([]:List Int)) else (let x20:Int:=(IntKind.i64.wrap (x.2+1));(some ([x20]:Zy)))) else (bif (x1.1==30) then (some ([]:List Int)) else (let x21:Int:=(IntKind.i64.wrap (x.2+1));(some ([x21]:Zy)))))))))
def QBl (mk:(α:Type)->Nat->α->List α) (N:Nat) (x:aF×Int):Option (Zy):=vC mk (Gb (bU mk N) N) x
theorem Qb3 (mk:(α:Type)->Nat->α->List α) (N:Nat) (x:aF×Int):rise (QKR mk) QMQ 6 N Tryz.f189 [ru,Z2] [Z5] [false] x=QBl mk N x:=Eq.trans (b:=vC mk (fun v=>Ot (ZR (QKR mk) QMQ 6 N Tryz.f189 [Z5] [false] [.call 6 11 203] 0 Xv) N (QCk v)) x) (by kernel_rfl) (by rw [funext (Tf QCk (QSM mk N) N)];rfl)
def nC (x:aF×Int):Option (Zy):=QBl (fun _=>List.replicate) big x
def QLf:U0:=⟨[ru,Z2],[Z5],[false],fun x=>nC x⟩
theorem QNs:Hw Tryz.prog 189 QLf:=rz (E:=QKR (fun _=>List.replicate)) ⟨aM,Yc,fun _ _ _=>rfl,mixed,(YP (YO Tryz.func203 rfl rfl (by kernel_rfl)) Yt),Y0,Yz⟩ Tryz.func189 fun _ _ h=>(Qb3 (fun _=>List.replicate) big _).trans h
def QE4:LT:={ live:=[],keep:=[(12,[3])],rf:=[(13,[3],[3])] }
noncomputable def QF2 (mk:(α:Type)->Nat->α->List α):Bn:={ tab:=tab,fs:=[(189,QLf)],inl:=[(160,Tryz.f160,QRZ),(188,Tryz.f188,QRY)],rep:=mk }
noncomputable def QDO (v:Y30):St:={ s:=[(0,(.yl 0)),(1,(.loc 3 [])),(3,(.row 4)),(4,(.row 5)),(5,(.val ⟨Z2,v.1⟩)),(30,(.val ⟨Z5,v.2.1⟩)),(31,(.val ⟨Z2,v.2.2.1⟩)),(32,(.val ⟨Z2,v.2.2.2.1⟩))],l:=[(0,.lp (.pair .any (.pair .any (.pair .any (.pair (.loc 1 []) .unit)))) (Zq Tryz.f158 4 QE4 .ready none)),(1,.var Z16 (.row 2)),(2,.row .bool v.2.2.2.2.1),(3,.var ru (.val ⟨ru,v.2.2.2.2.2.1⟩)),(4,.row .bool v.2.2.2.2.2.2.1),(5,.row Z2 v.2.2.2.2.2.2.2)],k:=[(0,[(0,(.yl 0))]),(4096,[(3,(.loc 1 []))])],b:=33165312 }
noncomputable def QAa (v:Y68):St:={ s:=[(0,(.yl 0)),(1,(.loc 3 [])),(3,(.row 4)),(4,(.row 5))],l:=[(0,.lp (.pair .any (.pair .any (.pair .any (.pair (.loc 1 []) .unit)))) (Zq Tryz.f158 4 QE4 .ready none)),(1,.var Z16 (.row 2)),(2,.row .bool v.1),(3,.var ru (.val ⟨ru,v.2.1⟩)),(4,.row .bool v.2.2.1),(5,.row Z2 v.2.2.2)],k:=[(0,[(0,(.yl 0))]),(4096,[(3,(.loc 1 []))])],b:=33165312 }
def tJ (mk:(α:Type)->Nat->α->List α) (aI:Y68->Option (rJ)) (aJ:Y30->Option (rJ)) (v:Y30):Option (rJ):=
 (bif (decide (v.2.2.2.1 < v.2.2.1)) then ((Nk v.2.1 v.2.2.2.1).bind fun gH=>(bif (decide (0<=gH)&&decide (gH < (List.length v.2.2.2.2.1:Int))) then (let nV:rJ:=(List.set v.2.2.2.2.1 (Int.toNat gH) true);(bif (decide (0<=gH)&&decide (gH < (List.length v.2.2.2.2.2.2.1:Int))) then ((nth v.2.2.2.2.2.2.1 (Int.toNat gH)).bind fun pU=>(bif (!pU) then (bif (decide (0<=gH)&&decide (gH < (List.length v.2.2.2.2.2.2.1:Int))) then (let rE:rJ:=(List.set v.2.2.2.2.2.2.1 (Int.toNat gH) true);(bif (Nat.ble 1 1&&Nat.ble (List.length v.2.2.2.2.2.2.2+List.length ([gH]:Zy)) lim) then (let kM:Zy:=(List.append v.2.2.2.2.2.2.2 ([gH]:Zy));(let jf:Int:=(IntKind.i64.wrap (v.2.2.2.1+1));(aJ (v.1,v.2.1,v.2.2.1,jf,nV,v.2.2.2.2.2.1,rE,kM)))) else none)) else none) else (let vU:Int:=(IntKind.i64.wrap (v.2.2.2.1+1));(aJ (v.1,v.2.1,v.2.2.1,vU,nV,v.2.2.2.2.2.1,v.2.2.2.2.2.2.1,v.2.2.2.2.2.2.2))))) else none)) else none)) else (aI (v.2.2.2.2.1,v.2.2.2.2.2.1,v.2.2.2.2.2.2.1,v.2.2.2.2.2.2.2)))
def xG (mk:(α:Type)->Nat->α->List α) (N:Nat) (aI:Y68->Option (rJ)) (aJ:Y30->Option (rJ)) (v:Y30):Option (rJ):=tJ mk aI aJ v
theorem QO1 (mk:(α:Type)->Nat->α->List α) (N:Nat) (s0:St->Option (rJ)) (s1:St->Option (rJ)) (v):(ZR (QF2 mk) QE4 6 N Tryz.f158 [Z16] [true] [.rng 4 188] 1 (Yx s0 Xv)) s1 (QDO v)=xG mk N (fun v=>s0 (QAa v)) (fun v=>s1 (QDO v)) v:=by kernel_rfl
def xH (mk:(α:Type)->Nat->α->List α) (bH:Y30->Option (rJ)) (aI:Y68->Option (rJ)) (v:Y68):Option (rJ):=
 (bif (decide ((List.length v.2.2.2:Int) > 0)) then (let x6:Int:=(IntKind.i64.wrap ((List.length v.2.2.2:Int) - 1));(bif (decide (0<=x6)&&decide (x6 < (List.length v.2.2.2:Int))) then ((nth v.2.2.2 (Int.toNat x6)).bind fun x7=>(let x8:Int:=(IntKind.i64.wrap ((List.length v.2.2.2:Int) - 1));(bif (decide (0<=x8)&&decide (x8<=((List.length v.2.2.2):Int))) then ((nC (v.2.1,x7)).bind fun x9=>(bH (x7,x9,(List.length x9:Int),(0:Int),v.1,v.2.1,v.2.2.1,(List.take (Int.toNat x8) v.2.2.2)))) else none))) else none)) else (some v.1))
def xF (mk:(α:Type)->Nat->α->List α) (N:Nat) (aI:Y68->Option (rJ)) (v:Y68):Option (rJ):=xH mk (Gb (xG mk N aI) N) aI v
theorem QO0 (mk:(α:Type)->Nat->α->List α) (N:Nat) (s0:St->Option (rJ)) (v):(ZR (QF2 mk) QE4 6 N Tryz.f158 [Z16] [true] [.rng 4 188] 0 Xv) s0 (QAa v)=xF mk N (fun v=>s0 (QAa v)) v:=Eq.trans (b:=xH mk (fun v=>Ot (ZR (QF2 mk) QE4 6 N Tryz.f158 [Z16] [true] [.rng 4 188] 1 (Yx s0 Xv)) N (QDO v)) (fun v=>s0 (QAa v)) v) (by kernel_rfl) (by rw [funext (Tf QDO (QO1 mk N s0) N)];rfl)
def QAh (mk:(α:Type)->Nat->α->List α) (aL:Y68->Option (rJ)) (x:aF):Option (rJ):=
 (bif (decide (0<=(List.length x:Int))&&(decide ((List.length x:Int)<=(List.length x:Int))&&(decide ((List.length x:Int)<=68719476736)&&true))) then (let x1:rJ:=(mk Bool (Int.toNat (List.length x:Int)) false);(bif (decide (0<=(0:Int))&&decide ((0:Int) < (List.length x1:Int))) then (let x2:rJ:=(List.set x1 (Int.toNat (0:Int)) true);(bif (decide (0<=(List.length x:Int))&&(decide ((List.length x:Int)<=(List.length x:Int))&&(decide ((List.length x:Int)<=68719476736)&&true))) then (let x3:rJ:=(mk Bool (Int.toNat (List.length x:Int)) false);(bif (decide (0<=(0:Int))&&decide ((0:Int) < (List.length x3:Int))) then (let x4:rJ:=(List.set x3 (Int.toNat (0:Int)) true);(let x5:Zy:=([(0:Int)]:Zy);(aL (x2,x,x4,x5)))) else none)) else none)) else none)) else none)
def QFP (mk:(α:Type)->Nat->α->List α) (N:Nat) (x:aF):Option (rJ):=QAh mk (Gb (xF mk N) N) x
theorem QX6 (mk:(α:Type)->Nat->α->List α) (N:Nat) (x:aF):rise (QF2 mk) QE4 6 N Tryz.f158 [ru] [Z16] [true] x=QFP mk N x:=Eq.trans (b:=QAh mk (fun v=>Ot (ZR (QF2 mk) QE4 6 N Tryz.f158 [Z16] [true] [.rng 4 188] 0 Xv) N (QAa v)) x) (by kernel_rfl) (by rw [funext (Tf QAa (QO0 mk N) N)];rfl)
def QAZ (x:aF):Option (rJ):=QFP (fun _=>List.replicate) big x
def QLR:U0:=⟨[ru],[Z16],[true],fun x=>QAZ x⟩
theorem QPt:Hw Tryz.prog 158 QLR:=rz (E:=QF2 (fun _=>List.replicate)) ⟨aM,(YH QNs Yc),fun _ _ _=>rfl,mixed,(YP (YO Tryz.func160 rfl rfl (by kernel_rfl)) (YP (YO Tryz.func188 rfl rfl (by kernel_rfl)) Yt)),Y0,Yz⟩ Tryz.func158 fun _ _ h=>(QX6 (fun _=>List.replicate) big _).trans h
def QVt:LT:={ live:=[],keep:=[] }
noncomputable def QTP:Bn:={ tab:=tab,fs:=[(78,QKV),(158,QLR)],inl:=[] }
def yC (x:aF):Option (rJ×Int):=
 ((lu x).bind fun x1=>(bif (x1 != 0) then (some (([]:List Bool),x1)) else ((QAZ x).bind fun x2=>(let x3:Int:=(IntKind.i64.wrap ((List.length x:Int) - 1));(bif (decide (0<=x3)&&decide (x3 < (List.length x2:Int))) then (let x4:rJ:=(List.set x2 (Int.toNat x3) true);(some (x4,(0:Int)))) else none)))))
def r9 (x:aF):Option (rJ×Int):=yC x
def QP9:U0:=⟨[ru],[Z16,Z2],[true,false],fun x=>r9 x⟩
theorem QUn:Hw Tryz.prog 121 QP9:=rz (E:=QTP) (lt:=QVt) (lv:=6) (N:=big) ⟨aM,(YH QLo (YH QPt Yc)),fun _ _ _=>rfl,mixed,Yt,Y0,Yz⟩ Tryz.func121 fun x _ h=>Eq.trans (b:=r9 x) (by kernel_rfl) h
def QLt:LT:={ live:=[],keep:=[(13,[2,3])] }
noncomputable def QIq:Bn:={ tab:=tab,fs:=[(98,QLe),(140,QNp)],inl:=[(99,Tryz.f99,QWa),(100,Tryz.f100,QVv),(101,Tryz.f101,QVu)] }
noncomputable def QDP (v:Y64):St:={ s:=[(1,(.Ee 100 (.pair (.loc 0 []) (.pair (.loc 2 []) .unit)))),(4,(.loc 4 [])),(13,(.val ⟨(.arr 3 mo),v.1⟩)),(14,(.val ⟨Z2,v.2.1⟩))],l:=[(0,.var Z5 (.row 1)),(1,.row Z2 v.2.2.1),(2,.var Z5 (.row 3)),(3,.row Z2 v.2.2.2.1),(4,.var Z17 (.val ⟨Z17,v.2.2.2.2⟩))],k:=[(4096,[(2,(.loc 0 [])),(3,(.loc 2 []))])],b:=16834560 }
def zO (aI:Y64->Option Y21) (v:Y64):Option Y21:=
 (bif (decide (v.2.1 < 3)) then ((Nk v.1 v.2.1).bind fun x4=>(bif (x4 != 0) then (bif (decide (0<=v.2.1)&&decide (v.2.1 < 3)) then ((nth v.2.2.2.2 (Int.toNat v.2.1)).bind fun x5=>(bif (x4==1) then (bif (x4==1) then (bif (x5==(-1:Int)) then (let x6:Int:=(IntKind.i64.wrap (v.2.1+1));(aI (v.1,x6,v.2.2.1,v.2.2.2.1,v.2.2.2.2))) else (bif (Nat.ble 1 1&&Nat.ble (List.length v.2.2.1+List.length ([x5]:Zy)) lim) then (let x7:Zy:=(List.append v.2.2.1 ([x5]:Zy));(let x8:Int:=(IntKind.i64.wrap (v.2.1+1));(aI (v.1,x8,x7,v.2.2.2.1,v.2.2.2.2)))) else none)) else (bif (x4==2) then (bif (x4==2) then (bif (x5==(-1:Int)) then (let x9:Int:=(IntKind.i64.wrap (v.2.1+1));(aI (v.1,x9,v.2.2.1,v.2.2.2.1,v.2.2.2.2))) else (bif (Nat.ble 1 1&&Nat.ble (List.length v.2.2.2.1+List.length ([x5]:Zy)) lim) then (let gH:Zy:=(List.append v.2.2.2.1 ([x5]:Zy));(let nV:Int:=(IntKind.i64.wrap (v.2.1+1));(aI (v.1,nV,v.2.2.1,gH,v.2.2.2.2)))) else none)) else (let pU:Int:=(IntKind.i64.wrap (v.2.1+1));(aI (v.1,pU,v.2.2.1,v.2.2.2.1,v.2.2.2.2)))) else (bif (x4==4) then (bif (x5==(-1:Int)) then (let rE:Int:=(IntKind.i64.wrap (v.2.1+1));(aI (v.1,rE,v.2.2.1,v.2.2.2.1,v.2.2.2.2))) else (bif (Nat.ble 1 1&&Nat.ble (List.length v.2.2.2.1+List.length ([x5]:Zy)) lim) then (let kM:Zy:=(List.append v.2.2.2.1 ([x5]:Zy));(let jf:Int:=(IntKind.i64.wrap (v.2.1+1));(aI (v.1,jf,v.2.2.1,kM,v.2.2.2.2)))) else none)) else (let vU:Int:=(IntKind.i64.wrap (v.2.1+1));(aI (v.1,vU,v.2.2.1,v.2.2.2.1,v.2.2.2.2)))))) else (bif (x4==3) then (bif (x5==(-1:Int)) then (let yQ:Int:=(IntKind.i64.wrap (v.2.1+1));(aI (v.1,yQ,v.2.2.1,v.2.2.2.1,v.2.2.2.2))) else (bif (Nat.ble 1 1&&Nat.ble (List.length v.2.2.1+List.length ([x5]:Zy)) lim) then (let x18:Zy:=(List.append v.2.2.1 ([x5]:Zy));(let zh:Int:=(IntKind.i64.wrap (v.2.1+1));(aI (v.1,zh,x18,v.2.2.2.1,v.2.2.2.2)))) else none)) else (bif (x4==2) then (bif (x4==2) then (bif (x5==(-1:Int)) then (let x20:Int:=(IntKind.i64.wrap (v.2.1+1));(aI (v.1,x20,v.2.2.1,v.2.2.2.1,v.2.2.2.2))) else (bif (Nat.ble 1 1&&Nat.ble (List.length v.2.2.2.1+List.length ([x5]:Zy)) lim) then (let x21:Zy:=(List.append v.2.2.2.1 ([x5]:Zy));(let x22:Int:=(IntKind.i64.wrap (v.2.1+1));(aI (v.1,x22,v.2.2.1,x21,v.2.2.2.2)))) else none)) else (let x23:Int:=(IntKind.i64.wrap (v.2.1+1));(aI (v.1,x23,v.2.2.1,v.2.2.2.1,v.2.2.2.2)))) else (bif (x4==4) then (bif (x5==(-1:Int)) then (let x24:Int:=(IntKind.i64.wrap (v.2.1+1));(aI (v.1,x24,v.2.2.1,v.2.2.2.1,v.2.2.2.2))) else (bif (Nat.ble 1 1&&Nat.ble (List.length v.2.2.2.1+List.length ([x5]:Zy)) lim) then (let x25:Zy:=(List.append v.2.2.2.1 ([x5]:Zy));(let x26:Int:=(IntKind.i64.wrap (v.2.1+1));(aI (v.1,x26,v.2.2.1,x25,v.2.2.2.2)))) else none)) else (let x27:Int:=(IntKind.i64.wrap (v.2.1+1));(aI (v.1,x27,v.2.2.1,v.2.2.2.1,v.2.2.2.2)))))))) else none) else (let x28:Int:=(IntKind.i64.wrap (v.2.1+1));(aI (v.1,x28,v.2.2.1,v.2.2.2.1,v.2.2.2.2))))) else (some (v.2.2.1,v.2.2.2.1,(0:Int))))
def uw (N:Nat) (aI:Y64->Option Y21) (v:Y64):Option Y21:=zO aI v
theorem QO2 (N:Nat) (s0:St->Option Y21) (v):(ZR (QIq) QLt 6 N Tryz.f50 [Z5,Z5,Z2] [true,false,false] [.call 4 2 99] 0 Xv) s0 (QDP v)=uw N (fun v=>s0 (QDP v)) v:=by kernel_rfl
def zV (aL:Y64->Option Y21) (x:aA):Option Y21:=
 ((rQ x).bind fun x1=>(bif (x1 != 0) then (some (([]:List Int),([]:List Int),x1)) else ((kN x).bind fun x2=>((Nk ZT x.1).bind fun x3=>(aL (x3.2.1,(0:Int),([]:List Int),([]:List Int),x2))))))
def QEV (N:Nat) (x:aA):Option Y21:=zV (Gb (uw N) N) x
theorem QX7 (N:Nat) (x:aA):rise (QIq) QLt 6 N Tryz.f50 [Z3] [Z5,Z5,Z2] [true,false,false] x=QEV N x:=Eq.trans (b:=zV (fun v=>Ot (ZR (QIq) QLt 6 N Tryz.f50 [Z5,Z5,Z2] [true,false,false] [.call 4 2 99] 0 Xv) N (QDP v)) x) (by kernel_rfl) (by rw [funext (Tf QDP (QO2 N) N)];rfl)
def o9 (x:aA):Option Y21:=QEV big x
def QGz:U0:=⟨[Z3],[Z5,Z5,Z2],[true,false,false],fun x=>o9 x⟩
theorem QJO:Hw Tryz.prog 50 QGz:=rz (E:=QIq) ⟨aM,(YH QNq (YH QQy Yc)),fun _ _ _=>rfl,mixed,(YP (YO Tryz.func99 rfl rfl (by kernel_rfl)) (YP (YO Tryz.func100 rfl rfl (by kernel_rfl)) (YP (YO Tryz.func101 rfl rfl (by kernel_rfl)) Yt))),Y0,Yz⟩ Tryz.func50 fun _ _ h=>(QX7 big _).trans h
def QH1:LT:={ live:=[(3,[0,3,9,10,11]),(11,[6,25,26,27])],keep:=[(24,[0])],stk:=[6] }
noncomputable def QF3 (mk:(α:Type)->Nat->α->List α):Bn:={ tab:=tab,fs:=[],inl:=[(136,Tryz.f136,QVw)],rep:=mk }
noncomputable def QDQ (v:Y66):St:={ s:=[(6,(.row 0)),(25,(.val ⟨(.slice Z5),v.1⟩)),(26,(.val ⟨Z2,v.2.1⟩)),(27,(.val ⟨Z2,v.2.2.1⟩))],l:=[(0,.row Z2 v.2.2.2)],k:=[],b:=4096 }
noncomputable def QAb (v:Y43):St:={ s:=[(0,(.val ⟨(.slice Z5),v.1⟩)),(3,(.val ⟨Z2,v.2.1⟩)),(9,(.val ⟨(.slice Z5),v.2.2.1⟩)),(10,(.val ⟨Z2,v.2.2.2.1⟩)),(11,(.val ⟨Z2,v.2.2.2.2⟩))],l:=[],k:=[],b:=4096 }
def iV (mk:(α:Type)->Nat->α->List α) (aI:Y43->Option (Zy)) (aJ:Y66->Option (Zy)) (v:Y66):Option (Zy):=
 (bif (decide (v.2.2.1 < v.2.1)) then ((Nk v.1 v.2.2.1).bind fun x7=>(bif (Nat.ble 1 1&&Nat.ble (List.length v.2.2.2+List.length x7) lim) then (let x8:Int:=(IntKind.i64.wrap (v.2.2.1+1));(aJ (v.1,v.2.1,x8,(List.append v.2.2.2 x7)))) else none)) else (some v.2.2.2))
def bA (mk:(α:Type)->Nat->α->List α) (N:Nat) (aI:Y43->Option (Zy)) (aJ:Y66->Option (Zy)) (v:Y66):Option (Zy):=iV mk aI aJ v
theorem QO4 (mk:(α:Type)->Nat->α->List α) (N:Nat) (s0:St->Option (Zy)) (s1:St->Option (Zy)) (v):(ZR (QF3 mk) QH1 6 N Tryz.f87 [Z5] [true] [] 1 Xv) s1 (QDQ v)=bA mk N (fun v=>s0 (QAb v)) (fun v=>s1 (QDQ v)) v:=by kernel_rfl
def bB (mk:(α:Type)->Nat->α->List α) (bH:Y66->Option (Zy)) (aI:Y43->Option (Zy)) (v:Y43):Option (Zy):=
 (bif (decide (v.2.2.2.2 < v.2.2.2.1)) then ((Nk v.2.2.1 v.2.2.2.2).bind fun x1=>(let x2:Int:=(IntKind.i64.wrap (v.2.1+(List.length x1:Int)));(bif (decide (x2 < 0)) then none else (let x3:Int:=(IntKind.i64.wrap (v.2.2.2.2+1));(aI (v.1,x2,v.2.2.1,v.2.2.2.1,x3)))))) else (bif (decide (v.2.1 < 0)) then none else (let x4:Int:=(IntKind.i64.wrap ((0:Int) - (List.length ([]:List Int):Int)));(let x5:Int:=(IntKind.i64.wrap (v.2.1 - x4));(bif (decide (x5 > 0)) then (bif (decide ((0:Int)=0)) then (bif (decide (1<=x5)&&decide (x5<=(lim:Int))) then (bif (Nat.ble 1 1&&Nat.ble (List.length ([]:List Int)+List.length (mk Int (Int.toNat x5) (0:Int))) lim) then (let x6:Zy:=(List.append ([]:List Int) (mk Int (Int.toNat x5) (0:Int)));(bif (decide (0<=(List.length ([]:List Int):Int))&&decide ((List.length ([]:List Int):Int)<=((List.length x6):Int))) then (bH (v.1,(List.length v.1:Int),(0:Int),(List.take (Int.toNat (List.length ([]:List Int):Int)) x6))) else none)) else none) else none) else none) else (bH (v.1,(List.length v.1:Int),(0:Int),([]:List Int))))))))
def ay (mk:(α:Type)->Nat->α->List α) (N:Nat) (aI:Y43->Option (Zy)) (v:Y43):Option (Zy):=bB mk (Gb (bA mk N aI) N) aI v
theorem QO3 (mk:(α:Type)->Nat->α->List α) (N:Nat) (s0:St->Option (Zy)) (v):(ZR (QF3 mk) QH1 6 N Tryz.f87 [Z5] [true] [] 0 Xv) s0 (QAb v)=ay mk N (fun v=>s0 (QAb v)) v:=Eq.trans (b:=bB mk (fun v=>Ot (ZR (QF3 mk) QH1 6 N Tryz.f87 [Z5] [true] [] 1 Xv) N (QDQ v)) (fun v=>s0 (QAb v)) v) (by kernel_rfl) (by rw [funext (Tf QDQ (QO4 mk N s0) N)];rfl)
def fJ (mk:(α:Type)->Nat->α->List α) (aL:Y43->Option (Zy)) (x:Y12):Option (Zy):=
 (aL (x,(0:Int),x,(List.length x:Int),(0:Int)))
def qx (mk:(α:Type)->Nat->α->List α) (N:Nat) (x:Y12):Option (Zy):=fJ mk (Gb (ay mk N) N) x
theorem QX8 (mk:(α:Type)->Nat->α->List α) (N:Nat) (x:Y12):rise (QF3 mk) QH1 6 N Tryz.f87 [(.slice Z5)] [Z5] [true] x=qx mk N x:=Eq.trans (b:=fJ mk (fun v=>Ot (ZR (QF3 mk) QH1 6 N Tryz.f87 [Z5] [true] [] 0 Xv) N (QAb v)) x) (by kernel_rfl) (by rw [funext (Tf QAb (QO3 mk N) N)];rfl)
def cu (x:Y12):Option (Zy):=qx (fun _=>List.replicate) big x
def QLS:U0:=⟨[(.slice Z5)],[Z5],[true],fun x=>cu x⟩
theorem QPu:Hw Tryz.prog 87 QLS:=rz (E:=QF3 (fun _=>List.replicate)) ⟨aM,Yc,fun _ _ _=>rfl,mixed,(YP (YO Tryz.func136 rfl rfl (by kernel_rfl)) Yt),Y0,Yz⟩ Tryz.func87 fun _ _ h=>(QX8 (fun _=>List.replicate) big _).trans h
def QVx:LT:={ live:=[],keep:=[] }
noncomputable def QTQ:Bn:={ tab:=tab,fs:=[],inl:=[] }
def yB (x:aA):Option (Int×Bool):=
 (bif (x.1==25) then (some (x.2.2.1,true)) else (bif (x.1==26) then (bif (x.1==26) then (some (x.2.1,true)) else (some ((0:Int),false))) else (bif (x.1==27) then (some (x.2.1,true)) else (some ((0:Int),false)))))
def oF (x:aA):Option (Int×Bool):=yB x
def QLT:U0:=⟨[Z3],[Z2,.bool],[false,false],fun x=>oF x⟩
theorem QPv:Hw Tryz.prog 88 QLT:=rz (E:=QTQ) (lt:=QVx) (lv:=6) (N:=big) ⟨aM,Yc,fun _ _ _=>rfl,mixed,Yt,Y0,Yz⟩ Tryz.func88 fun x _ h=>Eq.trans (b:=oF x) (by kernel_rfl) h
def QLu:LT:={ live:=[(3,[2,3,21,22,23])],keep:=[] }
noncomputable def QIr:Bn:={ tab:=tab,fs:=[(50,QGz),(87,QLS),(88,QLT)],inl:=[] }
noncomputable def QDR (v:Y61):St:={ s:=[(2,(.loc 0 [])),(3,(.loc 1 [])),(21,(.row 2)),(22,(.val ⟨Z2,v.1⟩)),(23,(.val ⟨Z2,v.2.1⟩))],l:=[(0,.var Z7 (.val ⟨Z7,v.2.2.1⟩)),(1,.var Z3 (.val ⟨Z3,v.2.2.2.1⟩)),(2,.row Z2 v.2.2.2.2)],k:=[],b:=4096 }
def iT (aI:Y61->Option (Bool)) (v:Y61):Option (Bool):=
 (bif (decide (v.2.1 < v.1)) then (bif (decide (0<=v.2.1)&&decide (v.2.1 < (List.length v.2.2.2.2:Int))) then ((nth v.2.2.2.2 (Int.toNat v.2.1)).bind fun x4=>(bif (decide (x4≥(List.length v.2.2.1.2.1.2.2.2.1:Int))) then (some false) else (let x5:Int:=(IntKind.i64.wrap (v.2.1+1));(aI (v.1,x5,v.2.2.1,v.2.2.2.1,v.2.2.2.2))))) else none) else ((oF v.2.2.2.1).bind fun x6=>(bif x6.2 then (some (decide (x6.1 < (List.length v.2.2.1.1.2.2.1:Int)))) else (bif (v.2.2.2.1.1 != 2) then (some true) else (some (decide (v.2.2.2.1.2.2.1 < (List.length v.2.2.1.1.2.1:Int))))))))
def av (N:Nat) (aI:Y61->Option (Bool)) (v:Y61):Option (Bool):=iT aI v
theorem QO5 (N:Nat) (s0:St->Option (Bool)) (v):(ZR (QIr) QLu 6 N Tryz.f48 [.bool] [false] [] 0 Xv) s0 (QDR v)=av N (fun v=>s0 (QDR v)) v:=by kernel_rfl
def fI (aL:Y61->Option (Bool)) (x:aD×aA):Option (Bool):=
 ((o9 x.2).bind fun x1=>(let x2:Y12:=([x1.1,x1.2.1]:Y12);((cu x2).bind fun x3=>(aL ((List.length x3:Int),(0:Int),x.1,x.2,x3)))))
def qw (N:Nat) (x:aD×aA):Option (Bool):=fI (Gb (av N) N) x
theorem QX9 (N:Nat) (x:aD×aA):rise (QIr) QLu 6 N Tryz.f48 [Z7,Z3] [.bool] [false] x=qw N x:=Eq.trans (b:=fI (fun v=>Ot (ZR (QIr) QLu 6 N Tryz.f48 [.bool] [false] [] 0 Xv) N (QDR v)) x) (by kernel_rfl) (by rw [funext (Tf QDR (QO5 N) N)];rfl)
def fG (x:aD×aA):Option (Bool):=qw big x
def QLU:U0:=⟨[Z7,Z3],[.bool],[false],fun x=>fG x⟩
theorem QPw:Hw Tryz.prog 48 QLU:=rz (E:=QIr) ⟨aM,(YH QJO (YH QPu (YH QPv Yc))),fun _ _ _=>rfl,mixed,Yt,Y0,Yz⟩ Tryz.func48 fun _ _ h=>(QX9 big _).trans h
def QVy:LT:={ live:=[],keep:=[] }
noncomputable def QTR:Bn:={ tab:=tab,fs:=[],inl:=[] }
def oD (x:aD×Int):Option (Int):=
 ((Nk x.1.2.1.2.2.2.1 x.2).bind fun x1=>(some x1.2.1))
def aQ (x:aD×Int):Option (Int):=oD x
def QCz:U0:=⟨[Z7,Z2],[Z2],[false],fun x=>aQ x⟩
theorem QE2:Hw Tryz.prog 90 QCz:=rz (E:=QTR) (lt:=QVy) (lv:=6) (N:=big) ⟨aM,Yc,fun _ _ _=>rfl,mixed,Yt,Y0,Yz⟩ Tryz.func90 fun x _ h=>Eq.trans (b:=aQ x) (by kernel_rfl) h
def QVz:LT:={ live:=[],keep:=[] }
noncomputable def QTS:Bn:={ tab:=tab,fs:=[(90,QCz)],inl:=[] }
def ny (x:aD×Int):Option (Int):=
 ((aQ (x.1,x.2)).bind fun x1=>((Nk x.1.1.1 x1).bind fun x2=>(some x2.1)))
def bC (x:aD×Int):Option (Int):=ny x
def QJK:U0:=⟨[Z7,Z2],[mo],[false],fun x=>bC x⟩
theorem QLj:Hw Tryz.prog 92 QJK:=rz (E:=QTS) (lt:=QVz) (lv:=6) (N:=big) ⟨aM,(YH QE2 Yc),fun _ _ _=>rfl,mixed,Yt,Y0,Yz⟩ Tryz.func92 fun x _ h=>Eq.trans (b:=bC x) (by kernel_rfl) h
def QLv:LT:={ live:=[],keep:=[(9,[])] }
noncomputable def QIs:Bn:={ tab:=tab,fs:=[(92,QJK)],inl:=[(131,Tryz.f131,QJR),(137,Tryz.f137,QW0),(167,Tryz.f167,QJQ)] }
noncomputable def QDS (v:Y50):St:={ s:=[(0,(.val ⟨Z5,v.1⟩)),(1,(.Ee 137 (.pair (.loc 0 []) (.pair (.loc 1 []) .unit)))),(7,(.val ⟨Z2,v.2.1⟩)),(8,(.val ⟨Z2,v.2.2.1⟩))],l:=[(0,.var Z7 (.val ⟨Z7,v.2.2.2.1⟩)),(1,.var mo (.val ⟨mo,v.2.2.2.2⟩))],k:=[(16818176,[]),(4096,[])],b:=68887281664 }
def pE (aI:Y50->Option (Bool)) (v:Y50):Option (Bool):=
 (bif (decide (v.2.2.1 < v.2.1)) then ((Nk v.1 v.2.2.1).bind fun x1=>((bC (v.2.2.2.1,x1)).bind fun x2=>(bif (x2 != v.2.2.2.2) then (some (!(decide (v.2.2.1≥0)))) else (let x3:Int:=(IntKind.i64.wrap (v.2.2.1+1));(aI (v.1,v.2.1,x3,v.2.2.2.1,v.2.2.2.2)))))) else (some (!(decide ((-1:Int)≥0)))))
def dS (N:Nat) (aI:Y50->Option (Bool)) (v:Y50):Option (Bool):=pE aI v
theorem QO6 (N:Nat) (s0:St->Option (Bool)) (v):(ZR (QIs) QLv 6 N Tryz.f89 [.bool] [false] [.call 1 2 131,.call 1 2 167] 0 Xv) s0 (QDS v)=dS N (fun v=>s0 (QDS v)) v:=by kernel_rfl
def nQ (aL:Y50->Option (Bool)) (x:aD×Int×Zy):Option (Bool):=
 (aL (x.2.2,(List.length x.2.2:Int),(0:Int),x.1,x.2.1))
def yg (N:Nat) (x:aD×Int×Zy):Option (Bool):=nQ (Gb (dS N) N) x
theorem QXA (N:Nat) (x:aD×Int×Zy):rise (QIs) QLv 6 N Tryz.f89 [Z7,mo,Z5] [.bool] [false] x=yg N x:=Eq.trans (b:=nQ (fun v=>Ot (ZR (QIs) QLv 6 N Tryz.f89 [.bool] [false] [.call 1 2 131,.call 1 2 167] 0 Xv) N (QDS v)) x) (by kernel_rfl) (by rw [funext (Tf QDS (QO6 N) N)];rfl)
def aN (x:aD×Int×Zy):Option (Bool):=yg big x
def QPA:U0:=⟨[Z7,mo,Z5],[.bool],[false],fun x=>aN x⟩
theorem QUp:Hw Tryz.prog 89 QPA:=rz (E:=QIs) ⟨aM,(YH QLj Yc),fun _ _ _=>rfl,mixed,(YP (YO Tryz.func131 rfl rfl (by kernel_rfl)) (YP (YO Tryz.func137 rfl rfl (by kernel_rfl)) (YP (YO Tryz.func167 rfl rfl (by kernel_rfl)) Yt))),Y0,Yz⟩ Tryz.func89 fun _ _ h=>(QXA big _).trans h
def QLw:LT:={ live:=[(2,[0,1,7,8])],keep:=[] }
noncomputable def QIt:Bn:={ tab:=tab,fs:=[],inl:=[] }
noncomputable def QDT (v:Y65):St:={ s:=[(0,(.val ⟨Z8,v.1⟩)),(1,(.val ⟨mo,v.2.1⟩)),(7,(.val ⟨Z2,v.2.2.1⟩)),(8,(.val ⟨Z2,v.2.2.2⟩))],l:=[],k:=[],b:=4096 }
def uz (aI:Y65->Option (Int)) (v:Y65):Option (Int):=
 (bif (decide (v.2.2.2 < v.2.2.1)) then ((Nk v.1 v.2.2.2).bind fun x1=>(bif (v.2.1==x1) then (some v.2.2.2) else (let x2:Int:=(IntKind.i64.wrap (v.2.2.2+1));(aI (v.1,v.2.1,v.2.2.1,x2))))) else (some (-1:Int)))
def lN (N:Nat) (aI:Y65->Option (Int)) (v:Y65):Option (Int):=uz aI v
theorem QO7 (N:Nat) (s0:St->Option (Int)) (v):(ZR (QIt) QLw 6 N Tryz.f173 [Z2] [false] [] 0 Xv) s0 (QDT v)=lN N (fun v=>s0 (QDT v)) v:=by kernel_rfl
def nZ (aL:Y65->Option (Int)) (x:Zy×Int):Option (Int):=
 (aL (x.1,x.2,(List.length x.1:Int),(0:Int)))
def nY (N:Nat) (x:Zy×Int):Option (Int):=nZ (Gb (lN N) N) x
theorem QXB (N:Nat) (x:Zy×Int):rise (QIt) QLw 6 N Tryz.f173 [Z8,mo] [Z2] [false] x=nY N x:=Eq.trans (b:=nZ (fun v=>Ot (ZR (QIt) QLw 6 N Tryz.f173 [Z2] [false] [] 0 Xv) N (QDT v)) x) (by kernel_rfl) (by rw [funext (Tf QDT (QO7 N) N)];rfl)
def nW (x:Zy×Int):Option (Int):=nY big x
def QPB:U0:=⟨[Z8,mo],[Z2],[false],fun x=>nW x⟩
theorem QUq:Hw Tryz.prog 173 QPB:=rz (E:=QIt) ⟨aM,Yc,fun _ _ _=>rfl,mixed,Yt,Y0,Yz⟩ Tryz.func173 fun _ _ h=>(QXB big _).trans h
def QW1:LT:={ live:=[],keep:=[] }
noncomputable def QTT:Bn:={ tab:=tab,fs:=[(173,QPB)],inl:=[] }
def uO (x:Zy×Int):Option (Bool):=
 ((nW (x.1,x.2)).bind fun x1=>(some (decide (x1≥0))))
def eu (x:Zy×Int):Option (Bool):=uO x
def QPC:U0:=⟨[Z8,mo],[.bool],[false],fun x=>eu x⟩
theorem QUr:Hw Tryz.prog 138 QPC:=rz (E:=QTT) (lt:=QW1) (lv:=6) (N:=big) ⟨aM,(YH QUq Yc),fun _ _ _=>rfl,mixed,Yt,Y0,Yz⟩ Tryz.func138 fun x _ h=>Eq.trans (b:=eu x) (by kernel_rfl) h
def QW2:LT:={ live:=[],keep:=[] }
noncomputable def QTU:Bn:={ tab:=tab,fs:=[(138,QPC)],inl:=[] }
def QGd (x:Int×Zy):Option (Bool):=
 ((eu (x.2,x.1)).bind fun x1=>(some x1))
def ji (x:Int×Zy):Option (Bool):=QGd x
def QJL:U0:=⟨[mo,Z8],[.bool],[false],fun x=>ji x⟩
theorem QLk:Hw Tryz.prog 95 QJL:=rz (E:=QTU) (lt:=QW2) (lv:=6) (N:=big) ⟨aM,(YH QUr Yc),fun _ _ _=>rfl,mixed,Yt,Y0,Yz⟩ Tryz.func95 fun x _ h=>Eq.trans (b:=ji x) (by kernel_rfl) h
def QW3:LT:={ live:=[],keep:=[] }
noncomputable def QTV:Bn:={ tab:=tab,fs:=[(95,QJL)],inl:=[] }
def wO (x:Int):Option (Bool):=
 (let x1:Zy:=([(2:Int),(1:Int),(4:Int)]:Zy);((ji (x,x1)).bind fun x2=>(some x2)))
def lq (x:Int):Option (Bool):=wO x
def QLV:U0:=⟨[mo],[.bool],[false],fun x=>lq x⟩
theorem QPx:Hw Tryz.prog 91 QLV:=rz (E:=QTV) (lt:=QW3) (lv:=6) (N:=big) ⟨aM,(YH QLk Yc),fun _ _ _=>rfl,mixed,Yt,Y0,Yz⟩ Tryz.func91 fun x _ h=>Eq.trans (b:=lq x) (by kernel_rfl) h
def QW4:LT:={ live:=[],keep:=[] }
noncomputable def QTW:Bn:={ tab:=tab,fs:=[(90,QCz)],inl:=[] }
def mh (x:aD×Int×Int×Int):Option (Bool):=
 ((aQ (x.1,x.2.2.1)).bind fun x1=>((Nk x.1.1.1 x1).bind fun x2=>(bif (decide (x.2.2.2 < (List.length x2.2.2.2.1:Int))) then ((Nk x2.2.2.2.1 x.2.2.2).bind fun x3=>((aQ (x.1,x.2.1)).bind fun x4=>(some (x3.2.1==x4)))) else (some false))))
def dZ (x:aD×Int×Int×Int):Option (Bool):=mh x
def QPD:U0:=⟨[Z7,Z2,Z2,Z2],[.bool],[false],fun x=>dZ x⟩
theorem QUs:Hw Tryz.prog 93 QPD:=rz (E:=QTW) (lt:=QW4) (lv:=6) (N:=big) ⟨aM,(YH QE2 Yc),fun _ _ _=>rfl,mixed,Yt,Y0,Yz⟩ Tryz.func93 fun x _ h=>Eq.trans (b:=dZ x) (by kernel_rfl) h
def QW5:LT:={ live:=[],keep:=[] }
noncomputable def QTX:Bn:={ tab:=tab,fs:=[(90,QCz),(92,QJK),(95,QJL)],inl:=[] }
def nu (x:aD×Int×Int×Zy):Option (Bool):=
 ((bC (x.1,x.2.2.1)).bind fun x1=>((ji (x1,x.2.2.2)).bind fun x2=>(bif x2 then ((aQ (x.1,x.2.2.1)).bind fun x3=>((Nk x.1.1.1 x3).bind fun x4=>((aQ (x.1,x.2.1)).bind fun x5=>(some (x4.2.1==x5))))) else (some false))))
def bM (x:aD×Int×Int×Zy):Option (Bool):=nu x
def QPE:U0:=⟨[Z7,Z2,Z2,Z8],[.bool],[false],fun x=>bM x⟩
theorem QUt:Hw Tryz.prog 94 QPE:=rz (E:=QTX) (lt:=QW5) (lv:=6) (N:=big) ⟨aM,(YH QE2 (YH QLj (YH QLk Yc))),fun _ _ _=>rfl,mixed,Yt,Y0,Yz⟩ Tryz.func94 fun x _ h=>Eq.trans (b:=bM x) (by kernel_rfl) h
def QW6:LT:={ live:=[],keep:=[] }
noncomputable def QTY:Bn:={ tab:=tab,fs:=[(90,QCz)],inl:=[] }
def iW (x:aD×Int×Zw):Option (Bool):=
 (bif (x.2.1==(-1:Int)) then (some true) else ((aQ (x.1,x.2.1)).bind fun x1=>(some (x1==x.2.2.2.2.1))))
def bS (x:aD×Int×Zw):Option (Bool):=iW x
def QPF:U0:=⟨[Z7,Z2,Z0],[.bool],[false],fun x=>bS x⟩
theorem QUu:Hw Tryz.prog 96 QPF:=rz (E:=QTY) (lt:=QW6) (lv:=6) (N:=big) ⟨aM,(YH QE2 Yc),fun _ _ _=>rfl,mixed,Yt,Y0,Yz⟩ Tryz.func96 fun x _ h=>Eq.trans (b:=bS x) (by kernel_rfl) h
def QW7:LT:={ live:=[],keep:=[] }
noncomputable def QTZ:Bn:={ tab:=tab,fs:=[(91,QLV)],inl:=[] }
def j4 (x:aD×Zw):Option (Bool):=
 (bif (x.2.2.2.1 != (-1:Int)) then (some false) else (bif (decide (x.2.2.1 > 1)) then (some false) else (bif (x.2.2.1==0) then (some true) else ((Nk x.2.2.2.2.1 (0:Int)).bind fun x1=>((Nk x.1.1.1 x1.2.1).bind fun x2=>((lq x2.1).bind fun x3=>(some x3)))))))
def cZ (x:aD×Zw):Option (Bool):=j4 x
def QPG:U0:=⟨[Z7,Z0],[.bool],[false],fun x=>cZ x⟩
theorem QUv:Hw Tryz.prog 97 QPG:=rz (E:=QTZ) (lt:=QW7) (lv:=6) (N:=big) ⟨aM,(YH QPx Yc),fun _ _ _=>rfl,mixed,Yt,Y0,Yz⟩ Tryz.func97 fun x _ h=>Eq.trans (b:=cZ x) (by kernel_rfl) h
def QW8:LT:={ live:=[],keep:=[],cnd:=[7,22,41,224,244] }
noncomputable def QTa:Bn:={ tab:=tab,fs:=[(89,QPA),(90,QCz),(91,QLV),(92,QJK),(93,QPD),(94,QPE),(95,QJL),(96,QPF),(97,QPG)],inl:=[] }
def aK (x:aD×aA):Option (Bool):=
 (bif (x.2.1==1) then ((aN (x.1,(2:Int),([x.2.2.1]:Zy))).bind fun x1=>(some x1)) else (bif (x.2.1==32) then ((aN (x.1,(2:Int),([x.2.2.1]:Zy))).bind fun x2=>(some x2)) else (bif (x.2.1==2) then ((aN (x.1,(3:Int),([x.2.2.1]:Zy))).bind fun x3=>(some x3)) else (bif (x.2.1==3) then ((aN (x.1,(1:Int),([x.2.2.1]:Zy))).bind fun x4=>(some x4)) else (bif (x.2.1==23) then ((aN (x.1,(1:Int),([x.2.2.1]:Zy))).bind fun x5=>(some x5)) else (bif (x.2.1==5) then ((aQ (x.1,x.2.2.1)).bind fun x6=>((aQ (x.1,x.2.2.2.1)).bind fun x7=>(some (x6==x7)))) else (bif (x.2.1==6) then (let x8:Zy:=([x.2.2.1,x.2.2.2.1,x.2.2.2.2.1]:Zy);((aN (x.1,(2:Int),x8)).bind fun x9=>(some x9))) else (bif (x.2.1==7) then (let gH:Zy:=([x.2.2.1,x.2.2.2.1,x.2.2.2.2.1]:Zy);((aN (x.1,(2:Int),gH)).bind fun nV=>(some nV))) else (bif (x.2.1==8) then (let pU:Zy:=([x.2.2.1,x.2.2.2.1,x.2.2.2.2.1]:Zy);((aN (x.1,(2:Int),pU)).bind fun rE=>(some rE))) else (bif (x.2.1==9) then (let kM:Zy:=([x.2.2.1,x.2.2.2.1,x.2.2.2.2.1]:Zy);((aN (x.1,(2:Int),kM)).bind fun jf=>(some jf))) else (bif (x.2.1==10) then ((aN (x.1,(1:Int),([x.2.2.1]:Zy))).bind fun vU=>(bif vU then (let yQ:Zy:=([x.2.2.2.1,x.2.2.2.2.1]:Zy);((aN (x.1,(2:Int),yQ)).bind fun x18=>(some x18))) else (some false))) else (bif (x.2.1==11) then ((aN (x.1,(1:Int),([x.2.2.1]:Zy))).bind fun zh=>(bif zh then ((aQ (x.1,x.2.2.2.1)).bind fun x20=>((aQ (x.1,x.2.2.2.2.1)).bind fun x21=>(bif (x20==x21) then ((bC (x.1,x.2.2.2.1)).bind fun x22=>((lq x22).bind fun x23=>(some x23))) else (some false)))) else (some false))) else (bif (x.2.1==12) then (let x24:Zy:=([x.2.2.1,x.2.2.2.1]:Zy);((aN (x.1,(1:Int),x24)).bind fun x25=>(some x25))) else (bif (x.2.1==13) then ((dZ (x.1,x.2.2.1,x.2.2.2.1,x.2.2.2.2.1)).bind fun x26=>(some x26)) else (bif (x.2.1==14) then ((dZ (x.1,x.2.2.2.2.1,x.2.2.1,x.2.2.2.1)).bind fun x27=>(some x27)) else (bif (x.2.1==15) then ((aN (x.1,(4:Int),([x.2.2.1]:Zy))).bind fun x28=>(some x28)) else (bif (x.2.1==16) then (let x29:Zy:=([(4:Int)]:Zy);((bM (x.1,x.2.2.1,x.2.2.2.1,x29)).bind fun x30=>(some x30))) else (bif (x.2.1==17) then (let x31:Zy:=([(4:Int)]:Zy);((bM (x.1,x.2.2.2.1,x.2.2.1,x31)).bind fun x32=>(some x32))) else (bif (x.2.1==18) then ((aN (x.1,(7:Int),([x.2.2.1]:Zy))).bind fun x33=>(bif x33 then (let x34:Zy:=([x.2.2.2.1]:Zy);((aN (x.1,(2:Int),x34)).bind fun x35=>(some x35))) else (some false))) else (bif (x.2.1==19) then (let x36:Zy:=([(7:Int),(6:Int)]:Zy);((bM (x.1,x.2.2.1,x.2.2.2.1,x36)).bind fun x37=>(bif x37 then (let x38:Zy:=([x.2.2.2.2.1]:Zy);((aN (x.1,(2:Int),x38)).bind fun x39=>(some x39))) else (some false)))) else (bif (x.2.1==20) then (let x40:Zy:=([(7:Int),(6:Int)]:Zy);((bM (x.1,x.2.2.2.2.1,x.2.2.1,x40)).bind fun x41=>(bif x41 then (let x42:Zy:=([x.2.2.2.1]:Zy);((aN (x.1,(2:Int),x42)).bind fun x43=>(some x43))) else (some false)))) else (bif (x.2.1==21) then ((aN (x.1,(2:Int),([x.2.2.1]:Zy))).bind fun x44=>(bif x44 then ((bC (x.1,x.2.2.2.1)).bind fun x45=>(let x46:Zy:=([(3:Int),(7:Int),(6:Int)]:Zy);((ji (x45,x46)).bind fun x47=>(some x47)))) else (some false))) else (bif (x.2.1==25) then ((Nk x.1.1.2.2.1 x.2.2.2.1).bind fun x48=>((bS (x.1,x.2.2.1,x48)).bind fun x49=>(some x49))) else (bif (x.2.1==26) then ((Nk x.1.1.2.2.1 x.2.2.1).bind fun x50=>((cZ (x.1,x50)).bind fun x51=>(some x51))) else (bif (x.2.1==27) then ((Nk x.1.1.2.2.1 x.2.2.1).bind fun x52=>((cZ (x.1,x52)).bind fun x53=>(some x53))) else (bif (x.2.1==28) then ((bC (x.1,x.2.2.1)).bind fun x54=>(let x55:Zy:=([(2:Int),(1:Int),(3:Int)]:Zy);((ji (x54,x55)).bind fun x56=>(some x56)))) else (bif (x.2.1==29) then ((aN (x.1,(1:Int),([x.2.2.1]:Zy))).bind fun x57=>(bif x57 then (let x58:Zy:=([x.2.2.2.1]:Zy);((aN (x.1,(2:Int),x58)).bind fun x59=>(some x59))) else (some false))) else (bif (x.2.1==33) then ((aN (x.1,(1:Int),([x.2.2.1]:Zy))).bind fun x60=>(bif x60 then (let x61:Zy:=([x.2.2.2.1]:Zy);((aN (x.1,(2:Int),x61)).bind fun x62=>(some x62))) else (some false))) else (bif (x.2.1==34) then ((bS (x.1,x.2.2.1,x.1.2.1)).bind fun x63=>(some x63)) else (some true))))))))))))))))))))))))))))))
def gW (x:aD×aA):Option (Bool):=aK x
def QLW:U0:=⟨[Z7,Z3],[.bool],[false],fun x=>gW x⟩
theorem QPy:Hw Tryz.prog 49 QLW:=rz (E:=QTa) (lt:=QW8) (lv:=6) (N:=big) ⟨aM,(YH QUp (YH QE2 (YH QPx (YH QLj (YH QUs (YH QUt (YH QLk (YH QUu (YH QUv Yc))))))))),fun _ _ _=>rfl,mixed,Yt,Y0,Yz⟩ Tryz.func49 fun x _ h=>Eq.trans (b:=gW x) (by kernel_rfl) h
def QLx:LT:={ live:=[(3,[1,4,17,18,19])],keep:=[] }
noncomputable def QIu:Bn:={ tab:=tab,fs:=[(48,QLU),(49,QLW),(121,QP9)],inl:=[] }
noncomputable def QDU (v:Y51):St:={ s:=[(1,(.loc 0 [])),(4,(.row 1)),(17,(.val ⟨ru,v.1⟩)),(18,(.val ⟨Z2,v.2.1⟩)),(19,(.val ⟨Z2,v.2.2.1⟩))],l:=[(0,.var Z7 (.val ⟨Z7,v.2.2.2.1⟩)),(1,.row .bool v.2.2.2.2)],k:=[],b:=4096 }
def gL (aI:Y51->Option (Int×Int)) (v:Y51):Option (Int×Int):=
 (bif (decide (v.2.2.1 < v.2.1)) then ((Nk v.1 v.2.2.1).bind fun x2=>((fG (v.2.2.2.1,x2)).bind fun x3=>(bif (!x3) then (some (v.2.2.1,(16:Int))) else (bif (decide (0<=v.2.2.1)&&decide (v.2.2.1 < (List.length v.2.2.2.2:Int))) then ((nth v.2.2.2.2 (Int.toNat v.2.2.1)).bind fun x4=>(bif (!x4) then (some (v.2.2.1,(6:Int))) else ((gW (v.2.2.2.1,x2)).bind fun x5=>(bif (!x5) then (some (v.2.2.1,(30:Int))) else (let x6:Int:=(IntKind.i64.wrap (v.2.2.1+1));(aI (v.1,v.2.1,x6,v.2.2.2.1,v.2.2.2.2))))))) else none)))) else (some ((0:Int),(0:Int))))
def aj (N:Nat) (aI:Y51->Option (Int×Int)) (v:Y51):Option (Int×Int):=gL aI v
theorem QO8 (N:Nat) (s0:St->Option (Int×Int)) (v):(ZR (QIu) QLx 6 N Tryz.f79 [Z2,Z2] [false,false] [] 0 Xv) s0 (QDU v)=aj N (fun v=>s0 (QDU v)) v:=by kernel_rfl
def eY (aL:Y51->Option (Int×Int)) (x:aD):Option (Int×Int):=
 ((r9 x.2.1.2.2.2.2.1).bind fun x1=>(aL (x.2.1.2.2.2.2.1,(List.length x.2.1.2.2.2.2.1:Int),(0:Int),x,x1.1)))
def pQ (N:Nat) (x:aD):Option (Int×Int):=eY (Gb (aj N) N) x
theorem QXC (N:Nat) (x:aD):rise (QIu) QLx 6 N Tryz.f79 [Z7] [Z2,Z2] [false,false] x=pQ N x:=Eq.trans (b:=eY (fun v=>Ot (ZR (QIu) QLx 6 N Tryz.f79 [Z2,Z2] [false,false] [] 0 Xv) N (QDU v)) x) (by kernel_rfl) (by rw [funext (Tf QDU (QO8 N) N)];rfl)
def bZ (x:aD):Option (Int×Int):=pQ big x
def QPH:U0:=⟨[Z7],[Z2,Z2],[false,false],fun x=>bZ x⟩
theorem QUw:Hw Tryz.prog 79 QPH:=rz (E:=QIu) ⟨aM,(YH QPw (YH QPy (YH QUn Yc))),fun _ _ _=>rfl,mixed,Yt,Y0,Yz⟩ Tryz.func79 fun _ _ h=>(QXC big _).trans h
def QW9:LT:={ live:=[],keep:=[] }
noncomputable def QTb:Bn:={ tab:=tab,fs:=[(90,QCz)],inl:=[] }
def oC (x:aD×aA):Option (Zy):=
 (bif (x.2.1 != 24) then (some ([]:List Int)) else ((aQ (x.1,x.2.2.1)).bind fun x1=>(some ([x1]:Zy))))
def fE (x:aD×aA):Option (Zy):=oC x
def QLX:U0:=⟨[Z7,Z3],[Z5],[true],fun x=>fE x⟩
theorem QPz:Hw Tryz.prog 123 QLX:=rz (E:=QTb) (lt:=QW9) (lv:=6) (N:=big) ⟨aM,(YH QE2 Yc),fun _ _ _=>rfl,mixed,Yt,Y0,Yz⟩ Tryz.func123 fun x _ h=>Eq.trans (b:=fE x) (by kernel_rfl) h
def QLy:LT:={ live:=[(3,[0,5,8,9,10])],keep:=[] }
noncomputable def QIv:Bn:={ tab:=tab,fs:=[],inl:=[] }
noncomputable def QDV (v:Y52):St:={ s:=[(0,(.val ⟨Z5,v.1⟩)),(5,(.val ⟨Z2,v.2.1⟩)),(8,(.val ⟨Z5,v.2.2.1⟩)),(9,(.val ⟨Z2,v.2.2.2.1⟩)),(10,(.val ⟨Z2,v.2.2.2.2⟩))],l:=[],k:=[],b:=4096 }
def vw (aI:Y52->Option (Int)) (v:Y52):Option (Int):=
 (bif (decide (v.2.2.2.2 < v.2.2.2.1)) then ((Nk v.2.2.1 v.2.2.2.2).bind fun x1=>((Nk v.1 x1).bind fun x2=>(let x3:Int:=(IntKind.i64.wrap (v.2.1+x2));(let x4:Int:=(IntKind.i64.wrap (v.2.2.2.2+1));(aI (v.1,x3,v.2.2.1,v.2.2.2.1,x4)))))) else (some v.2.1))
def jG (N:Nat) (aI:Y52->Option (Int)) (v:Y52):Option (Int):=vw aI v
theorem QO9 (N:Nat) (s0:St->Option (Int)) (v):(ZR (QIv) QLy 6 N Tryz.f122 [Z2] [false] [] 0 Xv) s0 (QDV v)=jG N (fun v=>s0 (QDV v)) v:=by kernel_rfl
def u7 (aL:Y52->Option (Int)) (x:Zy×Zy):Option (Int):=
 (aL (x.1,(0:Int),x.2,(List.length x.2:Int),(0:Int)))
def QBj (N:Nat) (x:Zy×Zy):Option (Int):=u7 (Gb (jG N) N) x
theorem QXD (N:Nat) (x:Zy×Zy):rise (QIv) QLy 6 N Tryz.f122 [Z5,Z5] [Z2] [false] x=QBj N x:=Eq.trans (b:=u7 (fun v=>Ot (ZR (QIv) QLy 6 N Tryz.f122 [Z2] [false] [] 0 Xv) N (QDV v)) x) (by kernel_rfl) (by rw [funext (Tf QDV (QO9 N) N)];rfl)
def uU (x:Zy×Zy):Option (Int):=QBj big x
def QPI:U0:=⟨[Z5,Z5],[Z2],[false],fun x=>uU x⟩
theorem QUx:Hw Tryz.prog 122 QPI:=rz (E:=QIv) ⟨aM,Yc,fun _ _ _=>rfl,mixed,Yt,Y0,Yz⟩ Tryz.func122 fun _ _ h=>(QXD big _).trans h
def QLz:LT:={ live:=[(6,[7,31,32,33])],keep:=[] }
noncomputable def QIw:Bn:={ tab:=tab,fs:=[(88,QLT)],inl:=[] }
noncomputable def QDW (v:Y67):St:={ s:=[(7,(.row 0)),(31,(.val ⟨Z9,v.1⟩)),(32,(.val ⟨Z2,v.2.1⟩)),(33,(.val ⟨Z2,v.2.2.1⟩))],l:=[(0,.row Z2 v.2.2.2)],k:=[],b:=4096 }
def mH (aI:Y67->Option (Zy)) (v:Y67):Option (Zy):=
 (bif (decide (v.2.2.1 < v.2.1)) then ((Nk v.1 v.2.2.1).bind fun x5=>(bif (Nat.ble 1 1&&Nat.ble (List.length v.2.2.2+List.length ([x5.2.1]:Zy)) lim) then (let x6:Zy:=(List.append v.2.2.2 ([x5.2.1]:Zy));(let x7:Int:=(IntKind.i64.wrap (v.2.2.1+1));(aI (v.1,v.2.1,x7,x6)))) else none)) else (some v.2.2.2))
def bg (N:Nat) (aI:Y67->Option (Zy)) (v:Y67):Option (Zy):=mH aI v
theorem QOA (N:Nat) (s0:St->Option (Zy)) (v):(ZR (QIw) QLz 6 N Tryz.f124 [Z5] [true] [] 0 Xv) s0 (QDW v)=bg N (fun v=>s0 (QDW v)) v:=by kernel_rfl
def j5 (aL:Y67->Option (Zy)) (x:aD×aA):Option (Zy):=
 ((oF x.2).bind fun x1=>(bif (!x1.2) then (some ([]:List Int)) else ((Nk x.1.1.2.2.1 x1.1).bind fun x2=>((Nk x.1.1.2.2.1 x1.1).bind fun x3=>(bif (decide (0<=x3.2.1)&&decide (x3.2.1<=(List.length x2.2.2.2.1:Int))) then (let x4:aC:=(List.take (Int.toNat x3.2.1) x2.2.2.2.1);(aL (x4,(List.length x4:Int),(0:Int),([]:List Int)))) else none)))))
def wK (N:Nat) (x:aD×aA):Option (Zy):=j5 (Gb (bg N) N) x
theorem QXE (N:Nat) (x:aD×aA):rise (QIw) QLz 6 N Tryz.f124 [Z7,Z3] [Z5] [true] x=wK N x:=Eq.trans (b:=j5 (fun v=>Ot (ZR (QIw) QLz 6 N Tryz.f124 [Z5] [true] [] 0 Xv) N (QDW v)) x) (by kernel_rfl) (by rw [funext (Tf QDW (QOA N) N)];rfl)
def jl (x:aD×aA):Option (Zy):=wK big x
def QLY:U0:=⟨[Z7,Z3],[Z5],[true],fun x=>jl x⟩
theorem QQ0:Hw Tryz.prog 124 QLY:=rz (E:=QIw) ⟨aM,(YH QPv Yc),fun _ _ _=>rfl,mixed,Yt,Y0,Yz⟩ Tryz.func124 fun _ _ h=>(QXE big _).trans h
def QWA:LT:={ live:=[],keep:=[] }
noncomputable def QTc:Bn:={ tab:=tab,fs:=[],inl:=[] }
def wP (x:Int):Option (Bool):=
 (bif (decide (x < (-4096:Int))) then (some true) else (some (decide (x > 4096))))
def pq (x:Int):Option (Bool):=wP x
def QPJ:U0:=⟨[Z2],[.bool],[false],fun x=>pq x⟩
theorem QUy:Hw Tryz.prog 159 QPJ:=rz (E:=QTc) (lt:=QWA) (lv:=6) (N:=big) ⟨aM,Yc,fun _ _ _=>rfl,mixed,Yt,Y0,Yz⟩ Tryz.func159 fun x _ h=>Eq.trans (b:=pq x) (by kernel_rfl) h
def QWB:LT:={ live:=[],keep:=[] }
noncomputable def QTd:Bn:={ tab:=tab,fs:=[],inl:=[] }
def yD (x:Int×Int×Int):Option (Bool):=
 (let x1:Int:=(IntKind.i64.wrap (x.2.2 - 1));(bif (x.2.1==x1) then (some (x.1==0)) else (bif (decide (x.1≥0)) then (some (decide (x.1<=4096))) else (some false))))
def sD (x:Int×Int×Int):Option (Bool):=yD x
def QPK:U0:=⟨[Z2,Z2,Z2],[.bool],[false],fun x=>sD x⟩
theorem QUz:Hw Tryz.prog 161 QPK:=rz (E:=QTd) (lt:=QWB) (lv:=6) (N:=big) ⟨aM,Yc,fun _ _ _=>rfl,mixed,Yt,Y0,Yz⟩ Tryz.func161 fun x _ h=>Eq.trans (b:=sD x) (by kernel_rfl) h
def QBQ:LT:={ live:=[],keep:=[(24,[2,3,4,5,22]),(35,[2,3,4,5,7,8])],rf:=[(36,[2,3,4,5,7,8],[4,5,7])] }
noncomputable def QCy (mk:(α:Type)->Nat->α->List α):Bn:={ tab:=tab,fs:=[(78,QKV),(159,QPJ),(161,QPK),(189,QLf)],inl:=[(131,Tryz.f131,QJR),(160,Tryz.f160,QRZ),(167,Tryz.f167,QJQ),(188,Tryz.f188,QRY)],rep:=mk }
noncomputable def QDX (v:Y25):St:={ s:=[(0,(.yl 0)),(1,(.loc 10 [])),(3,(.row 11)),(4,(.row 12)),(5,(.val ⟨Z2,v.1⟩)),(30,(.val ⟨Z5,v.2.1⟩)),(31,(.val ⟨Z2,v.2.2.1⟩)),(32,(.val ⟨Z2,v.2.2.2.1⟩))],l:=[(0,.lp (.pair .any (.pair .any (.pair (.loc 1 []) (.pair (.loc 2 []) (.pair (.loc 3 []) (.pair (.loc 5 []) (.pair .any (.pair (.loc 6 []) (.pair (.loc 8 []) .unit))))))))) (Zq Tryz.f125 10 QBQ .ready none)),(1,.var ru (.val ⟨ru,v.2.2.2.2.1⟩)),(2,.var Z5 (.val ⟨Z5,v.2.2.2.2.2.1⟩)),(3,.var Z5 (.row 4)),(4,.row Z2 v.2.2.2.2.2.2.1),(5,.var Z2 (.val ⟨Z2,v.2.2.2.2.2.2.2.1⟩)),(6,.var Z5 (.row 7)),(7,.row Z2 v.2.2.2.2.2.2.2.2.1),(8,.var Z16 (.row 9)),(9,.row .bool v.2.2.2.2.2.2.2.2.2.1),(10,.var ru (.val ⟨ru,v.2.2.2.2.2.2.2.2.2.2.1⟩)),(11,.row .bool v.2.2.2.2.2.2.2.2.2.2.2.1),(12,.row Z2 v.2.2.2.2.2.2.2.2.2.2.2.2)],k:=[(0,[(0,(.yl 0))]),(4096,[(4,(.loc 3 [])),(5,(.loc 5 [])),(7,(.loc 6 []))])],b:=33165312 }
noncomputable def QAc (v:Y29):St:={ s:=[(0,(.yl 0)),(1,(.loc 10 [])),(3,(.row 11)),(4,(.row 12))],l:=[(0,.lp (.pair .any (.pair .any (.pair (.loc 1 []) (.pair (.loc 2 []) (.pair (.loc 3 []) (.pair (.loc 5 []) (.pair .any (.pair (.loc 6 []) (.pair (.loc 8 []) .unit))))))))) (Zq Tryz.f125 10 QBQ .ready none)),(1,.var ru (.val ⟨ru,v.1⟩)),(2,.var Z5 (.val ⟨Z5,v.2.1⟩)),(3,.var Z5 (.row 4)),(4,.row Z2 v.2.2.1),(5,.var Z2 (.val ⟨Z2,v.2.2.2.1⟩)),(6,.var Z5 (.row 7)),(7,.row Z2 v.2.2.2.2.1),(8,.var Z16 (.row 9)),(9,.row .bool v.2.2.2.2.2.1),(10,.var ru (.val ⟨ru,v.2.2.2.2.2.2.1⟩)),(11,.row .bool v.2.2.2.2.2.2.2.1),(12,.row Z2 v.2.2.2.2.2.2.2.2)],k:=[(0,[(0,(.yl 0))]),(4096,[(4,(.loc 3 [])),(5,(.loc 5 [])),(7,(.loc 6 []))])],b:=33165312 }
noncomputable def xD (v:Y31):St:={ s:=[(0,(.val ⟨Z5,v.1⟩)),(1,(.Ee 159 .unit)),(7,(.val ⟨Z2,v.2.1⟩)),(8,(.val ⟨Z2,v.2.2.1⟩))],l:=[(0,.var ru (.val ⟨ru,v.2.2.2.1⟩)),(1,.var Z5 (.val ⟨Z5,v.2.2.2.2.1⟩)),(2,.var Z5 (.row 3)),(3,.row Z2 v.2.2.2.2.2.1),(4,.var Z2 (.val ⟨Z2,v.2.2.2.2.2.2.1⟩))],k:=[(16879616,[]),(4096,[(2,(.loc 0 [])),(3,(.loc 1 [])),(4,(.loc 2 [])),(5,(.loc 4 [])),(22,(.val ⟨.bool,v.2.2.2.2.2.2.2⟩))])],b:=69138939904 }
def fZ (mk:(α:Type)->Nat->α->List α) (aI:Y31->Option lZ) (aJ:Y29->Option lZ) (bL:Y25->Option lZ) (v:Y25):Option lZ:=
 (bif (decide (v.2.2.2.1 < v.2.2.1)) then ((Nk v.2.1 v.2.2.2.1).bind fun kM=>(bif (decide (0<=v.1)&&decide (v.1 < (List.length v.2.2.2.2.2.2.2.2.1:Int))) then ((nth v.2.2.2.2.2.2.2.2.1 (Int.toNat v.1)).bind fun jf=>((Nk v.2.2.2.2.2.1 v.1).bind fun vU=>(let yQ:Int:=(IntKind.i64.wrap (jf+vU));((sD (yQ,kM,(List.length v.2.2.2.2.1:Int))).bind fun x18=>(bif (!x18) then (some (([]:List Int),(36:Int))) else (bif (decide (0<=kM)&&decide (kM < (List.length v.2.2.2.2.2.2.2.2.2.1:Int))) then ((nth v.2.2.2.2.2.2.2.2.2.1 (Int.toNat kM)).bind fun zh=>(bif zh then (bif (decide (0<=kM)&&decide (kM < (List.length v.2.2.2.2.2.2.2.2.1:Int))) then ((nth v.2.2.2.2.2.2.2.2.1 (Int.toNat kM)).bind fun x20=>(bif (x20 != yQ) then (some (([]:List Int),(36:Int))) else (bif (decide (0<=kM)&&decide (kM < (List.length v.2.2.2.2.2.2.2.2.2.1:Int))) then (let x21:rJ:=(List.set v.2.2.2.2.2.2.2.2.2.1 (Int.toNat kM) true);(bif (decide (0<=kM)&&decide (kM < (List.length v.2.2.2.2.2.2.2.2.1:Int))) then (let x22:Zy:=(List.set v.2.2.2.2.2.2.2.2.1 (Int.toNat kM) yQ);(bif (decide (0<=kM)&&decide (kM < (List.length v.2.2.2.2.2.2.2.2.2.2.2.1:Int))) then ((nth v.2.2.2.2.2.2.2.2.2.2.2.1 (Int.toNat kM)).bind fun x23=>(bif (!x23) then (bif (decide (0<=kM)&&decide (kM < (List.length v.2.2.2.2.2.2.2.2.2.2.2.1:Int))) then (let x24:rJ:=(List.set v.2.2.2.2.2.2.2.2.2.2.2.1 (Int.toNat kM) true);(bif (Nat.ble 1 1&&Nat.ble (List.length v.2.2.2.2.2.2.2.2.2.2.2.2+List.length ([kM]:Zy)) lim) then (let x25:Zy:=(List.append v.2.2.2.2.2.2.2.2.2.2.2.2 ([kM]:Zy));(let x26:Int:=(IntKind.i64.wrap (v.2.2.2.1+1));(bL (v.1,v.2.1,v.2.2.1,x26,v.2.2.2.2.1,v.2.2.2.2.2.1,v.2.2.2.2.2.2.1,v.2.2.2.2.2.2.2.1,x22,x21,v.2.2.2.2.2.2.2.2.2.2.1,x24,x25)))) else none)) else none) else (let x27:Int:=(IntKind.i64.wrap (v.2.2.2.1+1));(bL (v.1,v.2.1,v.2.2.1,x27,v.2.2.2.2.1,v.2.2.2.2.2.1,v.2.2.2.2.2.2.1,v.2.2.2.2.2.2.2.1,x22,x21,v.2.2.2.2.2.2.2.2.2.2.1,v.2.2.2.2.2.2.2.2.2.2.2.1,v.2.2.2.2.2.2.2.2.2.2.2.2))))) else none)) else none)) else none))) else none) else (bif (decide (0<=kM)&&decide (kM < (List.length v.2.2.2.2.2.2.2.2.2.1:Int))) then (let x28:rJ:=(List.set v.2.2.2.2.2.2.2.2.2.1 (Int.toNat kM) true);(bif (decide (0<=kM)&&decide (kM < (List.length v.2.2.2.2.2.2.2.2.1:Int))) then (let x29:Zy:=(List.set v.2.2.2.2.2.2.2.2.1 (Int.toNat kM) yQ);(bif (decide (0<=kM)&&decide (kM < (List.length v.2.2.2.2.2.2.2.2.2.2.2.1:Int))) then ((nth v.2.2.2.2.2.2.2.2.2.2.2.1 (Int.toNat kM)).bind fun x30=>(bif (!x30) then (bif (decide (0<=kM)&&decide (kM < (List.length v.2.2.2.2.2.2.2.2.2.2.2.1:Int))) then (let x31:rJ:=(List.set v.2.2.2.2.2.2.2.2.2.2.2.1 (Int.toNat kM) true);(bif (Nat.ble 1 1&&Nat.ble (List.length v.2.2.2.2.2.2.2.2.2.2.2.2+List.length ([kM]:Zy)) lim) then (let x32:Zy:=(List.append v.2.2.2.2.2.2.2.2.2.2.2.2 ([kM]:Zy));(let x33:Int:=(IntKind.i64.wrap (v.2.2.2.1+1));(bL (v.1,v.2.1,v.2.2.1,x33,v.2.2.2.2.1,v.2.2.2.2.2.1,v.2.2.2.2.2.2.1,v.2.2.2.2.2.2.2.1,x29,x28,v.2.2.2.2.2.2.2.2.2.2.1,x31,x32)))) else none)) else none) else (let x34:Int:=(IntKind.i64.wrap (v.2.2.2.1+1));(bL (v.1,v.2.1,v.2.2.1,x34,v.2.2.2.2.1,v.2.2.2.2.2.1,v.2.2.2.2.2.2.1,v.2.2.2.2.2.2.2.1,x29,x28,v.2.2.2.2.2.2.2.2.2.2.1,v.2.2.2.2.2.2.2.2.2.2.2.1,v.2.2.2.2.2.2.2.2.2.2.2.2))))) else none)) else none)) else none))) else none)))))) else none)) else (aJ (v.2.2.2.2.1,v.2.2.2.2.2.1,v.2.2.2.2.2.2.1,v.2.2.2.2.2.2.2.1,v.2.2.2.2.2.2.2.2.1,v.2.2.2.2.2.2.2.2.2.1,v.2.2.2.2.2.2.2.2.2.2.1,v.2.2.2.2.2.2.2.2.2.2.2.1,v.2.2.2.2.2.2.2.2.2.2.2.2)))
def qI (mk:(α:Type)->Nat->α->List α) (N:Nat) (aI:Y31->Option lZ) (aJ:Y29->Option lZ) (bL:Y25->Option lZ) (v:Y25):Option lZ:=fZ mk aI aJ bL v
theorem QOD (mk:(α:Type)->Nat->α->List α) (N:Nat) (s0:St->Option lZ) (s1:St->Option lZ) (s2:St->Option lZ) (v):(ZR (QCy mk) QBQ 6 N Tryz.f125 [Z5,Z2] [true,false] [.rng 10 188] 1 (Yx s1 Xv)) s2 (QDX v)=qI mk N (fun v=>s0 (xD v)) (fun v=>s1 (QAc v)) (fun v=>s2 (QDX v)) v:=by kernel_rfl
def qX (mk:(α:Type)->Nat->α->List α) (QAI:Y25->Option lZ) (aI:Y31->Option lZ) (aJ:Y29->Option lZ) (v:Y29):Option lZ:=
 (bif (decide ((List.length v.2.2.2.2.2.2.2.2:Int) > 0)) then (let gH:Int:=(IntKind.i64.wrap ((List.length v.2.2.2.2.2.2.2.2:Int) - 1));(bif (decide (0<=gH)&&decide (gH < (List.length v.2.2.2.2.2.2.2.2:Int))) then ((nth v.2.2.2.2.2.2.2.2 (Int.toNat gH)).bind fun nV=>(let pU:Int:=(IntKind.i64.wrap ((List.length v.2.2.2.2.2.2.2.2:Int) - 1));(bif (decide (0<=pU)&&decide (pU<=((List.length v.2.2.2.2.2.2.2.2):Int))) then ((nC (v.2.2.2.2.2.2.1,nV)).bind fun rE=>(QAI (nV,rE,(List.length rE:Int),(0:Int),v.1,v.2.1,v.2.2.1,v.2.2.2.1,v.2.2.2.2.1,v.2.2.2.2.2.1,v.2.2.2.2.2.2.1,v.2.2.2.2.2.2.2.1,(List.take (Int.toNat pU) v.2.2.2.2.2.2.2.2)))) else none))) else none)) else (some (v.2.2.2.2.1,(0:Int))))
def jH (mk:(α:Type)->Nat->α->List α) (N:Nat) (aI:Y31->Option lZ) (aJ:Y29->Option lZ) (v:Y29):Option lZ:=qX mk (Gb (qI mk N aI aJ) N) aI aJ v
theorem QOC (mk:(α:Type)->Nat->α->List α) (N:Nat) (s0:St->Option lZ) (s1:St->Option lZ) (v):(ZR (QCy mk) QBQ 6 N Tryz.f125 [Z5,Z2] [true,false] [.rng 10 188] 0 Xv) s1 (QAc v)=jH mk N (fun v=>s0 (xD v)) (fun v=>s1 (QAc v)) v:=Eq.trans (b:=qX mk (fun v=>Ot (ZR (QCy mk) QBQ 6 N Tryz.f125 [Z5,Z2] [true,false] [.rng 10 188] 1 (Yx s1 Xv)) N (QDX v)) (fun v=>s0 (xD v)) (fun v=>s1 (QAc v)) v) (by kernel_rfl) (by rw [funext (Tf QDX (QOD mk N s0 s1) N)];rfl)
def jV (mk:(α:Type)->Nat->α->List α) (bH:Y29->Option lZ) (aI:Y31->Option lZ) (v:Y31):Option lZ:=
 (bif (decide (v.2.2.1 < v.2.1)) then ((Nk v.1 v.2.2.1).bind fun x2=>((pq x2).bind fun x3=>(bif x3 then (bif v.2.2.2.2.2.2.2 then (some (([]:List Int),(2:Int))) else (bif (decide (v.2.2.1≥0)) then (some (([]:List Int),(2:Int))) else (bif (decide (0<=(List.length v.2.2.2.1:Int))&&(decide ((List.length v.2.2.2.1:Int)<=(List.length v.2.2.2.1:Int))&&(decide ((List.length v.2.2.2.1:Int)<=68719476736)&&true))) then (let x4:Zy:=(mk Int (Int.toNat (List.length v.2.2.2.1:Int)) (0:Int));(bif (decide (0<=(List.length v.2.2.2.1:Int))&&(decide ((List.length v.2.2.2.1:Int)<=(List.length v.2.2.2.1:Int))&&(decide ((List.length v.2.2.2.1:Int)<=68719476736)&&true))) then (let x5:rJ:=(mk Bool (Int.toNat (List.length v.2.2.2.1:Int)) false);(bif (decide (0<=(0:Int))&&decide ((0:Int) < (List.length x5:Int))) then (let x6:rJ:=(List.set x5 (Int.toNat (0:Int)) true);(bif (decide (0<=(List.length v.2.2.2.1:Int))&&(decide ((List.length v.2.2.2.1:Int)<=(List.length v.2.2.2.1:Int))&&(decide ((List.length v.2.2.2.1:Int)<=68719476736)&&true))) then (let x7:rJ:=(mk Bool (Int.toNat (List.length v.2.2.2.1:Int)) false);(bif (decide (0<=(0:Int))&&decide ((0:Int) < (List.length x7:Int))) then (let x8:rJ:=(List.set x7 (Int.toNat (0:Int)) true);(let x9:Zy:=([(0:Int)]:Zy);(bH (v.2.2.2.1,v.2.2.2.2.1,v.2.2.2.2.2.1,v.2.2.2.2.2.2.1,x4,x6,v.2.2.2.1,x8,x9)))) else none)) else none)) else none)) else none)) else none))) else (let x35:Int:=(IntKind.i64.wrap (v.2.2.1+1));(aI (v.1,v.2.1,x35,v.2.2.2.1,v.2.2.2.2.1,v.2.2.2.2.2.1,v.2.2.2.2.2.2.1,v.2.2.2.2.2.2.2)))))) else (bif v.2.2.2.2.2.2.2 then (some (([]:List Int),(2:Int))) else (bif (decide (0<=(List.length v.2.2.2.1:Int))&&(decide ((List.length v.2.2.2.1:Int)<=(List.length v.2.2.2.1:Int))&&(decide ((List.length v.2.2.2.1:Int)<=68719476736)&&true))) then (let x36:Zy:=(mk Int (Int.toNat (List.length v.2.2.2.1:Int)) (0:Int));(bif (decide (0<=(List.length v.2.2.2.1:Int))&&(decide ((List.length v.2.2.2.1:Int)<=(List.length v.2.2.2.1:Int))&&(decide ((List.length v.2.2.2.1:Int)<=68719476736)&&true))) then (let x37:rJ:=(mk Bool (Int.toNat (List.length v.2.2.2.1:Int)) false);(bif (decide (0<=(0:Int))&&decide ((0:Int) < (List.length x37:Int))) then (let x38:rJ:=(List.set x37 (Int.toNat (0:Int)) true);(bif (decide (0<=(List.length v.2.2.2.1:Int))&&(decide ((List.length v.2.2.2.1:Int)<=(List.length v.2.2.2.1:Int))&&(decide ((List.length v.2.2.2.1:Int)<=68719476736)&&true))) then (let x39:rJ:=(mk Bool (Int.toNat (List.length v.2.2.2.1:Int)) false);(bif (decide (0<=(0:Int))&&decide ((0:Int) < (List.length x39:Int))) then (let x40:rJ:=(List.set x39 (Int.toNat (0:Int)) true);(let x41:Zy:=([(0:Int)]:Zy);(bH (v.2.2.2.1,v.2.2.2.2.1,v.2.2.2.2.2.1,v.2.2.2.2.2.2.1,x36,x38,v.2.2.2.1,x40,x41)))) else none)) else none)) else none)) else none)) else none)))
def l8 (mk:(α:Type)->Nat->α->List α) (N:Nat) (aI:Y31->Option lZ) (v:Y31):Option lZ:=jV mk (Gb (jH mk N aI) N) aI v
theorem QOB (mk:(α:Type)->Nat->α->List α) (N:Nat) (s0:St->Option lZ) (v):(ZR (QCy mk) QBQ 6 N Tryz.f125 [Z5,Z2] [true,false] [.call 4 7 131,.call 1 2 167] 0 Xv) s0 (xD v)=l8 mk N (fun v=>s0 (xD v)) v:=Eq.trans (b:=jV mk (fun v=>Ot (ZR (QCy mk) QBQ 6 N Tryz.f125 [Z5,Z2] [true,false] [.rng 10 188] 0 Xv) N (QAc v)) (fun v=>s0 (xD v)) v) (by kernel_rfl) (by rw [funext (Tf QAc (QOC mk N s0) N)];rfl)
def vB (mk:(α:Type)->Nat->α->List α) (aL:Y31->Option lZ) (x:aF×Zy):Option lZ:=
 ((lu x.1).bind fun x1=>(bif (x1 != 0) then (some (([]:List Int),x1)) else (bif ((List.length x.2:Int) != (List.length x.1:Int)) then (some (([]:List Int),(2:Int))) else (aL (x.2,(List.length x.2:Int),(0:Int),x.1,x.2,([]:List Int),(0:Int),false)))))
def QBk (mk:(α:Type)->Nat->α->List α) (N:Nat) (x:aF×Zy):Option lZ:=vB mk (Gb (l8 mk N) N) x
theorem QXF (mk:(α:Type)->Nat->α->List α) (N:Nat) (x:aF×Zy):rise (QCy mk) QBQ 6 N Tryz.f125 [ru,Z5] [Z5,Z2] [true,false] x=QBk mk N x:=Eq.trans (b:=vB mk (fun v=>Ot (ZR (QCy mk) QBQ 6 N Tryz.f125 [Z5,Z2] [true,false] [.call 4 7 131,.call 1 2 167] 0 Xv) N (xD v)) x) (by kernel_rfl) (by rw [funext (Tf xD (QOB mk N) N)];rfl)
def y8 (x:aF×Zy):Option lZ:=QBk (fun _=>List.replicate) big x
def QPL:U0:=⟨[ru,Z5],[Z5,Z2],[true,false],fun x=>y8 x⟩
theorem QV0:Hw Tryz.prog 125 QPL:=rz (E:=QCy (fun _=>List.replicate)) ⟨aM,(YH QLo (YH QUy (YH QUz (YH QNs Yc)))),fun _ _ _=>rfl,mixed,(YP (YO Tryz.func131 rfl rfl (by kernel_rfl)) (YP (YO Tryz.func160 rfl rfl (by kernel_rfl)) (YP (YO Tryz.func167 rfl rfl (by kernel_rfl)) (YP (YO Tryz.func188 rfl rfl (by kernel_rfl)) Yt)))),Y0,Yz⟩ Tryz.func125 fun _ _ h=>(QXF (fun _=>List.replicate) big _).trans h
def QM0:LT:={ live:=[(4,[0,1,12,13])],keep:=[] }
noncomputable def QIx:Bn:={ tab:=tab,fs:=[],inl:=[] }
noncomputable def QDY (v:Zy×Zy×Int×Int):St:={ s:=[(0,(.val ⟨Z5,v.1⟩)),(1,(.val ⟨Z5,v.2.1⟩)),(12,(.val ⟨Z2,v.2.2.1⟩)),(13,(.val ⟨Z2,v.2.2.2⟩))],l:=[],k:=[],b:=4096 }
def jd (aI:Zy×Zy×Int×Int->Option (Bool)) (v:Zy×Zy×Int×Int):Option (Bool):=
 (bif (decide (v.2.2.2 < v.2.2.1)) then ((Nk v.1 v.2.2.2).bind fun x1=>((Nk v.2.1 v.2.2.2).bind fun x2=>(bif (x1 != x2) then (some false) else (let x3:Int:=(IntKind.i64.wrap (v.2.2.2+1));(aI (v.1,v.2.1,v.2.2.1,x3)))))) else (some true))
def bE (N:Nat) (aI:Zy×Zy×Int×Int->Option (Bool)) (v:Zy×Zy×Int×Int):Option (Bool):=jd aI v
theorem QOE (N:Nat) (s0:St->Option (Bool)) (v):(ZR (QIx) QM0 6 N Tryz.f165 [.bool] [false] [] 0 Xv) s0 (QDY v)=bE N (fun v=>s0 (QDY v)) v:=by kernel_rfl
def gF (aL:Zy×Zy×Int×Int->Option (Bool)) (x:Zy×Zy):Option (Bool):=
 (bif ((List.length x.1:Int) != (List.length x.2:Int)) then (some false) else (aL (x.1,x.2,(List.length x.1:Int),(0:Int))))
def rG (N:Nat) (x:Zy×Zy):Option (Bool):=gF (Gb (bE N) N) x
theorem QXG (N:Nat) (x:Zy×Zy):rise (QIx) QM0 6 N Tryz.f165 [Z5,Z5] [.bool] [false] x=rG N x:=Eq.trans (b:=gF (fun v=>Ot (ZR (QIx) QM0 6 N Tryz.f165 [.bool] [false] [] 0 Xv) N (QDY v)) x) (by kernel_rfl) (by rw [funext (Tf QDY (QOE N) N)];rfl)
def dN (x:Zy×Zy):Option (Bool):=rG big x
def QLZ:U0:=⟨[Z5,Z5],[.bool],[false],fun x=>dN x⟩
theorem QQ1:Hw Tryz.prog 165 QLZ:=rz (E:=QIx) ⟨aM,Yc,fun _ _ _=>rfl,mixed,Yt,Y0,Yz⟩ Tryz.func165 fun _ _ h=>(QXG big _).trans h
def QWC:LT:={ live:=[],keep:=[] }
noncomputable def QTe:Bn:={ tab:=tab,fs:=[(87,QLS),(123,QLX),(124,QLY),(165,QLZ)],inl:=[] }
def pG (x:aD×aA×Zy):Option Y23:=
 ((jl (x.1,x.2.1)).bind fun x1=>(let x2:Int:=(IntKind.i64.wrap ((List.length x.2.2:Int) - (List.length x1:Int)));(bif (decide (x2 < 0)) then (some (([]:List Int),false)) else (bif (decide (0<=x2)&&decide (x2<=(List.length x.2.2:Int))) then (let x3:Zy:=(List.drop (Int.toNat x2) x.2.2);((dN (x3,x1)).bind fun x4=>(bif (!x4) then (some (([]:List Int),false)) else (bif (decide (0<=x2)&&decide (x2<=(List.length x.2.2:Int))) then (let x5:Zy:=(List.take (Int.toNat x2) x.2.2);((fE (x.1,x.2.1)).bind fun x6=>(let x7:Y12:=([x5,x6]:Y12);((cu x7).bind fun x8=>(some (x8,true)))))) else none)))) else none))))
def jk (x:aD×aA×Zy):Option Y23:=pG x
def QPM:U0:=⟨[Z7,Z3,Z5],[Z5,.bool],[false,false],fun x=>jk x⟩
theorem QV1:Hw Tryz.prog 163 QPM:=rz (E:=QTe) (lt:=QWC) (lv:=6) (N:=big) ⟨aM,(YH QPu (YH QPz (YH QQ0 (YH QQ1 Yc)))),fun _ _ _=>rfl,mixed,Yt,Y0,Yz⟩ Tryz.func163 fun x _ h=>Eq.trans (b:=jk x) (by kernel_rfl) h
def QWD:LT:={ live:=[],keep:=[] }
noncomputable def QTf:Bn:={ tab:=tab,fs:=[(78,QKV),(157,QQs),(189,QLf)],inl:=[] }
def QBJ (x:aF×Int):Option lZ:=
 ((lu x.1).bind fun x1=>(bif (x1 != 0) then (some (([]:List Int),x1)) else ((iO (x.2,(List.length x.1:Int))).bind fun x2=>(bif (!x2) then (some (([]:List Int),(2:Int))) else ((nC (x.1,x.2)).bind fun x3=>(some (x3,(0:Int))))))))
def y9 (x:aF×Int):Option lZ:=QBJ x
def QPN:U0:=⟨[ru,Z2],[Z5,Z2],[false,false],fun x=>y9 x⟩
theorem QV2:Hw Tryz.prog 164 QPN:=rz (E:=QTf) (lt:=QWD) (lv:=6) (N:=big) ⟨aM,(YH QLo (YH QVo (YH QNs Yc))),fun _ _ _=>rfl,mixed,Yt,Y0,Yz⟩ Tryz.func164 fun x _ h=>Eq.trans (b:=y9 x) (by kernel_rfl) h
def QM1:LT:={ live:=[(5,[6,13,14,15])],keep:=[] }
@[reducible] def QF5 (me:Y15->Y13->Option Y18):FB:=⟨[.hole Z2,.fix (.loc 0 []),.fix (.loc 1 []),.fix (.loc 3 [])],[.var Z7 (.hole Z7),.var (.slice (.nes Z2)) (.fix (.row 2)),.row (.nes Z2),.var .fn (.fix (.Ee 162 (.pair (.loc 0 []) (.pair (.loc 1 []) (.pair (.loc 3 []) .unit)))))],2,[.bool],me⟩
noncomputable def QIy (me:Y15->Y13->Option Y18):Bn:={ tab:=QGm,fs:=[(163,QPM),(164,QPN),(165,QLZ)],inl:=[],rcs:=[(162,QF5 me)] }
noncomputable def QDZ (v:Y40):St:={ s:=[(2,(.loc 0 [])),(3,(.loc 2 [])),(6,(.val ⟨Z5,v.1⟩)),(43,(.val ⟨Z5,v.2.1⟩)),(44,(.val ⟨Z2,v.2.2.1⟩)),(45,(.val ⟨Z2,v.2.2.2.1⟩))],l:=[(0,.var (.slice (.nes Z2)) (.row 1)),(1,.row (.nes Z2) v.2.2.2.2.1),(2,.var .fn (.Ee 162 (.pair (.loc 3 []) (.pair (.loc 0 []) (.pair (.loc 2 []) .unit))))),(3,.var Z7 (.val ⟨Z7,v.2.2.2.2.2⟩))],k:=[(0,[(0,(.loc 3 [])),(1,(.loc 0 [])),(2,(.row 1)),(3,(.loc 2 []))])],b:=4096 }
def fH (me:Y15->Y13->Option Y18) (y:Y13) (aI:Y40->Option Y18) (v:Y40):Option Y18:=
 (bif (decide (v.2.2.2.1 < v.2.2.1)) then ((Nk v.2.1 v.2.2.2.1).bind fun x5=>(bif (decide (0<=x5)&&decide (x5 < (List.length v.2.2.2.2.1:Int))) then ((nth v.2.2.2.2.1 (Int.toNat x5)).bind fun x6=>(bif (List.isEmpty x6) then (bif (decide (0<=x5)&&decide (x5 < (List.length v.2.2.2.2.1:Int))) then (bif (List.isEmpty v.1) then none else (let x7:Y12:=(List.set v.2.2.2.2.1 (Int.toNat x5) v.1);(bif (Nat.ble 1 (List.length x7)&&true) then ((me (x5,((),((),((),())))) (v.2.2.2.2.2,((),(x7,((),()))))).bind fun x8=>(bif (!x8.2) then (bif (@JW Z7 y.1 v.2.2.2.2.2) then (some (x8.1,false)) else none) else (bif (decide (0<=x5)&&decide (x5 < (List.length x8.1:Int))) then ((nth x8.1 (Int.toNat x5)).bind fun x9=>((dN (x9,v.1)).bind fun gH=>(bif (!gH) then (bif (@JW Z7 y.1 v.2.2.2.2.2) then (some (x8.1,false)) else none) else (let nV:Int:=(IntKind.i64.wrap (v.2.2.2.1+1));(aI (v.1,v.2.1,v.2.2.1,nV,x8.1,v.2.2.2.2.2)))))) else none))) else none))) else none) else (bif (decide (0<=x5)&&decide (x5 < (List.length v.2.2.2.2.1:Int))) then ((nth v.2.2.2.2.1 (Int.toNat x5)).bind fun pU=>((dN (pU,v.1)).bind fun rE=>(bif (!rE) then (bif (@JW Z7 y.1 v.2.2.2.2.2) then (some (v.2.2.2.2.1,false)) else none) else (let kM:Int:=(IntKind.i64.wrap (v.2.2.2.1+1));(aI (v.1,v.2.1,v.2.2.1,kM,v.2.2.2.2.1,v.2.2.2.2.2)))))) else none))) else none)) else (bif (@JW Z7 y.1 v.2.2.2.2.2) then (some (v.2.2.2.2.1,true)) else none))
def aX (me:Y15->Y13->Option Y18) (y:Y13) (N:Nat) (aI:Y40->Option Y18) (v:Y40):Option Y18:=fH me y aI v
theorem QOF (me:Y15->Y13->Option Y18) (y:Y13) (N:Nat) (s0:St->Option Y18) (v):(Y6 (QIy me) QJS 6 N Tryz.f162 (QF5 me) y [] 0 Xv) s0 (QDZ v)=aX me y N (fun v=>s0 (QDZ v)) v:=by kernel_rfl
def dM (me:Y15->Y13->Option Y18) (y:Y13) (aL:Y40->Option Y18) (x:Y15):Option Y18:=
 ((Nk y.1.2.1.2.2.2.2.1 x.1).bind fun x1=>(bif (decide (0<=x.1)&&decide (x.1 < (List.length y.2.2.1:Int))) then ((nth y.2.2.1 (Int.toNat x.1)).bind fun x2=>((jk (y.1,x1,x2)).bind fun x3=>(bif (!x3.2) then (bif (@JW Z7 y.1 y.1) then (some (y.2.2.1,x3.2)) else none) else (bif ((List.length x3.1:Int)==0) then (bif (@JW Z7 y.1 y.1) then (some (y.2.2.1,x3.2)) else none) else ((y9 (y.1.2.1.2.2.2.2.1,x.1)).bind fun x4=>(aL (x3.1,x4.1,(List.length x4.1:Int),(0:Int),y.2.2.1,y.1))))))) else none))
def nX (me:Y15->Y13->Option Y18) (y:Y13) (N:Nat) (x:Y15):Option Y18:=dM me y (Gb (aX me y N) N) x
theorem QXH (me:Y15->Y13->Option Y18) (y:Y13) (N:Nat) (x:Y15):V5 (QIy me) QJS 6 N Tryz.f162 (QF5 me) x y=nX me y N x:=Eq.trans (b:=dM me y (fun v=>Ot (Y6 (QIy me) QJS 6 N Tryz.f162 (QF5 me) y [] 0 Xv) N (QDZ v)) x) (by kernel_rfl) (by rw [funext (Tf QDZ (QOF me y N) N)];rfl)
def aT:Nat->Y15->Y13->Option Y18
 | 0,_,_=>none
 | k+1,x,y=>nX (aT k) y big x
def gJ (x:Y15) (y:Y13):Option Y18:=aT big x y
@[reducible] def QP5:FB:=QF5 gJ
theorem QQ8:∀ k,Km Tryz.prog 162 (QF5 (aT k))
 | 0=>Xy Tryz.func162 rfl (by decide)
 | k+1=>by
  have ih:=QQ8 k
  exact Y1 (E:=QIy (aT k)) ⟨QFX,(YH QV1 (YH QV2 (YH QQ1 Yc))),fun _ _ _=>rfl,mixed,Yt,YT ih Y0,Yz⟩ Tryz.func162 rfl (by decide) (by kernel_rfl) (by kernel_rfl) (by kernel_rfl) (fun x y r h=>⟨QJS,6,big,(QXH (aT k) y big x).trans h⟩)
theorem QV3:Km Tryz.prog 162 QP5:=QQ8 big
noncomputable def QIz (mk:(α:Type)->Nat->α->List α):Bn:={ tab:=QGm,fs:=[],inl:=[],rep:=mk,rcs:=[(162,QP5)] }
noncomputable def QDa (v:Y53):St:={ s:=[(6,(.loc 0 [])),(13,(.val ⟨Z5,v.1⟩)),(14,(.val ⟨Z2,v.2.1⟩)),(15,(.val ⟨Z2,v.2.2.1⟩))],l:=[(0,.var .fn (.Ee 162 (.pair (.loc 1 []) (.pair (.loc 2 []) (.pair (.loc 0 []) .unit))))),(1,.var Z7 (.val ⟨Z7,v.2.2.2.1⟩)),(2,.var (.slice (.nes Z2)) (.row 3)),(3,.row (.nes Z2) v.2.2.2.2)],k:=[],b:=4096 }
def gM (mk:(α:Type)->Nat->α->List α) (aI:Y53->Option (Bool)) (v:Y53):Option (Bool):=
 (bif (decide (v.2.2.1 < v.2.1)) then ((Nk v.1 v.2.2.1).bind fun x2=>(bif (x2==0) then (bif (Nat.ble 1 (List.length v.2.2.2.2)&&true) then ((gJ (v.2.2.1,((),((),((),())))) (v.2.2.2.1,((),(v.2.2.2.2,((),()))))).bind fun x3=>(bif (!x3.2) then (some false) else (let x4:Int:=(IntKind.i64.wrap (v.2.2.1+1));(aI (v.1,v.2.1,x4,v.2.2.2.1,x3.1))))) else none) else (let x5:Int:=(IntKind.i64.wrap (v.2.2.1+1));(aI (v.1,v.2.1,x5,v.2.2.2.1,v.2.2.2.2))))) else (some true))
def ak (mk:(α:Type)->Nat->α->List α) (N:Nat) (aI:Y53->Option (Bool)) (v:Y53):Option (Bool):=gM mk aI v
theorem QOG (mk:(α:Type)->Nat->α->List α) (N:Nat) (s0:St->Option (Bool)) (v):(ZR (QIz mk) QM1 6 N Tryz.f126 [.bool] [false] [] 0 Xv) s0 (QDa v)=ak mk N (fun v=>s0 (QDa v)) v:=by kernel_rfl
def eZ (mk:(α:Type)->Nat->α->List α) (aL:Y53->Option (Bool)) (x:aD×Zy):Option (Bool):=
 (bif (decide (0<=(List.length x.2:Int))&&(decide ((List.length x.2:Int)<=(List.length x.2:Int))&&(decide ((List.length x.2:Int)<=68719476736)&&true))) then (let x1:Y12:=(mk Zy (Int.toNat (List.length x.2:Int)) ([]:Zy));(aL (x.2,(List.length x.2:Int),(0:Int),x.1,x1))) else none)
def pR (mk:(α:Type)->Nat->α->List α) (N:Nat) (x:aD×Zy):Option (Bool):=eZ mk (Gb (ak mk N) N) x
theorem QXI (mk:(α:Type)->Nat->α->List α) (N:Nat) (x:aD×Zy):rise (QIz mk) QM1 6 N Tryz.f126 [Z7,Z5] [.bool] [false] x=pR mk N x:=Eq.trans (b:=eZ mk (fun v=>Ot (ZR (QIz mk) QM1 6 N Tryz.f126 [.bool] [false] [] 0 Xv) N (QDa v)) x) (by kernel_rfl) (by rw [funext (Tf QDa (QOG mk N) N)];rfl)
def jA (x:aD×Zy):Option (Bool):=pR (fun _=>List.replicate) big x
def QPO:U0:=⟨[Z7,Z5],[.bool],[false],fun x=>jA x⟩
theorem QV4:Hw Tryz.prog 126 QPO:=rz (E:=QIz (fun _=>List.replicate)) ⟨QFX,Yc,fun _ _ _=>rfl,mixed,Yt,(YT QV3 Y0),Yz⟩ Tryz.func126 fun _ _ h=>(QXI (fun _=>List.replicate) big _).trans h
def QM2:LT:={ live:=[(3,[1,2,6,18,19,20])],keep:=[] }
noncomputable def QJ0 (mk:(α:Type)->Nat->α->List α):Bn:={ tab:=tab,fs:=[(122,QPI),(123,QLX),(124,QLY),(125,QPL),(126,QPO)],inl:=[],rep:=mk }
noncomputable def QDb (v:Y41):St:={ s:=[(1,(.val ⟨Z5,v.1⟩)),(2,(.loc 0 [])),(6,(.row 1)),(18,(.val ⟨ru,v.2.1⟩)),(19,(.val ⟨Z2,v.2.2.1⟩)),(20,(.val ⟨Z2,v.2.2.2.1⟩))],l:=[(0,.var Z7 (.val ⟨Z7,v.2.2.2.2.1⟩)),(1,.row Z2 v.2.2.2.2.2)],k:=[],b:=4096 }
def lD (mk:(α:Type)->Nat->α->List α) (aI:Y41->Option Y23) (v:Y41):Option Y23:=
 (bif (decide (v.2.2.2.1 < v.2.2.1)) then ((Nk v.2.1 v.2.2.2.1).bind fun x2=>((fE (v.2.2.2.2.1,x2)).bind fun x3=>((uU (v.1,x3)).bind fun x4=>((jl (v.2.2.2.2.1,x2)).bind fun x5=>((uU (v.1,x5)).bind fun x6=>(let x7:Int:=(IntKind.i64.wrap (x4 - x6));(bif (decide (0<=v.2.2.2.1)&&decide (v.2.2.2.1 < (List.length v.2.2.2.2.2:Int))) then (let x8:Zy:=(List.set v.2.2.2.2.2 (Int.toNat v.2.2.2.1) x7);(let x9:Int:=(IntKind.i64.wrap (v.2.2.2.1+1));(aI (v.1,v.2.1,v.2.2.1,x9,v.2.2.2.2.1,x8)))) else none))))))) else ((y8 (v.2.2.2.2.1.2.1.2.2.2.2.1,v.2.2.2.2.2)).bind fun gH=>(bif (gH.2==0) then ((jA (v.2.2.2.2.1,gH.1)).bind fun nV=>(some (gH.1,nV))) else (some (gH.1,false)))))
def bR (mk:(α:Type)->Nat->α->List α) (N:Nat) (aI:Y41->Option Y23) (v:Y41):Option Y23:=lD mk aI v
theorem QOH (mk:(α:Type)->Nat->α->List α) (N:Nat) (s0:St->Option Y23) (v):(ZR (QJ0 mk) QM2 6 N Tryz.f80 [Z5,.bool] [true,false] [] 0 Xv) s0 (QDb v)=bR mk N (fun v=>s0 (QDb v)) v:=by kernel_rfl
def iq (mk:(α:Type)->Nat->α->List α) (aL:Y41->Option Y23) (x:aD×Zy):Option Y23:=
 (bif (decide (0<=(List.length x.1.2.1.2.2.2.2.1:Int))&&(decide ((List.length x.1.2.1.2.2.2.2.1:Int)<=(List.length x.1.2.1.2.2.2.2.1:Int))&&(decide ((List.length x.1.2.1.2.2.2.2.1:Int)<=68719476736)&&true))) then (let x1:Zy:=(mk Int (Int.toNat (List.length x.1.2.1.2.2.2.2.1:Int)) (0:Int));(aL (x.2,x.1.2.1.2.2.2.2.1,(List.length x.1.2.1.2.2.2.2.1:Int),(0:Int),x.1,x1))) else none)
def uS (mk:(α:Type)->Nat->α->List α) (N:Nat) (x:aD×Zy):Option Y23:=iq mk (Gb (bR mk N) N) x
theorem QXJ (mk:(α:Type)->Nat->α->List α) (N:Nat) (x:aD×Zy):rise (QJ0 mk) QM2 6 N Tryz.f80 [Z7,Z5] [Z5,.bool] [true,false] x=uS mk N x:=Eq.trans (b:=iq mk (fun v=>Ot (ZR (QJ0 mk) QM2 6 N Tryz.f80 [Z5,.bool] [true,false] [] 0 Xv) N (QDb v)) x) (by kernel_rfl) (by rw [funext (Tf QDb (QOH mk N) N)];rfl)
def fD (x:aD×Zy):Option Y23:=uS (fun _=>List.replicate) big x
def QPP:U0:=⟨[Z7,Z5],[Z5,.bool],[true,false],fun x=>fD x⟩
theorem QV5:Hw Tryz.prog 80 QPP:=rz (E:=QJ0 (fun _=>List.replicate)) ⟨aM,(YH QUx (YH QPz (YH QQ0 (YH QV0 (YH QV4 Yc))))),fun _ _ _=>rfl,mixed,Yt,Y0,Yz⟩ Tryz.func80 fun _ _ h=>(QXJ (fun _=>List.replicate) big _).trans h
def QM3:LT:={ live:=[],keep:=[(7,[])] }
noncomputable def QJ1:Bn:={ tab:=tab,fs:=[],inl:=[(131,Tryz.f131,QJR),(166,Tryz.f166,QWE),(167,Tryz.f167,QJQ)] }
noncomputable def QDc (v:Y65):St:={ s:=[(0,(.val ⟨Z5,v.1⟩)),(1,(.Ee 166 (.pair (.loc 0 []) .unit))),(7,(.val ⟨Z2,v.2.1⟩)),(8,(.val ⟨Z2,v.2.2.1⟩))],l:=[(0,.var Z2 (.val ⟨Z2,v.2.2.2⟩))],k:=[(16809984,[]),(4096,[])],b:=68853727232 }
def kY (aI:Y65->Option (Bool)) (v:Y65):Option (Bool):=
 (bif (decide (v.2.2.1 < v.2.1)) then ((Nk v.1 v.2.2.1).bind fun x1=>(bif (decide (x1≥v.2.2.2)) then (some (!(decide (v.2.2.1≥0)))) else (let x2:Int:=(IntKind.i64.wrap (v.2.2.1+1));(aI (v.1,v.2.1,x2,v.2.2.2))))) else (some (!(decide ((-1:Int)≥0)))))
def sN (N:Nat) (aI:Y65->Option (Bool)) (v:Y65):Option (Bool):=kY aI v
theorem QOI (N:Nat) (s0:St->Option (Bool)) (v):(ZR (QJ1) QM3 6 N Tryz.f127 [.bool] [false] [.call 1 2 131,.call 1 2 167] 0 Xv) s0 (QDc v)=sN N (fun v=>s0 (QDc v)) v:=by kernel_rfl
def xM (aL:Y65->Option (Bool)) (x:Zy×Int):Option (Bool):=
 (aL (x.1,(List.length x.1:Int),(0:Int),x.2))
def QD8 (N:Nat) (x:Zy×Int):Option (Bool):=xM (Gb (sN N) N) x
theorem QXK (N:Nat) (x:Zy×Int):rise (QJ1) QM3 6 N Tryz.f127 [Z5,Z2] [.bool] [false] x=QD8 N x:=Eq.trans (b:=xM (fun v=>Ot (ZR (QJ1) QM3 6 N Tryz.f127 [.bool] [false] [.call 1 2 131,.call 1 2 167] 0 Xv) N (QDc v)) x) (by kernel_rfl) (by rw [funext (Tf QDc (QOI N) N)];rfl)
def w9 (x:Zy×Int):Option (Bool):=QD8 big x
def QPQ:U0:=⟨[Z5,Z2],[.bool],[false],fun x=>w9 x⟩
theorem QV6:Hw Tryz.prog 127 QPQ:=rz (E:=QJ1) ⟨aM,Yc,fun _ _ _=>rfl,mixed,(YP (YO Tryz.func131 rfl rfl (by kernel_rfl)) (YP (YO Tryz.func166 rfl rfl (by kernel_rfl)) (YP (YO Tryz.func167 rfl rfl (by kernel_rfl)) Yt))),Y0,Yz⟩ Tryz.func127 fun _ _ h=>(QXK big _).trans h
def QM4:LT:={ live:=[(3,[3,6,7,8])],keep:=[] }
noncomputable def QJ2:Bn:={ tab:=tab,fs:=[],inl:=[] }
noncomputable def QDd (v:Int×Zy×Int×Int):St:={ s:=[(3,(.val ⟨yT,v.1⟩)),(6,(.val ⟨Z5,v.2.1⟩)),(7,(.val ⟨Z2,v.2.2.1⟩)),(8,(.val ⟨Z2,v.2.2.2⟩))],l:=[],k:=[],b:=4096 }
def mJ (aI:Int×Zy×Int×Int->Option (Int)) (v:Int×Zy×Int×Int):Option (Int):=
 (bif (decide (v.2.2.2 < v.2.2.1)) then ((Nk v.2.1 v.2.2.2).bind fun x1=>(bif (decide (x1 < 0)) then none else (let x2:Int:=(IntKind.u64.wrap ((1:Int) * 2 ^ (min (Int.toNat x1) 64)));(let x3:Int:=(IntKind.i64.wrap (v.2.2.2+1));(aI ((bits .or .u64 v.1 x2),v.2.1,v.2.2.1,x3)))))) else (some v.1))
def qK (N:Nat) (aI:Int×Zy×Int×Int->Option (Int)) (v:Int×Zy×Int×Int):Option (Int):=mJ aI v
theorem QOJ (N:Nat) (s0:St->Option (Int)) (v):(ZR (QJ2) QM4 6 N Tryz.f128 [yT] [false] [] 0 Xv) s0 (QDd v)=qK N (fun v=>s0 (QDd v)) v:=by kernel_rfl
def vD (aL:Int×Zy×Int×Int->Option (Int)) (x:Zy):Option (Int):=
 (aL ((0:Int),x,(List.length x:Int),(0:Int)))
def QBm (N:Nat) (x:Zy):Option (Int):=vD (Gb (qK N) N) x
theorem QXL (N:Nat) (x:Zy):rise (QJ2) QM4 6 N Tryz.f128 [Z5] [yT] [false] x=QBm N x:=Eq.trans (b:=vD (fun v=>Ot (ZR (QJ2) QM4 6 N Tryz.f128 [yT] [false] [] 0 Xv) N (QDd v)) x) (by kernel_rfl) (by rw [funext (Tf QDd (QOJ N) N)];rfl)
def zA (x:Zy):Option (Int):=QBm big x
def QPR:U0:=⟨[Z5],[yT],[false],fun x=>zA x⟩
theorem QV7:Hw Tryz.prog 128 QPR:=rz (E:=QJ2) ⟨aM,Yc,fun _ _ _=>rfl,mixed,Yt,Y0,Yz⟩ Tryz.func128 fun _ _ h=>(QXL big _).trans h
def QWF:LT:={ live:=[],keep:=[] }
noncomputable def QTg:Bn:={ tab:=tab,fs:=[],inl:=[] }
def rW (x:Int):Option (Int):=
 (bif (decide (x < 0)) then none else (let x1:Int:=(IntKind.u64.wrap ((1:Int) * 2 ^ (min (Int.toNat x) 64)));(let x2:Int:=(IntKind.u64.wrap (x1 - 1));(some x2))))
def jB (x:Int):Option (Int):=rW x
def QPS:U0:=⟨[Z2],[yT],[false],fun x=>jB x⟩
theorem QV8:Hw Tryz.prog 130 QPS:=rz (E:=QTg) (lt:=QWF) (lv:=6) (N:=big) ⟨aM,Yc,fun _ _ _=>rfl,mixed,Yt,Y0,Yz⟩ Tryz.func130 fun x _ h=>Eq.trans (b:=jB x) (by kernel_rfl) h
def QA8:LT:={ live:=[(3,[0,2,3,5,9,20,21,22]),(10,[0,5,9,12])],keep:=[(38,[0,5,9,12])],rf:=[(39,[5,9,12],[0,5,9,12])] }
noncomputable def QAq (mk:(α:Type)->Nat->α->List α):Bn:={ tab:=tab,fs:=[(158,QLR),(189,QLf)],inl:=[(160,Tryz.f160,QRZ),(188,Tryz.f188,QRY)],rep:=mk }
noncomputable def QDe (v:Y26):St:={ s:=[(0,(.yl 0)),(1,(.loc 5 [])),(3,(.row 6)),(4,(.row 7)),(5,(.val ⟨Z2,v.1⟩)),(30,(.val ⟨Z5,v.2.1⟩)),(31,(.val ⟨Z2,v.2.2.1⟩)),(32,(.val ⟨Z2,v.2.2.2.1⟩))],l:=[(0,.lp (.pair .any (.pair .any (.pair .any (.pair .any (.pair .any (.pair (.loc 1 []) (.pair .any (.pair .any (.pair .any (.pair (.loc 2 []) (.pair .any (.pair .any (.pair (.loc 4 []) .unit))))))))))))) (Zq Tryz.f129 13 QA8 .ready none)),(1,.var y5 (.val ⟨y5,v.2.2.2.2.1⟩)),(2,.var y5 (.row 3)),(3,.row yT v.2.2.2.2.2.1),(4,.var .bool (.val ⟨.bool,v.2.2.2.2.2.2.1⟩)),(5,.var ru (.val ⟨ru,v.2.2.2.2.2.2.2.1⟩)),(6,.row .bool v.2.2.2.2.2.2.2.2.1),(7,.row Z2 v.2.2.2.2.2.2.2.2.2.1)],k:=[(0,[(0,(.yl 0))]),(4096,[(0,(.val ⟨ru,v.2.2.2.2.2.2.2.2.2.2⟩)),(5,(.loc 1 [])),(9,(.loc 2 [])),(12,(.loc 4 []))])],b:=33165312 }
noncomputable def QAd (v:Y39):St:={ s:=[(0,(.yl 0)),(1,(.loc 5 [])),(3,(.row 6)),(4,(.row 7))],l:=[(0,.lp (.pair .any (.pair .any (.pair .any (.pair .any (.pair .any (.pair (.loc 1 []) (.pair .any (.pair .any (.pair .any (.pair (.loc 2 []) (.pair .any (.pair .any (.pair (.loc 4 []) .unit))))))))))))) (Zq Tryz.f129 13 QA8 .ready none)),(1,.var y5 (.val ⟨y5,v.1⟩)),(2,.var y5 (.row 3)),(3,.row yT v.2.1),(4,.var .bool (.val ⟨.bool,v.2.2.1⟩)),(5,.var ru (.val ⟨ru,v.2.2.2.1⟩)),(6,.row .bool v.2.2.2.2.1),(7,.row Z2 v.2.2.2.2.2.1)],k:=[(0,[(0,(.yl 0))]),(4096,[(0,(.val ⟨ru,v.2.2.2.2.2.2⟩)),(5,(.loc 1 [])),(9,(.loc 2 [])),(12,(.loc 4 []))])],b:=33165312 }
noncomputable def xE (v:Y69):St:={ s:=[(0,(.val ⟨ru,v.1⟩)),(5,(.loc 0 [])),(9,(.loc 1 [])),(12,(.loc 3 []))],l:=[(0,.var y5 (.val ⟨y5,v.2.1⟩)),(1,.var y5 (.row 2)),(2,.row yT v.2.2.1),(3,.var .bool (.val ⟨.bool,v.2.2.2⟩))],k:=[],b:=4096 }
noncomputable def sK (v:Y32):St:={ s:=[(0,(.val ⟨ru,v.1⟩)),(2,(.val ⟨yT,v.2.1⟩)),(3,(.val ⟨yT,v.2.2.1⟩)),(5,(.loc 0 [])),(9,(.loc 1 [])),(20,(.row 3)),(21,(.val ⟨Z2,v.2.2.2.1⟩)),(22,(.val ⟨Z2,v.2.2.2.2.1⟩))],l:=[(0,.var y5 (.val ⟨y5,v.2.2.2.2.2.1⟩)),(1,.var y5 (.row 2)),(2,.row yT v.2.2.2.2.2.2.1),(3,.row .bool v.2.2.2.2.2.2.2)],k:=[],b:=4096 }
def jW (mk:(α:Type)->Nat->α->List α) (aI:Y32->Option (Zy)) (aJ:Y69->Option (Zy)) (bL:Y39->Option (Zy)) (xU:Y26->Option (Zy)) (v:Y26):Option (Zy):=
 (bif (decide (v.2.2.2.1 < v.2.2.1)) then ((Nk v.2.1 v.2.2.2.1).bind fun jf=>(bif (decide (0<=v.1)&&decide (v.1 < (List.length v.2.2.2.2.2.1:Int))) then ((nth v.2.2.2.2.2.1 (Int.toNat v.1)).bind fun vU=>((Nk v.2.2.2.2.1 v.1).bind fun yQ=>(bif v.2.2.2.2.2.2.1 then (bif (decide (0<=jf)&&decide (jf < (List.length v.2.2.2.2.2.1:Int))) then ((nth v.2.2.2.2.2.1 (Int.toNat jf)).bind fun x18=>(let zh:Int:=(bits .and .u64 x18 (bits .or .u64 vU yQ));(bif (decide (0<=jf)&&decide (jf < (List.length v.2.2.2.2.2.1:Int))) then (let x20:Zy:=(List.set v.2.2.2.2.2.1 (Int.toNat jf) zh);(bif (decide (0<=jf)&&decide (jf < (List.length v.2.2.2.2.2.2.2.2.1:Int))) then ((nth v.2.2.2.2.2.2.2.2.1 (Int.toNat jf)).bind fun x21=>(bif (!x21) then (bif (decide (0<=jf)&&decide (jf < (List.length v.2.2.2.2.2.2.2.2.1:Int))) then (let x22:rJ:=(List.set v.2.2.2.2.2.2.2.2.1 (Int.toNat jf) true);(bif (Nat.ble 1 1&&Nat.ble (List.length v.2.2.2.2.2.2.2.2.2.1+List.length ([jf]:Zy)) lim) then (let x23:Zy:=(List.append v.2.2.2.2.2.2.2.2.2.1 ([jf]:Zy));(let x24:Int:=(IntKind.i64.wrap (v.2.2.2.1+1));(xU (v.1,v.2.1,v.2.2.1,x24,v.2.2.2.2.1,x20,true,v.2.2.2.2.2.2.2.1,x22,x23,v.2.2.2.2.2.2.2.2.2.2)))) else none)) else none) else (let x25:Int:=(IntKind.i64.wrap (v.2.2.2.1+1));(xU (v.1,v.2.1,v.2.2.1,x25,v.2.2.2.2.1,x20,true,v.2.2.2.2.2.2.2.1,v.2.2.2.2.2.2.2.2.1,v.2.2.2.2.2.2.2.2.2.1,v.2.2.2.2.2.2.2.2.2.2))))) else none)) else none))) else none) else (bif (decide (0<=jf)&&decide (jf < (List.length v.2.2.2.2.2.1:Int))) then ((nth v.2.2.2.2.2.1 (Int.toNat jf)).bind fun x26=>(let x27:Int:=(bits .andNot .u64 x26 (bits .or .u64 vU yQ));(bif (decide (0<=jf)&&decide (jf < (List.length v.2.2.2.2.2.1:Int))) then ((nth v.2.2.2.2.2.1 (Int.toNat jf)).bind fun x28=>(let x29:Int:=(bits .and .u64 x28 (bits .or .u64 vU yQ));(bif (decide (0<=jf)&&decide (jf < (List.length v.2.2.2.2.2.1:Int))) then (let x30:Zy:=(List.set v.2.2.2.2.2.1 (Int.toNat jf) x29);(bif (decide (0<=jf)&&decide (jf < (List.length v.2.2.2.2.2.2.2.2.1:Int))) then ((nth v.2.2.2.2.2.2.2.2.1 (Int.toNat jf)).bind fun x31=>(bif (!x31) then (bif (decide (0<=jf)&&decide (jf < (List.length v.2.2.2.2.2.2.2.2.1:Int))) then (let x32:rJ:=(List.set v.2.2.2.2.2.2.2.2.1 (Int.toNat jf) true);(bif (Nat.ble 1 1&&Nat.ble (List.length v.2.2.2.2.2.2.2.2.2.1+List.length ([jf]:Zy)) lim) then (let x33:Zy:=(List.append v.2.2.2.2.2.2.2.2.2.1 ([jf]:Zy));(let x34:Int:=(IntKind.i64.wrap (v.2.2.2.1+1));(xU (v.1,v.2.1,v.2.2.1,x34,v.2.2.2.2.1,x30,(x27 != 0),v.2.2.2.2.2.2.2.1,x32,x33,v.2.2.2.2.2.2.2.2.2.2)))) else none)) else none) else (let x35:Int:=(IntKind.i64.wrap (v.2.2.2.1+1));(xU (v.1,v.2.1,v.2.2.1,x35,v.2.2.2.2.1,x30,(x27 != 0),v.2.2.2.2.2.2.2.1,v.2.2.2.2.2.2.2.2.1,v.2.2.2.2.2.2.2.2.2.1,v.2.2.2.2.2.2.2.2.2.2))))) else none)) else none))) else none))) else none)))) else none)) else (bL (v.2.2.2.2.1,v.2.2.2.2.2.1,v.2.2.2.2.2.2.1,v.2.2.2.2.2.2.2.1,v.2.2.2.2.2.2.2.2.1,v.2.2.2.2.2.2.2.2.2.1,v.2.2.2.2.2.2.2.2.2.2)))
def jI (mk:(α:Type)->Nat->α->List α) (N:Nat) (aI:Y32->Option (Zy)) (aJ:Y69->Option (Zy)) (bL:Y39->Option (Zy)) (xU:Y26->Option (Zy)) (v:Y26):Option (Zy):=jW mk aI aJ bL xU v
theorem QON (mk:(α:Type)->Nat->α->List α) (N:Nat) (s0:St->Option (Zy)) (s1:St->Option (Zy)) (s2:St->Option (Zy)) (s3:St->Option (Zy)) (v):(ZR (QAq mk) QA8 6 N Tryz.f129 [y5] [true] [.rng 13 188] 1 (Yx s1 (Yx s2 Xv))) s3 (QDe v)=jI mk N (fun v=>s0 (sK v)) (fun v=>s1 (xE v)) (fun v=>s2 (QAd v)) (fun v=>s3 (QDe v)) v:=by kernel_rfl
def nP (mk:(α:Type)->Nat->α->List α) (QHX:Y26->Option (Zy)) (aI:Y32->Option (Zy)) (aJ:Y69->Option (Zy)) (bL:Y39->Option (Zy)) (v:Y39):Option (Zy):=
 (bif (decide ((List.length v.2.2.2.2.2.1:Int) > 0)) then (let nV:Int:=(IntKind.i64.wrap ((List.length v.2.2.2.2.2.1:Int) - 1));(bif (decide (0<=nV)&&decide (nV < (List.length v.2.2.2.2.2.1:Int))) then ((nth v.2.2.2.2.2.1 (Int.toNat nV)).bind fun pU=>(let rE:Int:=(IntKind.i64.wrap ((List.length v.2.2.2.2.2.1:Int) - 1));(bif (decide (0<=rE)&&decide (rE<=((List.length v.2.2.2.2.2.1):Int))) then ((nC (v.2.2.2.1,pU)).bind fun kM=>(QHX (pU,kM,(List.length kM:Int),(0:Int),v.1,v.2.1,v.2.2.1,v.2.2.2.1,v.2.2.2.2.1,(List.take (Int.toNat rE) v.2.2.2.2.2.1),v.2.2.2.2.2.2))) else none))) else none)) else (aJ (v.2.2.2.2.2.2,v.1,v.2.1,v.2.2.1)))
def nK (mk:(α:Type)->Nat->α->List α) (N:Nat) (aI:Y32->Option (Zy)) (aJ:Y69->Option (Zy)) (bL:Y39->Option (Zy)) (v:Y39):Option (Zy):=nP mk (Gb (jI mk N aI aJ bL) N) aI aJ bL v
theorem QOM (mk:(α:Type)->Nat->α->List α) (N:Nat) (s0:St->Option (Zy)) (s1:St->Option (Zy)) (s2:St->Option (Zy)) (v):(ZR (QAq mk) QA8 6 N Tryz.f129 [y5] [true] [.rng 13 188] 0 (Yx s1 Xv)) s2 (QAd v)=nK mk N (fun v=>s0 (sK v)) (fun v=>s1 (xE v)) (fun v=>s2 (QAd v)) v:=Eq.trans (b:=nP mk (fun v=>Ot (ZR (QAq mk) QA8 6 N Tryz.f129 [y5] [true] [.rng 13 188] 1 (Yx s1 (Yx s2 Xv))) N (QDe v)) (fun v=>s0 (sK v)) (fun v=>s1 (xE v)) (fun v=>s2 (QAd v)) v) (by kernel_rfl) (by rw [funext (Tf QDe (QON mk N s0 s1 s2) N)];rfl)
def nO (mk:(α:Type)->Nat->α->List α) (QAI:Y39->Option (Zy)) (aI:Y32->Option (Zy)) (aJ:Y69->Option (Zy)) (v:Y69):Option (Zy):=
 (bif v.2.2.2 then (bif (decide (0<=(List.length v.1:Int))&&(decide ((List.length v.1:Int)<=(List.length v.1:Int))&&(decide ((List.length v.1:Int)<=68719476736)&&true))) then (let x8:rJ:=(mk Bool (Int.toNat (List.length v.1:Int)) false);(bif (decide (0<=(0:Int))&&decide ((0:Int) < (List.length x8:Int))) then (let x9:rJ:=(List.set x8 (Int.toNat (0:Int)) true);(let gH:Zy:=([(0:Int)]:Zy);(QAI (v.2.1,v.2.2.1,false,v.1,x9,gH,v.1)))) else none)) else none) else (some v.2.2.1))
def nJ (mk:(α:Type)->Nat->α->List α) (N:Nat) (aI:Y32->Option (Zy)) (aJ:Y69->Option (Zy)) (v:Y69):Option (Zy):=nO mk (Gb (nK mk N aI aJ) N) aI aJ v
theorem QOL (mk:(α:Type)->Nat->α->List α) (N:Nat) (s0:St->Option (Zy)) (s1:St->Option (Zy)) (v):(ZR (QAq mk) QA8 6 N Tryz.f129 [y5] [true] [] 1 Xv) s1 (xE v)=nJ mk N (fun v=>s0 (sK v)) (fun v=>s1 (xE v)) v:=Eq.trans (b:=nO mk (fun v=>Ot (ZR (QAq mk) QA8 6 N Tryz.f129 [y5] [true] [.rng 13 188] 0 (Yx s1 Xv)) N (QAd v)) (fun v=>s0 (sK v)) (fun v=>s1 (xE v)) v) (by kernel_rfl) (by rw [funext (Tf QAd (QOM mk N s0 s1) N)];rfl)
def fP (mk:(α:Type)->Nat->α->List α) (bH:Y69->Option (Zy)) (aI:Y32->Option (Zy)) (v:Y32):Option (Zy):=
 (bif (decide (v.2.2.2.2.1 < v.2.2.2.1)) then (bif (decide (0<=v.2.2.2.2.1)&&decide (v.2.2.2.2.1 < (List.length v.2.2.2.2.2.2.2:Int))) then ((nth v.2.2.2.2.2.2.2 (Int.toNat v.2.2.2.2.1)).bind fun x3=>(bif x3 then (bif (decide (0<=v.2.2.2.2.1)&&decide (v.2.2.2.2.1 < (List.length v.2.2.2.2.2.2.1:Int))) then (let x4:Zy:=(List.set v.2.2.2.2.2.2.1 (Int.toNat v.2.2.2.2.1) v.2.2.1);(let x5:Int:=(IntKind.i64.wrap (v.2.2.2.2.1+1));(aI (v.1,v.2.1,v.2.2.1,v.2.2.2.1,x5,v.2.2.2.2.2.1,x4,v.2.2.2.2.2.2.2)))) else none) else (let x6:Int:=(IntKind.i64.wrap (v.2.2.2.2.1+1));(aI (v.1,v.2.1,v.2.2.1,v.2.2.2.1,x6,v.2.2.2.2.2.1,v.2.2.2.2.2.2.1,v.2.2.2.2.2.2.2))))) else none) else (bif (decide (0<=(0:Int))&&decide ((0:Int) < (List.length v.2.2.2.2.2.2.1:Int))) then (let x7:Zy:=(List.set v.2.2.2.2.2.2.1 (Int.toNat (0:Int)) v.2.1);(bH (v.1,v.2.2.2.2.2.1,x7,true))) else none))
def nI (mk:(α:Type)->Nat->α->List α) (N:Nat) (aI:Y32->Option (Zy)) (v:Y32):Option (Zy):=fP mk (Gb (nJ mk N aI) N) aI v
theorem QOK (mk:(α:Type)->Nat->α->List α) (N:Nat) (s0:St->Option (Zy)) (v):(ZR (QAq mk) QA8 6 N Tryz.f129 [y5] [true] [] 0 Xv) s0 (sK v)=nI mk N (fun v=>s0 (sK v)) v:=Eq.trans (b:=fP mk (fun v=>Ot (ZR (QAq mk) QA8 6 N Tryz.f129 [y5] [true] [] 1 Xv) N (xE v)) (fun v=>s0 (sK v)) v) (by kernel_rfl) (by rw [funext (Tf xE (QOL mk N s0) N)];rfl)
def qz (mk:(α:Type)->Nat->α->List α) (aL:Y32->Option (Zy)) (x:aF×Zy×Int×Int):Option (Zy):=
 (bif (decide (0<=(List.length x.1:Int))&&(decide ((List.length x.1:Int)<=(List.length x.1:Int))&&(decide ((List.length x.1:Int)<=68719476736)&&true))) then (let x1:Zy:=(mk Int (Int.toNat (List.length x.1:Int)) (0:Int));((QAZ x.1).bind fun x2=>(aL (x.1,x.2.2.1,x.2.2.2,(List.length x2:Int),(0:Int),x.2.1,x1,x2)))) else none)
def QAJ (mk:(α:Type)->Nat->α->List α) (N:Nat) (x:aF×Zy×Int×Int):Option (Zy):=qz mk (Gb (nI mk N) N) x
theorem QXM (mk:(α:Type)->Nat->α->List α) (N:Nat) (x:aF×Zy×Int×Int):rise (QAq mk) QA8 6 N Tryz.f129 [ru,y5,yT,yT] [y5] [true] x=QAJ mk N x:=Eq.trans (b:=qz mk (fun v=>Ot (ZR (QAq mk) QA8 6 N Tryz.f129 [y5] [true] [] 0 Xv) N (sK v)) x) (by kernel_rfl) (by rw [funext (Tf sK (QOK mk N) N)];rfl)
def vY (x:aF×Zy×Int×Int):Option (Zy):=QAJ (fun _=>List.replicate) big x
def QPT:U0:=⟨[ru,y5,yT,yT],[y5],[true],fun x=>vY x⟩
theorem QV9:Hw Tryz.prog 129 QPT:=rz (E:=QAq (fun _=>List.replicate)) ⟨aM,(YH QPt (YH QNs Yc)),fun _ _ _=>rfl,mixed,(YP (YO Tryz.func160 rfl rfl (by kernel_rfl)) (YP (YO Tryz.func188 rfl rfl (by kernel_rfl)) Yt)),Y0,Yz⟩ Tryz.func129 fun _ _ h=>(QXM (fun _=>List.replicate) big _).trans h
def QM5:LT:={ live:=[(8,[0,1,2,9,35,36,37])],keep:=[] }
noncomputable def QJ3 (mk:(α:Type)->Nat->α->List α):Bn:={ tab:=tab,fs:=[(50,QGz),(78,QKV),(127,QPQ),(128,QPR),(129,QPT),(130,QPS)],inl:=[],rep:=mk }
noncomputable def QDf (v:Y37):St:={ s:=[(0,(.val ⟨ru,v.1⟩)),(1,(.val ⟨Z2,v.2.1⟩)),(2,(.val ⟨Z2,v.2.2.1⟩)),(9,(.row 0)),(35,(.val ⟨ru,v.2.2.2.1⟩)),(36,(.val ⟨Z2,v.2.2.2.2.1⟩)),(37,(.val ⟨Z2,v.2.2.2.2.2.1⟩))],l:=[(0,.row yT v.2.2.2.2.2.2)],k:=[],b:=4096 }
def oM (mk:(α:Type)->Nat->α->List α) (aI:Y37->Option lZ) (v:Y37):Option lZ:=
 (bif (decide (v.2.2.2.2.2.1 < v.2.2.2.2.1)) then ((Nk v.2.2.2.1 v.2.2.2.2.2.1).bind fun x3=>((o9 x3).bind fun x4=>((w9 (x4.1,v.2.2.1)).bind fun x5=>(bif (!x5) then (some (([]:List Int),(16:Int))) else ((w9 (x4.2.1,v.2.2.1)).bind fun x6=>(bif (!x6) then (some (([]:List Int),(16:Int))) else ((zA x4.2.1).bind fun x7=>(bif (decide (0<=v.2.2.2.2.2.1)&&decide (v.2.2.2.2.2.1 < (List.length v.2.2.2.2.2.2:Int))) then (let x8:Zy:=(List.set v.2.2.2.2.2.2 (Int.toNat v.2.2.2.2.2.1) x7);(let x9:Int:=(IntKind.i64.wrap (v.2.2.2.2.2.1+1));(aI (v.1,v.2.1,v.2.2.1,v.2.2.2.1,v.2.2.2.2.1,x9,x8)))) else none)))))))) else ((jB v.2.1).bind fun gH=>((jB v.2.2.1).bind fun nV=>((vY (v.1,v.2.2.2.2.2.2,gH,nV)).bind fun pU=>(let rE:Int:=(IntKind.i64.wrap ((List.length v.1:Int) - 1));(bif (decide (0<=rE)&&decide (rE < (List.length pU:Int))) then (let kM:Zy:=(List.set pU (Int.toNat rE) (0:Int));(some (kM,(0:Int)))) else none))))))
def oL (mk:(α:Type)->Nat->α->List α) (N:Nat) (aI:Y37->Option lZ) (v:Y37):Option lZ:=oM mk aI v
theorem QOO (mk:(α:Type)->Nat->α->List α) (N:Nat) (s0:St->Option lZ) (v):(ZR (QJ3 mk) QM5 6 N Tryz.f81 [y5,Z2] [true,false] [] 0 Xv) s0 (QDf v)=oL mk N (fun v=>s0 (QDf v)) v:=by kernel_rfl
def xL (mk:(α:Type)->Nat->α->List α) (aL:Y37->Option lZ) (x:Y77):Option lZ:=
 ((lu x.1).bind fun x1=>(bif (x1 != 0) then (some (([]:List Int),x1)) else (bif (decide (x.2.1 < 0)) then (some (([]:List Int),(2:Int))) else (bif (decide (x.2.1 > x.2.2)) then (some (([]:List Int),(2:Int))) else (bif (decide (x.2.2 > 16)) then (some (([]:List Int),(2:Int))) else (bif (decide (0<=(List.length x.1:Int))&&(decide ((List.length x.1:Int)<=(List.length x.1:Int))&&(decide ((List.length x.1:Int)<=68719476736)&&true))) then (let x2:Zy:=(mk Int (Int.toNat (List.length x.1:Int)) (0:Int));(aL (x.1,x.2.1,x.2.2,x.1,(List.length x.1:Int),(0:Int),x2))) else none))))))
def QD7 (mk:(α:Type)->Nat->α->List α) (N:Nat) (x:Y77):Option lZ:=xL mk (Gb (oL mk N) N) x
theorem QXN (mk:(α:Type)->Nat->α->List α) (N:Nat) (x:Y77):rise (QJ3 mk) QM5 6 N Tryz.f81 [ru,Z2,Z2] [y5,Z2] [true,false] x=QD7 mk N x:=Eq.trans (b:=xL mk (fun v=>Ot (ZR (QJ3 mk) QM5 6 N Tryz.f81 [y5,Z2] [true,false] [] 0 Xv) N (QDf v)) x) (by kernel_rfl) (by rw [funext (Tf QDf (QOO mk N) N)];rfl)
def pO (x:Y77):Option lZ:=QD7 (fun _=>List.replicate) big x
def QPU:U0:=⟨[ru,Z2,Z2],[y5,Z2],[true,false],fun x=>pO x⟩
theorem QVA:Hw Tryz.prog 81 QPU:=rz (E:=QJ3 (fun _=>List.replicate)) ⟨aM,(YH QJO (YH QLo (YH QV6 (YH QV7 (YH QV9 (YH QV8 Yc)))))),fun _ _ _=>rfl,mixed,Yt,Y0,Yz⟩ Tryz.func81 fun _ _ h=>(QXN (fun _=>List.replicate) big _).trans h
def QH2:LT:={ live:=[(2,[3,10,11,12])],keep:=[(25,[3,5,10,11,12])] }
noncomputable def QF4:Bn:={ tab:=tab,fs:=[(50,QGz)],inl:=[(131,Tryz.f131,QJR),(132,Tryz.f132,QWG),(167,Tryz.f167,QJQ)] }
noncomputable def QJj (v:Y33):St:={ s:=[(0,(.row 0)),(1,(.Ee 132 (.pair (.loc 1 []) (.pair (.loc 2 []) .unit)))),(7,(.val ⟨Z2,v.1⟩)),(8,(.val ⟨Z2,v.2.1⟩))],l:=[(0,.row Z2 v.2.2.1),(1,.var y5 (.val ⟨y5,v.2.2.2.1⟩)),(2,.var Z2 (.val ⟨Z2,v.2.2.2.2.1⟩))],k:=[(16883712,[]),(4096,[(3,(.loc 1 [])),(5,(.loc 2 [])),(10,(.val ⟨ru,v.2.2.2.2.2.1⟩)),(11,(.val ⟨Z2,v.2.2.2.2.2.2.1⟩)),(12,(.val ⟨Z2,v.2.2.2.2.2.2.2⟩))])],b:=69155717120 }
noncomputable def QAe (v:Y70):St:={ s:=[(3,(.loc 0 [])),(10,(.val ⟨ru,v.1⟩)),(11,(.val ⟨Z2,v.2.1⟩)),(12,(.val ⟨Z2,v.2.2.1⟩))],l:=[(0,.var y5 (.val ⟨y5,v.2.2.2⟩))],k:=[],b:=4096 }
def ku (aI:Y70->Option (Int)) (aJ:Y33->Option (Int)) (v:Y33):Option (Int):=
 (bif (decide (v.2.1 < v.1)) then (bif (decide (0<=v.2.1)&&decide (v.2.1 < (List.length v.2.2.1:Int))) then ((nth v.2.2.1 (Int.toNat v.2.1)).bind fun x3=>((Nk v.2.2.2.1 v.2.2.2.2.1).bind fun x4=>(bif (decide (x3 < 0)) then none else (let x5:Int:=(IntKind.u64.wrap ((1:Int) * 2 ^ (min (Int.toNat x3) 64)));(bif ((bits .and .u64 x4 x5)==0) then (bif (decide (v.2.1≥0)) then (some v.2.2.2.2.1) else (let x6:Int:=(IntKind.i64.wrap (v.2.2.2.2.2.2.2+1));(aI (v.2.2.2.2.2.1,v.2.2.2.2.2.2.1,x6,v.2.2.2.1)))) else (let x7:Int:=(IntKind.i64.wrap (v.2.1+1));(aJ (v.1,x7,v.2.2.1,v.2.2.2.1,v.2.2.2.2.1,v.2.2.2.2.2.1,v.2.2.2.2.2.2.1,v.2.2.2.2.2.2.2)))))))) else none) else (let x8:Int:=(IntKind.i64.wrap (v.2.2.2.2.2.2.2+1));(aI (v.2.2.2.2.2.1,v.2.2.2.2.2.2.1,x8,v.2.2.2.1))))
def dO (N:Nat) (aI:Y70->Option (Int)) (aJ:Y33->Option (Int)) (v:Y33):Option (Int):=ku aI aJ v
theorem QWm (N:Nat) (s0:St->Option (Int)) (s1:St->Option (Int)) (v):(ZR (QF4) QH2 6 N Tryz.f82 [Z2] [false] [.call 5 2 131,.call 1 2 167] 0 (Yx s0 Xv)) s1 (QJj v)=dO N (fun v=>s0 (QAe v)) (fun v=>s1 (QJj v)) v:=by kernel_rfl
def gD (bH:Y33->Option (Int)) (aI:Y70->Option (Int)) (v:Y70):Option (Int):=
 (bif (decide (v.2.2.1 < v.2.1)) then ((Nk v.1 v.2.2.1).bind fun x1=>((o9 x1).bind fun x2=>(bH ((List.length x2.1:Int),(0:Int),x2.1,v.2.2.2,v.2.2.1,v.1,v.2.1,v.2.2.1)))) else (some (-1:Int)))
def bD (N:Nat) (aI:Y70->Option (Int)) (v:Y70):Option (Int):=gD (Gb (dO N aI) N) aI v
theorem QOP (N:Nat) (s0:St->Option (Int)) (v):(ZR (QF4) QH2 6 N Tryz.f82 [Z2] [false] [] 0 Xv) s0 (QAe v)=bD N (fun v=>s0 (QAe v)) v:=Eq.trans (b:=gD (fun v=>Ot (ZR (QF4) QH2 6 N Tryz.f82 [Z2] [false] [.call 5 2 131,.call 1 2 167] 0 (Yx s0 Xv)) N (QJj v)) (fun v=>s0 (QAe v)) v) (by kernel_rfl) (by rw [funext (Tf QJj (QWm N s0) N)];rfl)
def iZ (aL:Y70->Option (Int)) (x:aF×Zy):Option (Int):=
 (aL (x.1,(List.length x.1:Int),(0:Int),x.2))
def uQ (N:Nat) (x:aF×Zy):Option (Int):=iZ (Gb (bD N) N) x
theorem QXO (N:Nat) (x:aF×Zy):rise (QF4) QH2 6 N Tryz.f82 [ru,y5] [Z2] [false] x=uQ N x:=Eq.trans (b:=iZ (fun v=>Ot (ZR (QF4) QH2 6 N Tryz.f82 [Z2] [false] [] 0 Xv) N (QAe v)) x) (by kernel_rfl) (by rw [funext (Tf QAe (QOP N) N)];rfl)
def fC (x:aF×Zy):Option (Int):=uQ big x
def QPV:U0:=⟨[ru,y5],[Z2],[false],fun x=>fC x⟩
theorem QVB:Hw Tryz.prog 82 QPV:=rz (E:=QF4) ⟨aM,(YH QJO Yc),fun _ _ _=>rfl,mixed,(YP (YO Tryz.func131 rfl rfl (by kernel_rfl)) (YP (YO Tryz.func132 rfl rfl (by kernel_rfl)) (YP (YO Tryz.func167 rfl rfl (by kernel_rfl)) Yt))),Y0,Yz⟩ Tryz.func82 fun _ _ h=>(QXO big _).trans h
def QM6:LT:={ live:=[(5,[4,17,18,19])],keep:=[] }
noncomputable def QJ4:Bn:={ tab:=tab,fs:=[(168,QQm),(169,QQn)],inl:=[] }
noncomputable def QDg (v:Zy×Int×Int×aB):St:={ s:=[(4,(.row 0)),(17,(.val ⟨y5,v.1⟩)),(18,(.val ⟨Z2,v.2.1⟩)),(19,(.val ⟨Z2,v.2.2.1⟩))],l:=[(0,.row Z18 v.2.2.2)],k:=[],b:=4096 }
def mY (aI:Zy×Int×Int×aB->Option (aB×Int)) (v:Zy×Int×Int×aB):Option (aB×Int):=
 (bif (decide (v.2.2.1 < v.2.1)) then ((Nk v.1 v.2.2.1).bind fun x4=>(let x5:Int:=(IntKind.i64.wrap ((List.length v.2.2.2:Int) - 1));(bif (decide (0<=x5)&&decide (x5 < (List.length v.2.2.2:Int))) then ((nth v.2.2.2 (Int.toNat x5)).bind fun x6=>((gq (x6,(v.2.2.1,(x4,())))).bind fun x7=>(bif (!x7) then (let x8:aB:=([(v.2.2.1,(x4,()))]:aB);(bif (Nat.ble 1 2&&Nat.ble (List.length v.2.2.2+List.length x8) lim) then (let x9:Int:=(IntKind.i64.wrap (v.2.2.1+1));(aI (v.1,v.2.1,x9,(List.append v.2.2.2 x8)))) else none)) else (let gH:Int:=(IntKind.i64.wrap (v.2.2.1+1));(aI (v.1,v.2.1,gH,v.2.2.2)))))) else none))) else (some (v.2.2.2,(0:Int))))
def qV (N:Nat) (aI:Zy×Int×Int×aB->Option (aB×Int)) (v:Zy×Int×Int×aB):Option (aB×Int):=mY aI v
theorem QOQ (N:Nat) (s0:St->Option (aB×Int)) (v):(ZR (QJ4) QM6 6 N Tryz.f133 [Z6,Z2] [true,false] [] 0 Xv) s0 (QDg v)=qV N (fun v=>s0 (QDg v)) v:=by kernel_rfl
def vS (aL:Zy×Int×Int×aB->Option (aB×Int)) (x:Zy):Option (aB×Int):=
 ((kH (List.length x:Int)).bind fun x1=>(bif (!x1) then (some (([]:List yx),(2:Int))) else ((Nk x (0:Int)).bind fun x2=>(let x3:aB:=([((0:Int),(x2,()))]:aB);(aL (x,(List.length x:Int),(0:Int),x3))))))
def QC7 (N:Nat) (x:Zy):Option (aB×Int):=vS (Gb (qV N) N) x
theorem QXP (N:Nat) (x:Zy):rise (QJ4) QM6 6 N Tryz.f133 [y5] [Z6,Z2] [true,false] x=QC7 N x:=Eq.trans (b:=vS (fun v=>Ot (ZR (QJ4) QM6 6 N Tryz.f133 [Z6,Z2] [true,false] [] 0 Xv) N (QDg v)) x) (by kernel_rfl) (by rw [funext (Tf QDg (QOQ N) N)];rfl)
def um (x:Zy):Option (aB×Int):=QC7 big x
def QLa:U0:=⟨[y5],[Z6,Z2],[true,false],fun x=>um x⟩
theorem QQ2:Hw Tryz.prog 133 QLa:=rz (E:=QJ4) ⟨aM,(YH QVh (YH QVi Yc)),fun _ _ _=>rfl,mixed,Yt,Y0,Yz⟩ Tryz.func133 fun _ _ h=>(QXP big _).trans h
def QM7:LT:={ live:=[(3,[3,11,12,13])],keep:=[] }
noncomputable def QJ5 (mk:(α:Type)->Nat->α->List α):Bn:={ tab:=tab,fs:=[(133,QLa)],inl:=[],rep:=mk }
noncomputable def QDh (v:Y71):St:={ s:=[(3,(.row 0)),(11,(.val ⟨Z5,v.1⟩)),(12,(.val ⟨Z2,v.2.1⟩)),(13,(.val ⟨Z2,v.2.2.1⟩))],l:=[(0,.row yT v.2.2.2)],k:=[],b:=4096 }
def qW (mk:(α:Type)->Nat->α->List α) (aI:Y71->Option (aB)) (v:Y71):Option (aB):=
 (bif (decide (v.2.2.1 < v.2.1)) then ((Nk v.1 v.2.2.1).bind fun x2=>(bif (decide (0<=v.2.2.1)&&decide (v.2.2.1 < (List.length v.2.2.2:Int))) then (let x3:Zy:=(List.set v.2.2.2 (Int.toNat v.2.2.1) (IntKind.u64.wrap x2));(let x4:Int:=(IntKind.i64.wrap (v.2.2.1+1));(aI (v.1,v.2.1,x4,x3)))) else none)) else ((um v.2.2.2).bind fun x5=>(some x5.1)))
def eB (mk:(α:Type)->Nat->α->List α) (N:Nat) (aI:Y71->Option (aB)) (v:Y71):Option (aB):=qW mk aI v
theorem QOR (mk:(α:Type)->Nat->α->List α) (N:Nat) (s0:St->Option (aB)) (v):(ZR (QJ5 mk) QM7 6 N Tryz.f83 [Z6] [true] [] 0 Xv) s0 (QDh v)=eB mk N (fun v=>s0 (QDh v)) v:=by kernel_rfl
def oV (mk:(α:Type)->Nat->α->List α) (aL:Y71->Option (aB)) (x:Zy):Option (aB):=
 (bif (decide (0<=(List.length x:Int))&&(decide ((List.length x:Int)<=(List.length x:Int))&&(decide ((List.length x:Int)<=68719476736)&&true))) then (let x1:Zy:=(mk Int (Int.toNat (List.length x:Int)) (0:Int));(aL (x,(List.length x:Int),(0:Int),x1))) else none)
def zl (mk:(α:Type)->Nat->α->List α) (N:Nat) (x:Zy):Option (aB):=oV mk (Gb (eB mk N) N) x
theorem QXQ (mk:(α:Type)->Nat->α->List α) (N:Nat) (x:Zy):rise (QJ5 mk) QM7 6 N Tryz.f83 [Z5] [Z6] [true] x=zl mk N x:=Eq.trans (b:=oV mk (fun v=>Ot (ZR (QJ5 mk) QM7 6 N Tryz.f83 [Z6] [true] [] 0 Xv) N (QDh v)) x) (by kernel_rfl) (by rw [funext (Tf QDh (QOR mk N) N)];rfl)
def kE (x:Zy):Option (aB):=zl (fun _=>List.replicate) big x
def QPW:U0:=⟨[Z5],[Z6],[true],fun x=>kE x⟩
theorem QVC:Hw Tryz.prog 83 QPW:=rz (E:=QJ5 (fun _=>List.replicate)) ⟨aM,(YH QQ2 Yc),fun _ _ _=>rfl,mixed,Yt,Y0,Yz⟩ Tryz.func83 fun _ _ h=>(QXQ (fun _=>List.replicate) big _).trans h
def QM8:LT:={ live:=[(3,[3,11,12,13])],keep:=[] }
noncomputable def QJ6 (mk:(α:Type)->Nat->α->List α):Bn:={ tab:=tab,fs:=[(133,QLa)],inl:=[],rep:=mk }
noncomputable def QDi (v:Y71):St:={ s:=[(3,(.row 0)),(11,(.val ⟨y5,v.1⟩)),(12,(.val ⟨Z2,v.2.1⟩)),(13,(.val ⟨Z2,v.2.2.1⟩))],l:=[(0,.row yT v.2.2.2)],k:=[],b:=4096 }
def mG (mk:(α:Type)->Nat->α->List α) (aI:Y71->Option (aB)) (v:Y71):Option (aB):=
 (bif (decide (v.2.2.1 < v.2.1)) then ((Nk v.1 v.2.2.1).bind fun x2=>(bif (decide (0<=v.2.2.1)&&decide (v.2.2.1 < (List.length v.2.2.2:Int))) then (let x3:Zy:=(List.set v.2.2.2 (Int.toNat v.2.2.1) x2);(let x4:Int:=(IntKind.i64.wrap (v.2.2.1+1));(aI (v.1,v.2.1,x4,x3)))) else none)) else ((um v.2.2.2).bind fun x5=>(some x5.1)))
def bf (mk:(α:Type)->Nat->α->List α) (N:Nat) (aI:Y71->Option (aB)) (v:Y71):Option (aB):=mG mk aI v
theorem QOS (mk:(α:Type)->Nat->α->List α) (N:Nat) (s0:St->Option (aB)) (v):(ZR (QJ6 mk) QM8 6 N Tryz.f84 [Z6] [true] [] 0 Xv) s0 (QDi v)=bf mk N (fun v=>s0 (QDi v)) v:=by kernel_rfl
def j3 (mk:(α:Type)->Nat->α->List α) (aL:Y71->Option (aB)) (x:Zy):Option (aB):=
 (bif (decide (0<=(List.length x:Int))&&(decide ((List.length x:Int)<=(List.length x:Int))&&(decide ((List.length x:Int)<=68719476736)&&true))) then (let x1:Zy:=(mk Int (Int.toNat (List.length x:Int)) (0:Int));(aL (x,(List.length x:Int),(0:Int),x1))) else none)
def wJ (mk:(α:Type)->Nat->α->List α) (N:Nat) (x:Zy):Option (aB):=j3 mk (Gb (bf mk N) N) x
theorem QXR (mk:(α:Type)->Nat->α->List α) (N:Nat) (x:Zy):rise (QJ6 mk) QM8 6 N Tryz.f84 [y5] [Z6] [true] x=wJ mk N x:=Eq.trans (b:=j3 mk (fun v=>Ot (ZR (QJ6 mk) QM8 6 N Tryz.f84 [Z6] [true] [] 0 Xv) N (QDi v)) x) (by kernel_rfl) (by rw [funext (Tf QDi (QOS mk N) N)];rfl)
def fT (x:Zy):Option (aB):=wJ (fun _=>List.replicate) big x
def QPX:U0:=⟨[y5],[Z6],[true],fun x=>fT x⟩
theorem QVD:Hw Tryz.prog 84 QPX:=rz (E:=QJ6 (fun _=>List.replicate)) ⟨aM,(YH QQ2 Yc),fun _ _ _=>rfl,mixed,Yt,Y0,Yz⟩ Tryz.func84 fun _ _ h=>(QXR (fun _=>List.replicate) big _).trans h
def QWH:LT:={ live:=[],keep:=[] }
noncomputable def QTh:Bn:={ tab:=tab,fs:=[(78,QKV),(79,QPH),(80,QPP),(81,QPU),(82,QPV),(83,QPW),(84,QPX)],inl:=[] }
def qy (x:Zx×Int×Zy):Option (Zw×Int×Int):=
 ((Nk x.1.2.2.1 x.2.1).bind fun x1=>((lu x1.2.2.2.2.1).bind fun x2=>(bif (x2 != 0) then (let x3:Zw:=(([]:List Int),((0:Int),((0:Int),(([]:aC),(([]:aF),(([]:aB),(([]:aB),())))))));(some (x3,(-1:Int),(12:Int)))) else (bif (x.2.1==0) then (bif (decide (x1.2.1 > 0)) then (let x4:Zw:=(([]:List Int),((0:Int),((0:Int),(([]:aC),(([]:aF),(([]:aB),(([]:aB),())))))));(some (x4,(-1:Int),(30:Int)))) else (bif (x1.2.2.1 != (-1:Int)) then (let x5:Zw:=(([]:List Int),((0:Int),((0:Int),(([]:aC),(([]:aF),(([]:aB),(([]:aB),())))))));(some (x5,(-1:Int),(30:Int)))) else ((bZ (x.1,(x1,()))).bind fun x6=>(bif (x6.2 != 0) then (let x7:Zw:=(([]:List Int),((0:Int),((0:Int),(([]:aC),(([]:aF),(([]:aB),(([]:aB),())))))));(some (x7,x6.1,x6.2))) else ((fD ((x.1,(x1,())),x.2.2)).bind fun x8=>(bif (!x8.2) then (let x9:Zw:=(([]:List Int),((0:Int),((0:Int),(([]:aC),(([]:aF),(([]:aB),(([]:aB),())))))));(some (x9,(-1:Int),(36:Int)))) else ((pO (x1.2.2.2.2.1,x1.2.1,(List.length x1.2.2.2.1:Int))).bind fun gH=>((fC (x1.2.2.2.2.1,gH.1)).bind fun nV=>(bif (nV != (-1:Int)) then (let pU:Zw:=(([]:List Int),((0:Int),((0:Int),(([]:aC),(([]:aF),(([]:aB),(([]:aB),())))))));(some (pU,nV,(38:Int)))) else ((kE x8.1).bind fun rE=>((fT gH.1).bind fun kM=>(some ((x1.1,(x1.2.1,(x1.2.2.1,(x1.2.2.2.1,(x1.2.2.2.2.1,(rE,(kM,x1.2.2.2.2.2.2.2))))))),(0:Int),(0:Int)))))))))))))) else ((bZ (x.1,(x1,()))).bind fun jf=>(bif (jf.2 != 0) then (let vU:Zw:=(([]:List Int),((0:Int),((0:Int),(([]:aC),(([]:aF),(([]:aB),(([]:aB),())))))));(some (vU,jf.1,jf.2))) else ((fD ((x.1,(x1,())),x.2.2)).bind fun yQ=>(bif (!yQ.2) then (let x18:Zw:=(([]:List Int),((0:Int),((0:Int),(([]:aC),(([]:aF),(([]:aB),(([]:aB),())))))));(some (x18,(-1:Int),(36:Int)))) else ((pO (x1.2.2.2.2.1,x1.2.1,(List.length x1.2.2.2.1:Int))).bind fun zh=>((fC (x1.2.2.2.2.1,zh.1)).bind fun x20=>(bif (x20 != (-1:Int)) then (let x21:Zw:=(([]:List Int),((0:Int),((0:Int),(([]:aC),(([]:aF),(([]:aB),(([]:aB),())))))));(some (x21,x20,(38:Int)))) else ((kE yQ.1).bind fun x22=>((fT zh.1).bind fun x23=>(some ((x1.1,(x1.2.1,(x1.2.2.1,(x1.2.2.2.1,(x1.2.2.2.2.1,(x22,(x23,x1.2.2.2.2.2.2.2))))))),(0:Int),(0:Int))))))))))))))))
def lG (x:Zx×Int×Zy):Option (Zw×Int×Int):=qy x
def QPY:U0:=⟨[Z1,Z2,Z5],[Z0,Z2,Z2],[false,false,false],fun x=>lG x⟩
theorem QVE:Hw Tryz.prog 44 QPY:=rz (E:=QTh) (lt:=QWH) (lv:=6) (N:=big) ⟨aM,(YH QLo (YH QUw (YH QV5 (YH QVA (YH QVB (YH QVC (YH QVD Yc))))))),fun _ _ _=>rfl,mixed,Yt,Y0,Yz⟩ Tryz.func44 fun x _ h=>Eq.trans (b:=lG x) (by kernel_rfl) h
def QM9:LT:={ live:=[(4,[0,1,12,13])],keep:=[] }
noncomputable def QJ7:Bn:={ tab:=tab,fs:=[],inl:=[] }
noncomputable def QDj (v:aB×aB×Int×Int):St:={ s:=[(0,(.val ⟨Z6,v.1⟩)),(1,(.val ⟨Z6,v.2.1⟩)),(12,(.val ⟨Z2,v.2.2.1⟩)),(13,(.val ⟨Z2,v.2.2.2⟩))],l:=[],k:=[],b:=4096 }
def dL (aI:aB×aB×Int×Int->Option (Bool)) (v:aB×aB×Int×Int):Option (Bool):=
 (bif (decide (v.2.2.2 < v.2.2.1)) then ((Nk v.1 v.2.2.2).bind fun x1=>((Nk v.2.1 v.2.2.2).bind fun x2=>(bif (!(JW Z18 x1 x2)) then (some false) else (let x3:Int:=(IntKind.i64.wrap (v.2.2.2+1));(aI (v.1,v.2.1,v.2.2.1,x3)))))) else (some true))
def aV (N:Nat) (aI:aB×aB×Int×Int->Option (Bool)) (v:aB×aB×Int×Int):Option (Bool):=dL aI v
theorem QOT (N:Nat) (s0:St->Option (Bool)) (v):(ZR (QJ7) QM9 6 N Tryz.f56 [.bool] [false] [] 0 Xv) s0 (QDj v)=aV N (fun v=>s0 (QDj v)) v:=by kernel_rfl
def bP (aL:aB×aB×Int×Int->Option (Bool)) (x:aB×aB):Option (Bool):=
 (bif ((List.length x.1:Int) != (List.length x.2:Int)) then (some false) else (aL (x.1,x.2,(List.length x.1:Int),(0:Int))))
def jg (N:Nat) (x:aB×aB):Option (Bool):=bP (Gb (aV N) N) x
theorem QXS (N:Nat) (x:aB×aB):rise (QJ7) QM9 6 N Tryz.f56 [Z6,Z6] [.bool] [false] x=jg N x:=Eq.trans (b:=bP (fun v=>Ot (ZR (QJ7) QM9 6 N Tryz.f56 [.bool] [false] [] 0 Xv) N (QDj v)) x) (by kernel_rfl) (by rw [funext (Tf QDj (QOT N) N)];rfl)
def bO (x:aB×aB):Option (Bool):=jg big x
def QPZ:U0:=⟨[Z6,Z6],[.bool],[false],fun x=>bO x⟩
theorem QVF:Hw Tryz.prog 56 QPZ:=rz (E:=QJ7) ⟨aM,Yc,fun _ _ _=>rfl,mixed,Yt,Y0,Yz⟩ Tryz.func56 fun _ _ h=>(QXS big _).trans h
def QMA:LT:={ live:=[(6,[1,6,21,22,23])],keep:=[] }
noncomputable def QJ8:Bn:={ tab:=tab,fs:=[(42,QQr),(44,QPY),(45,QUi),(56,QPZ)],inl:=[] }
noncomputable def QDk (v:Y54):St:={ s:=[(1,(.loc 0 [])),(6,(.val ⟨Z5,v.1⟩)),(21,(.val ⟨(.slice Z0),v.2.1⟩)),(22,(.val ⟨Z2,v.2.2.1⟩)),(23,(.val ⟨Z2,v.2.2.2.1⟩))],l:=[(0,.var Z1 (.val ⟨Z1,v.2.2.2.2⟩))],k:=[],b:=4096 }
def vv (aI:Y54->Option Y19) (v:Y54):Option Y19:=
 (bif (decide (v.2.2.2.1 < v.2.2.1)) then ((Nk v.2.1 v.2.2.2.1).bind fun x3=>((lG (v.2.2.2.2,v.2.2.2.1,v.1)).bind fun x4=>(bif (x4.2.2 != 0) then (some (v.2.2.2.1,x4.2.1,x4.2.2)) else ((bO (x3.2.2.2.2.2.1,x4.1.2.2.2.2.2.1)).bind fun x5=>(bif (!x5) then (some (v.2.2.2.1,(-1:Int),(32:Int))) else ((bO (x3.2.2.2.2.2.2.1,x4.1.2.2.2.2.2.2.1)).bind fun x6=>(bif (!x6) then (some (v.2.2.2.1,(-1:Int),(32:Int))) else (let x7:Int:=(IntKind.i64.wrap (v.2.2.2.1+1));(aI (v.1,v.2.1,v.2.2.1,x7,v.2.2.2.2)))))))))) else (some ((0:Int),(0:Int),(0:Int))))
def jF (N:Nat) (aI:Y54->Option Y19) (v:Y54):Option Y19:=vv aI v
theorem QOU (N:Nat) (s0:St->Option Y19) (v):(ZR (QJ8) QMA 6 N Tryz.f19 [Z2,Z2,Z2] [false,false,false] [] 0 Xv) s0 (QDk v)=jF N (fun v=>s0 (QDk v)) v:=by kernel_rfl
def u6 (aL:Y54->Option Y19) (x:Zx):Option Y19:=
 ((pz x).bind fun x1=>(bif (x1 != 0) then (some ((0:Int),(0:Int),x1)) else ((ng x.1).bind fun x2=>(aL (x2,x.2.2.1,(List.length x.2.2.1:Int),(0:Int),x)))))
def QBi (N:Nat) (x:Zx):Option Y19:=u6 (Gb (jF N) N) x
theorem QXT (N:Nat) (x:Zx):rise (QJ8) QMA 6 N Tryz.f19 [Z1] [Z2,Z2,Z2] [false,false,false] x=QBi N x:=Eq.trans (b:=u6 (fun v=>Ot (ZR (QJ8) QMA 6 N Tryz.f19 [Z2,Z2,Z2] [false,false,false] [] 0 Xv) N (QDk v)) x) (by kernel_rfl) (by rw [funext (Tf QDk (QOU N) N)];rfl)
def pY (x:Zx):Option Y19:=QBi big x
def QLb:U0:=⟨[Z1],[Z2,Z2,Z2],[false,false,false],fun x=>pY x⟩
theorem QQ3:Hw Tryz.prog 19 QLb:=rz (E:=QJ8) ⟨aM,(YH QVn (YH QVE (YH QZS (YH QVF Yc)))),fun _ _ _=>rfl,mixed,Yt,Y0,Yz⟩ Tryz.func19 fun _ _ h=>(QXT big _).trans h
def QWI:LT:={ live:=[],keep:=[] }
noncomputable def QTi:Bn:={ tab:=tab,fs:=[(19,QLb)],inl:=[] }
def QGc (x:Zx):Option (Int):=
 ((pY x).bind fun x1=>(some x1.2.2))
def pX (x:Zx):Option (Int):=QGc x
def QLc:U0:=⟨[Z1],[Z2],[false],fun x=>pX x⟩
theorem QQ4:Hw Tryz.prog 23 QLc:=rz (E:=QTi) (lt:=QWI) (lv:=6) (N:=big) ⟨aM,(YH QQ3 Yc),fun _ _ _=>rfl,mixed,Yt,Y0,Yz⟩ Tryz.func23 fun x _ h=>Eq.trans (b:=pX x) (by kernel_rfl) h
def QWP:LT:={ live:=[],keep:=[] }
noncomputable def QTp:Bn:={ tab:=tab,fs:=[],inl:=[] }
def wM (x:Y81):Option (Bool):=
 (bif (decide (x.1≥0)) then (some (decide (x.1 < x.2))) else (some false))
def lg (x:Y81):Option (Bool):=wM x
def QPh:U0:=⟨[Z2,Z2],[.bool],[false],fun x=>lg x⟩
theorem QVO:Hw Tryz.prog 43 QPh:=rz (E:=QTp) (lt:=QWP) (lv:=6) (N:=big) ⟨aM,Yc,fun _ _ _=>rfl,mixed,Yt,Y0,Yz⟩ Tryz.func43 fun x _ h=>Eq.trans (b:=lg x) (by kernel_rfl) h
def QME:LT:={ live:=[(3,[2,5,8,9,10])],keep:=[] }
noncomputable def QJC:Bn:={ tab:=tab,fs:=[(90,QCz)],inl:=[] }
noncomputable def QDo (v:Y63):St:={ s:=[(2,(.loc 0 [])),(5,(.row 1)),(8,(.val ⟨Z5,v.1⟩)),(9,(.val ⟨Z2,v.2.1⟩)),(10,(.val ⟨Z2,v.2.2.1⟩))],l:=[(0,.var Z7 (.val ⟨Z7,v.2.2.2.1⟩)),(1,.row Z2 v.2.2.2.2)],k:=[],b:=4096 }
def jv (aI:Y63->Option (Zy)) (v:Y63):Option (Zy):=
 (bif (decide (v.2.2.1 < v.2.1)) then ((Nk v.1 v.2.2.1).bind fun x1=>((aQ (v.2.2.2.1,x1)).bind fun x2=>(bif (Nat.ble 1 1&&Nat.ble (List.length v.2.2.2.2+List.length ([x2]:Zy)) lim) then (let x3:Zy:=(List.append v.2.2.2.2 ([x2]:Zy));(let x4:Int:=(IntKind.i64.wrap (v.2.2.1+1));(aI (v.1,v.2.1,x4,v.2.2.2.1,x3)))) else none))) else (some v.2.2.2.2))
def bJ (N:Nat) (aI:Y63->Option (Zy)) (v:Y63):Option (Zy):=jv aI v
theorem QOY (N:Nat) (s0:St->Option (Zy)) (v):(ZR (QJC) QME 6 N Tryz.f51 [Z5] [true] [] 0 Xv) s0 (QDo v)=bJ N (fun v=>s0 (QDo v)) v:=by kernel_rfl
def iN (aL:Y63->Option (Zy)) (x:aD×Zy):Option (Zy):=
 (aL (x.2,(List.length x.2:Int),(0:Int),x.1,([]:List Int)))
def tL (N:Nat) (x:aD×Zy):Option (Zy):=iN (Gb (bJ N) N) x
theorem QXX (N:Nat) (x:aD×Zy):rise (QJC) QME 6 N Tryz.f51 [Z7,Z5] [Z5] [true] x=tL N x:=Eq.trans (b:=iN (fun v=>Ot (ZR (QJC) QME 6 N Tryz.f51 [Z5] [true] [] 0 Xv) N (QDo v)) x) (by kernel_rfl) (by rw [funext (Tf QDo (QOY N) N)];rfl)
def gX (x:aD×Zy):Option (Zy):=tL big x
def QPi:U0:=⟨[Z7,Z5],[Z5],[true],fun x=>gX x⟩
theorem QVP:Hw Tryz.prog 51 QPi:=rz (E:=QJC) ⟨aM,(YH QE2 Yc),fun _ _ _=>rfl,mixed,Yt,Y0,Yz⟩ Tryz.func51 fun _ _ h=>(QXX big _).trans h
def QWQ:LT:={ live:=[],keep:=[] }
noncomputable def QTq:Bn:={ tab:=tab,fs:=[(42,QQr),(43,QPh),(48,QLU),(49,QLW),(50,QGz),(51,QPi)],inl:=[] }
def zR (x:Zx×Int×Int):Option Y21:=
 ((pz x.1).bind fun x1=>(bif (x1 != 0) then (some (([]:List Int),([]:List Int),x1)) else ((lg (x.2.1,(List.length x.1.2.2.1:Int))).bind fun x2=>(bif (!x2) then (some (([]:List Int),([]:List Int),(2:Int))) else ((Nk x.1.2.2.1 x.2.1).bind fun x3=>((lg (x.2.2,(List.length x3.2.2.2.2.1:Int))).bind fun x4=>(bif (!x4) then (some (([]:List Int),([]:List Int),(2:Int))) else ((Nk x.1.2.2.1 x.2.1).bind fun x5=>((Nk (x.1,(x5,())).2.1.2.2.2.2.1 x.2.2).bind fun x6=>((fG ((x.1,(x5,())),x6)).bind fun x7=>(bif (!x7) then (some (([]:List Int),([]:List Int),(16:Int))) else ((gW ((x.1,(x5,())),x6)).bind fun x8=>(bif (!x8) then (some (([]:List Int),([]:List Int),(30:Int))) else ((o9 x6).bind fun x9=>((gX ((x.1,(x5,())),x9.1)).bind fun gH=>((gX ((x.1,(x5,())),x9.2.1)).bind fun nV=>(some (gH,nV,(0:Int)))))))))))))))))))
def uT (x:Zx×Int×Int):Option Y21:=zR x
def QPj:U0:=⟨[Z1,Z2,Z2],[Z5,Z5,Z2],[true,false,false],fun x=>uT x⟩
theorem QVQ:Hw Tryz.prog 15 QPj:=rz (E:=QTq) (lt:=QWQ) (lv:=6) (N:=big) ⟨aM,(YH QVn (YH QVO (YH QPw (YH QPy (YH QJO (YH QVP Yc)))))),fun _ _ _=>rfl,mixed,Yt,Y0,Yz⟩ Tryz.func15 fun x _ h=>Eq.trans (b:=uT x) (by kernel_rfl) h
end Go.Proofs.YtbgmjjplddddnaaGreatDoor
