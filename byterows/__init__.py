"""Bytes looked through; the calls are in byterows.rows."""
